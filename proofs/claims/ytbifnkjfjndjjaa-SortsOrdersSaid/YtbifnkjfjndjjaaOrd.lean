/-
  The order: sorts.order, sorts.Order, and the reference's Rank and Order.
-/
import Derived.Test.YtbifnkjfjndjjaaSize
namespace Go.Proofs.Ytbifnkjfjndjjaa
open Go.RowKit

set_option maxHeartbeats 400000 in
theorem order_any (K : Nat) : ∀ (s : S) (v : Value) (w : World) (lo hi : Nat), s.count ≤ K → s.count ≤ 1000 → s.In w lo hi v → hi ≤ w.heap.size →
    Calls Try.prog 41 #[.agg #[v]] w fun e w' => e = .returned (.int .i64 (s.ord : Int)) ∧ Below w.heap.size w w' := by
  induction K with
  | zero => intro s; have := s.count_pos; omega
  | succ K ih =>
    intro s v w lo hi hK hm hin hhi
    obtain ⟨l⟩ := s
    simp only [S.In] at hin
    obtain ⟨A, _, c, rfl, rfl, hnc, hc, hall⟩ := hin
    go_enter Try.func41, Try.ntmps41
    go_wp2_with fail
    go_loopw [3, 9] (fun n i wr => ∃ k : Nat, k ≤ l.length ∧ i = .int .i64 k ∧ n = .int .i64 ((S.ordL (l.take k) : Nat) : Int) ∧ Below w.heap.size w wr) (fun _ i _ => l.length - (intOf i).toNat)
    case atStart => exact ⟨0, Nat.zero_le _, rfl, by simp [S.ordL], (Below.refl _ _).alloc (Nat.le_refl _) _⟩
    case round =>
      obtain ⟨k, hk, rfl, rfl, hbel⟩ := hrel
      have hsz := hbel.size
      by_cases hlt : k < l.length
      · have hx : l[k]? = some l[k] := List.getElem?_eq_getElem hlt
        have hcs := S.ordL_take_succ l k _ hx
        have hcl := S.count_lt hx
        have hd1 := l[k].deep_le
        have hd4 := l[k].ord_lt
        obtain ⟨ad, u, rfl, _, hadb, hcell, hinx⟩ := hall.at_ hx
        rw [Nat.zero_add] at hcell
        have hcellr : wr.cell? (ad.add k) = some u := (hbel.cell (by rw [block_of_add]; omega)).trans hcell
        obtain ⟨A', n', c', rfl⟩ := hinx.form
        have hinr := hinx.below (hbel.trans (((Below.refl _ _).alloc hsz (.cells #[.slice A' n' c'] 24)))) hhi
        have hd2 : S.ordL (l.take k) ≤ S.ordL l := S.ordL_take_le l k
        have hd5 := S.ordL_le l
        have hd3 := S.deepL_le l
        simp only [S.count] at hm hcl hK
        generalize l[k] = x at *
        have HS := Lib.hid hcs
        clear hcs hx hcell
        go_wp2_with fail
        refine (ih x _ _ lo hi (by omega) (by omega) hinr (by simp; omega)).mono ?_
        rintro e w1 ⟨rfl, hb1⟩
        simp only [World.size_alloc] at hb1
        go_wp2_with fail
        all_goals
          go_roundw
          case rel => exact ⟨k + 1, by omega, by go_num, congrArg (Value.int .i64) (by have h2 := HS.out; omega), hbel.trans (((Below.refl _ _).alloc hsz _).trans (hb1.mono (by omega)))⟩
          case measure => simp [intOf]; omega
      · have hfin : ((S.ordL (l.take k) : Nat) : Int) = ((S.mk l).ord : Int) := by rw [List.take_of_length_le (by omega)]; simp [S.ord]
        have HF := Lib.hid hfin
        clear hfin
        go_wp2_with fail
        go_ret
        exact ⟨ret_int HF.out, hbel⟩

set_option maxHeartbeats 400000 in
theorem rank_any (K : Nat) : ∀ (s : S) (v : Value) (w : World) (lo hi : Nat), s.count ≤ K → s.count ≤ 1000 → s.In w lo hi v → hi ≤ w.heap.size →
    Calls Try.prog 42 #[.agg #[v]] w fun e w' => e = .returned (.int .i64 (s.ord : Int)) ∧ Below w.heap.size w w' := by
  induction K with
  | zero => intro s; have := s.count_pos; omega
  | succ K ih =>
    intro s v w lo hi hK hm hin hhi
    obtain ⟨l⟩ := s
    simp only [S.In] at hin
    obtain ⟨A, _, c, rfl, rfl, hnc, hc, hall⟩ := hin
    go_enter Try.func42, Try.ntmps42
    go_wp2_with fail
    go_loopw [3, 9] (fun n i wr => ∃ k : Nat, k ≤ l.length ∧ i = .int .i64 k ∧ n = .int .i64 ((S.ordL (l.take k) : Nat) : Int) ∧ Below w.heap.size w wr) (fun _ i _ => l.length - (intOf i).toNat)
    case atStart => exact ⟨0, Nat.zero_le _, rfl, by simp [S.ordL], (Below.refl _ _).alloc (Nat.le_refl _) _⟩
    case round =>
      obtain ⟨k, hk, rfl, rfl, hbel⟩ := hrel
      have hsz := hbel.size
      by_cases hlt : k < l.length
      · have hx : l[k]? = some l[k] := List.getElem?_eq_getElem hlt
        have hcs := S.ordL_take_succ l k _ hx
        have hcl := S.count_lt hx
        have hd1 := l[k].deep_le
        have hd4 := l[k].ord_lt
        obtain ⟨ad, u, rfl, _, hadb, hcell, hinx⟩ := hall.at_ hx
        rw [Nat.zero_add] at hcell
        have hcellr : wr.cell? (ad.add k) = some u := (hbel.cell (by rw [block_of_add]; omega)).trans hcell
        obtain ⟨A', n', c', rfl⟩ := hinx.form
        have hinr := hinx.below (hbel.trans (((Below.refl _ _).alloc hsz (.cells #[.slice A' n' c'] 24)))) hhi
        have hd2 : S.ordL (l.take k) ≤ S.ordL l := S.ordL_take_le l k
        have hd5 := S.ordL_le l
        have hd3 := S.deepL_le l
        simp only [S.count] at hm hcl hK
        generalize l[k] = x at *
        have HS := Lib.hid hcs
        clear hcs hx hcell
        go_wp2_with fail
        refine (ih x _ _ lo hi (by omega) (by omega) hinr (by simp; omega)).mono ?_
        rintro e w1 ⟨rfl, hb1⟩
        simp only [World.size_alloc] at hb1
        go_wp2_with fail
        all_goals
          go_roundw
          case rel => exact ⟨k + 1, by omega, by go_num, congrArg (Value.int .i64) (by have h2 := HS.out; omega), hbel.trans (((Below.refl _ _).alloc hsz _).trans (hb1.mono (by omega)))⟩
          case measure => simp [intOf]; omega
      · have hfin : ((S.ordL (l.take k) : Nat) : Int) = ((S.mk l).ord : Int) := by rw [List.take_of_length_le (by omega)]; simp [S.ord]
        have HF := Lib.hid hfin
        clear hfin
        go_wp2_with fail
        go_ret
        exact ⟨ret_int HF.out, hbel⟩

/-- What Order returns. -/
def S.orders (s : S) : Int × Int := if s.ok then ((s.ord : Int), 0) else (0, 6)
set_option maxHeartbeats 400000 in
theorem Order_any (s : S) (v : Value) (w : World) (lo hi : Nat) (hin : s.In w lo hi v) (hhi : hi ≤ w.heap.size) :
    Calls Try.prog 20 #[.agg #[v]] w fun e w' => e = .returned (.tuple #[.int .i64 s.orders.1, .int .i64 s.orders.2]) ∧ Below w.heap.size w w' := by
  obtain ⟨A, n, c, rfl⟩ := hin.form
  have hw1 : Below w.heap.size w (w.alloc (.cells #[.slice A n c] 24)) := (Below.refl _ _).alloc (Nat.le_refl _) _
  have hin1 := hin.below hw1 hhi
  have hbk := Blk.new w 24 #[.slice A n c]
  have HC := Lib.hid (check_any s _ _ lo hi hin1 (by simp; omega))
  cases hok : s.ok with
  | true =>
    have hcnt := S.ok_count hok
    have HO : Hid (s.orders = ((s.ord : Int), 0)) := Lib.hid (by simp [S.orders, hok])
    rw [hok] at HC
    clear hok
    go_enter Try.func20, Try.ntmps20
    go_wp2_with fail
    refine HC.out.mono ?_
    rintro e w1 ⟨rfl, hb1⟩
    simp only [errOf, if_true]
    have hc1 := (hbk.below hb1 (by simp)).cell 0
    have hin2 := hin1.below hb1 (by simp; omega)
    have hz := hb1.size
    simp only [World.size_alloc] at hb1 hz
    go_wp2_with fail
    refine (order_any _ s _ _ lo hi (Nat.le_refl _) (by omega) hin2 (by omega)).mono ?_
    rintro e w2 ⟨rfl, hb2⟩
    go_wp2_with fail
    go_ret2
    exact ⟨by rw [HO.out]; rfl, (hw1.trans (hb1.mono (by omega))).trans (hb2.mono (by omega))⟩
  | false =>
    have HO : Hid (s.orders = (0, 6)) := Lib.hid (by simp [S.orders, hok])
    rw [hok] at HC
    clear hok
    go_enter Try.func20, Try.ntmps20
    go_wp2_with fail
    refine HC.out.mono ?_
    rintro e w1 ⟨rfl, hb1⟩
    rw [show errOf false = 6 from rfl]
    simp only [World.size_alloc] at hb1
    go_wp2_with fail
    go_ret2
    exact ⟨by rw [HO.out]; rfl, hw1.trans (hb1.mono (by omega))⟩

set_option maxHeartbeats 400000 in
theorem refOrder_any (s : S) (v : Value) (w : World) (lo hi : Nat) (hin : s.In w lo hi v) (hhi : hi ≤ w.heap.size) :
    Calls Try.prog 21 #[.agg #[v]] w fun e w' => e = .returned (.tuple #[.int .i64 s.orders.1, .int .i64 s.orders.2]) ∧ Below w.heap.size w w' := by
  obtain ⟨A, n, c, rfl⟩ := hin.form
  have hw1 : Below w.heap.size w (w.alloc (.cells #[.slice A n c] 24)) := (Below.refl _ _).alloc (Nat.le_refl _) _
  have hin1 := hin.below hw1 hhi
  have hbk := Blk.new w 24 #[.slice A n c]
  have HC := Lib.hid (is_any s _ _ lo hi hin1 (by simp; omega))
  cases hok : s.ok with
  | true =>
    have hcnt := S.ok_count hok
    have HO : Hid (s.orders = ((s.ord : Int), 0)) := Lib.hid (by simp [S.orders, hok])
    rw [hok] at HC
    clear hok
    go_enter Try.func21, Try.ntmps21
    go_wp2_with fail
    refine HC.out.mono ?_
    rintro e w1 ⟨rfl, hb1⟩
    have hc1 := (hbk.below hb1 (by simp)).cell 0
    have hin2 := hin1.below hb1 (by simp; omega)
    have hz := hb1.size
    simp only [World.size_alloc] at hb1 hz
    go_wp2_with fail
    refine (rank_any _ s _ _ lo hi (Nat.le_refl _) (by omega) hin2 (by omega)).mono ?_
    rintro e w2 ⟨rfl, hb2⟩
    go_wp2_with fail
    go_ret2
    exact ⟨by rw [HO.out]; rfl, (hw1.trans (hb1.mono (by omega))).trans (hb2.mono (by omega))⟩
  | false =>
    have HO : Hid (s.orders = (0, 6)) := Lib.hid (by simp [S.orders, hok])
    rw [hok] at HC
    clear hok
    go_enter Try.func21, Try.ntmps21
    go_wp2_with fail
    refine HC.out.mono ?_
    rintro e w1 ⟨rfl, hb1⟩
    simp only [World.size_alloc] at hb1
    go_wp2_with fail
    go_ret2
    exact ⟨by rw [HO.out]; rfl, hw1.trans (hb1.mono (by omega))⟩
end Go.Proofs.Ytbifnkjfjndjjaa
