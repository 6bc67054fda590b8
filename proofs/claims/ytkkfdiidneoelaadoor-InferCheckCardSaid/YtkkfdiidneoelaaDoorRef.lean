/-
  The reference's functions on sorts: contracts.
-/
import Derived.Test.YtkkfdiidneoelaaDoorMem
import Derived.Test.YtkkfdiidneoelaaDoorRows
namespace Go.Proofs.YtkkfdiidneoelaaDoor
open Go.RowKit

theorem ret_int {k : IntKind} {a b : Int} (h : a = b) : Ending.returned (.int k a) = .returned (.int k b) := by rw [h]
theorem ret_bool {a b : Bool} (h : a = b) : Ending.returned (.bool a) = .returned (.bool b) := by rw [h]
theorem countL_take_bound (l : List S) (k : Nat) (hk : k ≤ l.length) : k ≤ S.countL (l.take k) := by
  induction l generalizing k with
  | nil => simp at hk; omega
  | cons a r ih =>
    cases k with
    | zero => omega
    | succ k => simp at hk; have := ih k hk; have := a.count_pos; simp [S.countL]; omega

set_option maxHeartbeats 400000 in
theorem nodes_any (K : Nat) : ∀ (s : S) (v : Value) (m : Int) (w : World) (lo hi : Nat), s.count ≤ K → 0 ≤ m → m ≤ 1000 → s.In w lo hi v → hi ≤ w.heap.size →
    Calls Tryd.prog 18 #[.agg #[v], .int .i64 m] w fun e w' => e = .returned (.int .i64 (min (s.count : Int) (m + 1))) ∧ Below w.heap.size w w' := by
  induction K with
  | zero => intro s; have := s.count_pos; omega
  | succ K ih =>
    intro s v m w lo hi hK hm0 hm hin hhi
    obtain ⟨l⟩ := s
    simp only [S.In] at hin
    obtain ⟨A, _, c, rfl, rfl, hnc, hc, hall⟩ := hin
    go_enter Tryd.func18, Tryd.ntmps18
    go_wp2_with fail
    go_loopw [5, 6] (fun n i wr => ∃ k : Nat, k ≤ l.length ∧ i = .int .i64 k ∧ n = .int .i64 (min ((1 + S.countL (l.take k) : Nat) : Int) (m + 1)) ∧ Blk wr w.heap.size 41 #[.slice A l.length c] ∧ Below w.heap.size w wr) (fun _ i _ => l.length - (intOf i).toNat)
    case atStart => exact ⟨0, Nat.zero_le _, rfl, by simp only [S.countL, List.take_zero]; congr 1; omega, Blk.new _ _ _, (Below.refl _ _).alloc (Nat.le_refl _) _⟩
    case round =>
      obtain ⟨k, hk, rfl, rfl, hblk, hbel⟩ := hrel
      have hsz := hblk.lt
      have hc0 := hblk.cell 0
      by_cases hlt : k < l.length
      · have hx : l[k]? = some l[k] := List.getElem?_eq_getElem hlt
        have hcs := S.countL_take_succ l k _ hx
        have hcl := S.count_lt hx
        have hcp := l[k].count_pos
        obtain ⟨ad, u, rfl, _, hadb, hcell, hinx⟩ := hall.at_ hx
        rw [Nat.zero_add] at hcell
        have hcellr : wr.cell? (ad.add k) = some u := (hbel.cell (by rw [block_of_add]; omega)).trans hcell
        have hinr := hinx.below hbel hhi
        generalize l[k] = x at *
        generalize hN : min ((1 + S.countL (l.take k) : Nat) : Int) (m + 1) = N at *
        by_cases hle : N ≤ m
        · have HN := Lib.hid hN
          have hN1 : 1 ≤ N := by omega
          have HS := Lib.hid hcs
          clear hN hcs hx hcell
          go_wp2_with fail
          refine (ih x u (m - N) _ lo hi (by omega) (by omega) (by omega) hinr (by omega)).mono ?_
          rintro e w1 ⟨rfl, hb1⟩
          go_wp2_with fail
          go_roundw
          case rel => exact ⟨k + 1, by omega, by go_num, congrArg (Value.int .i64) (by have h1 := HN.out; have h2 := HS.out; omega), hblk.below hb1 hsz, hbel.trans (hb1.mono (by omega))⟩
          case measure => simp [intOf]; omega
        · have hcn : S.countL (l.take (k + 1)) ≤ S.countL l := S.countL_take_le l (k + 1)
          have hfin : min ((S.mk l).count : Int) (m + 1) = N := by simp only [S.count]; omega
          have HN := Lib.hid hN
          have HF := Lib.hid hfin
          clear hN hcs hx hcell hfin
          go_wp2_with fail
          go_ret
          exact ⟨ret_int HF.out.symm, hbel⟩
      · have hfin : min ((1 + S.countL (l.take k) : Nat) : Int) (m + 1) = min ((S.mk l).count : Int) (m + 1) := by rw [List.take_of_length_le (by omega)]; rfl
        go_wp2_with fail
        go_ret
        exact ⟨ret_int hfin, hbel⟩

set_option maxHeartbeats 400000 in
theorem depth_any (K : Nat) : ∀ (s : S) (v : Value) (w : World) (lo hi : Nat), s.count ≤ K → s.count ≤ 1000 → s.In w lo hi v → hi ≤ w.heap.size →
    Calls Tryd.prog 46 #[.agg #[v]] w fun e w' => e = .returned (.int .i64 (s.deep : Int)) ∧ Below w.heap.size w w' := by
  induction K with
  | zero => intro s; have := s.count_pos; omega
  | succ K ih =>
    intro s v w lo hi hK hm hin hhi
    obtain ⟨l⟩ := s
    simp only [S.In] at hin
    obtain ⟨A, _, c, rfl, rfl, hnc, hc, hall⟩ := hin
    go_enter Tryd.func46, Tryd.ntmps46
    go_wp2_with fail
    go_loopw [3, 9] (fun n i wr => ∃ k : Nat, k ≤ l.length ∧ i = .int .i64 k ∧ n = .int .i64 ((S.deepL (l.take k) : Nat) : Int) ∧ Below w.heap.size w wr) (fun _ i _ => l.length - (intOf i).toNat)
    case atStart => exact ⟨0, Nat.zero_le _, rfl, by simp [S.deepL], (Below.refl _ _).alloc (Nat.le_refl _) _⟩
    case round =>
      obtain ⟨k, hk, rfl, rfl, hbel⟩ := hrel
      have hsz := hbel.size
      by_cases hlt : k < l.length
      · have hx : l[k]? = some l[k] := List.getElem?_eq_getElem hlt
        have hcs := S.deepL_take_succ l k _ hx
        have hcl := S.count_lt hx
        have hd1 := l[k].deep_le
        obtain ⟨ad, u, rfl, _, hadb, hcell, hinx⟩ := hall.at_ hx
        rw [Nat.zero_add] at hcell
        have hcellr : wr.cell? (ad.add k) = some u := (hbel.cell (by rw [block_of_add]; omega)).trans hcell
        obtain ⟨A', n', c', rfl⟩ := hinx.form
        have hinr := hinx.below (hbel.trans (((Below.refl _ _).alloc hsz (.cells #[.slice A' n' c'] 41)))) hhi
        have hd2 : S.deepL (l.take k) ≤ S.deepL l := S.deepL_take_le l k
        have hd3 := S.deepL_le l
        simp only [S.count] at hm hcl hK
        generalize l[k] = x at *
        have HS := Lib.hid hcs
        clear hcs hx hcell
        go_wp2_with fail
        refine (ih x _ _ lo hi (by omega) (by omega) hinr (by simp; omega)).mono ?_
        rintro e w1 ⟨rfl, hb1⟩
        simp only [World.size_alloc] at hb1
        go_wp2_with fail
        go_roundw
        case rel => exact ⟨k + 1, by omega, by go_num, congrArg (Value.int .i64) (by have h2 := HS.out; omega), hbel.trans (((Below.refl _ _).alloc hsz _).trans (hb1.mono (by omega)))⟩
        case measure => simp [intOf]; omega
      · have hfin : ((S.deepL (l.take k) : Nat) : Int) + 1 = ((S.mk l).deep : Int) := by rw [List.take_of_length_le (by omega)]; simp [S.deep]
        have hd2 : S.deepL (l.take k) ≤ S.deepL l := S.deepL_take_le l k
        have hd3 := S.deepL_le l
        simp only [S.count] at hm
        have HF := Lib.hid hfin
        clear hfin
        go_wp2_with fail
        go_ret
        exact ⟨ret_int HF.out, hbel⟩

set_option maxHeartbeats 400000 in
theorem few_any (K : Nat) : ∀ (s : S) (v : Value) (w : World) (lo hi : Nat), s.count ≤ K → s.In w lo hi v → hi ≤ w.heap.size →
    Calls Tryd.prog 47 #[.agg #[v]] w fun e w' => e = .returned (.bool s.few) ∧ Below w.heap.size w w' := by
  induction K with
  | zero => intro s; have := s.count_pos; omega
  | succ K ih =>
    intro s v w lo hi hK hin hhi
    obtain ⟨l⟩ := s
    simp only [S.In] at hin
    obtain ⟨A, _, c, rfl, rfl, hnc, hc, hall⟩ := hin
    go_enter Tryd.func47, Tryd.ntmps47
    go_wp2_with fail
    go_loopw [8] (fun i wr => ∃ k : Nat, k ≤ l.length ∧ i = .int .i64 k ∧ Hid (S.fewL (l.take k) = true) ∧ Blk wr w.heap.size 41 #[.slice A l.length c] ∧ Below w.heap.size w wr) (fun i _ => l.length - (intOf i).toNat)
    case atStart => exact ⟨0, Nat.zero_le _, rfl, Lib.hid (by simp [S.fewL]), Blk.new _ _ _, (Below.refl _ _).alloc (Nat.le_refl _) _⟩
    case round =>
      obtain ⟨k, hk, rfl, hf, hblk, hbel⟩ := hrel
      have hsz := hbel.size
      have hsz1 := hblk.lt
      have hc0 := hblk.cell 0
      by_cases hlt : k < l.length
      · have hx : l[k]? = some l[k] := List.getElem?_eq_getElem hlt
        have hcs := S.fewL_take_succ l k _ hx
        have hcl := S.count_lt hx
        obtain ⟨ad, u, rfl, _, hadb, hcell, hinx⟩ := hall.at_ hx
        rw [Nat.zero_add] at hcell
        have hcellr : wr.cell? (ad.add k) = some u := (hbel.cell (by rw [block_of_add]; omega)).trans hcell
        obtain ⟨A', n', c', rfl⟩ := hinx.form
        have hinr := hinx.below (hbel.trans (((Below.refl _ _).alloc hsz (.cells #[.slice A' n' c'] 41)))) hhi
        cases hxf : l[k].few with
        | true =>
          have hrel' : Hid (S.fewL (l.take (k + 1)) = true) := Lib.hid (by rw [hcs, hf.out, hxf]; rfl)
          have HX := Lib.hid hxf
          generalize l[k] = x at *
          clear hcs hx hcell hxf
          go_wp2_with (go_at_call 47; refine (ih x _ _ lo hi (by omega) hinr (by simp; omega)).mono ?_; rw [HX.out]; rintro e w1 ⟨rfl, hb1⟩)
          simp only [World.size_alloc] at *
          go_roundw
          case rel => exact ⟨k + 1, by omega, by go_num, hrel', (hblk.alloc _).below ‹_› (by omega), hbel.trans (((Below.refl _ _).alloc hsz _).trans (Below.mono ‹_› (by omega)))⟩
          case measure => simp [intOf]; omega
        | false =>
          have hfin := S.fewL_false l k _ hx hxf
          have HF : Hid ((S.mk l).few = false) := Lib.hid (by simp [S.few, hfin])
          have HX := Lib.hid hxf
          generalize l[k] = x at *
          clear hcs hx hcell hxf hfin
          go_wp2_with (go_at_call 47; refine (ih x _ _ lo hi (by omega) hinr (by simp; omega)).mono ?_; rw [HX.out]; rintro e w1 ⟨rfl, hb1⟩)
          simp only [World.size_alloc] at *
          go_ret
          exact ⟨ret_bool HF.out.symm, hbel.trans (((Below.refl _ _).alloc hsz _).trans (Below.mono ‹_› (by omega)))⟩
      · have hfin : decide ((l.length : Int) ≤ 8) = (S.mk l).few := by have := hf.out; rw [List.take_of_length_le (by omega)] at this; simp [S.few, this]; omega
        have HF := Lib.hid hfin
        clear hfin
        go_wp2_with fail
        go_ret
        exact ⟨ret_bool HF.out, hbel⟩

set_option maxHeartbeats 400000 in
theorem is_any (s : S) (v : Value) (w : World) (lo hi : Nat) (hin : s.In w lo hi v) (hhi : hi ≤ w.heap.size) :
    Calls Tryd.prog 16 #[.agg #[v]] w fun e w' => e = .returned (.bool s.ok) ∧ Below w.heap.size w w' := by
  obtain ⟨A, n, c, rfl⟩ := hin.form
  have hin1 := hin.below ((Below.refl _ _).alloc (Nat.le_refl _) (.cells #[.slice A n c] 41)) hhi
  have hbk := Blk.new w 41 #[.slice A n c]
  by_cases h1 : s.count ≤ 60
  · by_cases h2 : s.deep ≤ 30
    · have HO : Hid (s.few = s.ok) := Lib.hid (by simp [S.ok, h1, h2])
      go_enter Tryd.func16, Tryd.ntmps16
      go_wp2_with fail
      refine (nodes_any _ s _ 60 _ lo hi (Nat.le_refl _) (by omega) (by omega) hin1 (by simp; omega)).mono ?_
      rintro e w1 ⟨rfl, hb1⟩
      have hin2 := hin1.below hb1 (by simp; omega)
      have hbk1 := hbk.below hb1 (by simp)
      have hz := hb1.size
      simp only [World.size_alloc] at hb1 hz
      have hc1 := hbk1.cell 0
      go_wp2_with fail
      refine (depth_any _ s _ _ lo hi (Nat.le_refl _) (by omega) hin2 (by omega)).mono ?_
      rintro e w2 ⟨rfl, hb2⟩
      have hin3 := hin2.below hb2 (by omega)
      have hbk2 := hbk1.below hb2 (by omega)
      have hz2 := hb2.size
      have hc2 := hbk2.cell 0
      go_wp2_with fail
      refine (few_any _ s _ _ lo hi (Nat.le_refl _) hin3 (by omega)).mono ?_
      rintro e w3 ⟨rfl, hb3⟩
      go_wp2_with fail
      go_ret
      exact ⟨ret_bool HO.out, (((Below.refl _ _).alloc (Nat.le_refl _) _).trans (hb1.mono (by omega))).trans ((hb2.mono (by omega)).trans (hb3.mono (by omega)))⟩
    · have HO : Hid (false = s.ok) := Lib.hid (by simp [S.ok, h2])
      go_enter Tryd.func16, Tryd.ntmps16
      go_wp2_with fail
      refine (nodes_any _ s _ 60 _ lo hi (Nat.le_refl _) (by omega) (by omega) hin1 (by simp; omega)).mono ?_
      rintro e w1 ⟨rfl, hb1⟩
      have hin2 := hin1.below hb1 (by simp; omega)
      have hbk1 := hbk.below hb1 (by simp)
      have hz := hb1.size
      simp only [World.size_alloc] at hb1 hz
      have hc1 := hbk1.cell 0
      go_wp2_with fail
      refine (depth_any _ s _ _ lo hi (Nat.le_refl _) (by omega) hin2 (by omega)).mono ?_
      rintro e w2 ⟨rfl, hb2⟩
      go_wp2_with fail
      go_ret
      exact ⟨ret_bool HO.out, (((Below.refl _ _).alloc (Nat.le_refl _) _).trans (hb1.mono (by omega))).trans (hb2.mono (by omega))⟩
  · have HO : Hid (false = s.ok) := Lib.hid (by simp [S.ok, h1])
    go_enter Tryd.func16, Tryd.ntmps16
    go_wp2_with fail
    refine (nodes_any _ s _ 60 _ lo hi (Nat.le_refl _) (by omega) (by omega) hin1 (by simp; omega)).mono ?_
    rintro e w1 ⟨rfl, hb1⟩
    simp only [World.size_alloc] at hb1
    go_wp2_with fail
    go_ret
    exact ⟨ret_bool HO.out, (((Below.refl _ _).alloc (Nat.le_refl _) _).trans (hb1.mono (by omega)))⟩

def errOf (b : Bool) : Int := if b then 0 else 6

/-- What Size returns. -/
def S.sizes (s : S) : Nat × Nat := if s.count ≤ 60 then (s.count, s.deep) else (61, 0)

end Go.Proofs.YtkkfdiidneoelaaDoor
