/-
  The order: sorts.order, sorts.Order, and the reference's Rank and Order.
  Equality: sorts.equal, slices.EqualFunc, sorts.Same, and the reference's Equal and Same.
  sorts.clone and the reference's Copy: what they return is the sort, each array in a block of its own.
  The reference's Copy: what it returns is the sort, each array in a block of its own.
  The reference's Copy of a great sort.
  sorts.Behind and the reference's Behind.
-/
import Derived.Test.YtkkfdiidneoelaaGreatDoorGA
import Derived.Deep.RegionWith
import Derived.Deep.RegionHeld3
import Derived.Deep.RegionLaw
import Derived.Deep.AppendLies
import Derived.OwnWalk
namespace Go.Proofs.YtkkfdiidneoelaaGreatDoor
open Go.RowKit

set_option maxHeartbeats 400000 in
theorem order_any (K : Nat) : ∀ (s : S) (v : Value) (w : World) (lo hi : Nat), s.count ≤ K → s.count ≤ 1000 → s.In w lo hi v → hi ≤ w.heap.size →
    Calls Tryz.prog 105 #[.agg #[v]] w fun e w' => e = .returned (.int .i64 (s.ord : Int)) ∧ Below w.heap.size w w' := by
  induction K with
  | zero => intro s; have := s.count_pos; omega
  | succ K ih =>
    intro s v w lo hi hK hm hin hhi
    obtain ⟨l⟩ := s
    simp only [S.In] at hin
    obtain ⟨A, _, c, rfl, rfl, hnc, hc, hall⟩ := hin
    go_enter Tryz.func105, Tryz.ntmps105
    go_wp2_with fail
    go_loopw [3, 9] (fun n i wr => ∃ k : Nat, k ≤ l.length ∧ i = .int .i64 k ∧ n = .int .i64 ((S.ordL (l.take k) : Nat) : Int) ∧ Below w.heap.size w wr) (fun _ i _ => l.length - (intOf i).toNat)
    case atStart => exact ⟨0, Nat.zero_le _, rfl, by simp [S.ordL], (Below.refl _ _).alloc (Nat.le_refl _) _⟩
    case round =>
      obtain ⟨k, hk, rfl, rfl, hbel⟩ := hrel
      have hsz := hbel.size
      by_cases hlt : k < l.length
      · have hx : l[k]? = some l[k] := List.getElem?_eq_getElem hlt
        have hcs := S.ordL_take_succ l k _ hx
        have hcl := S.count_lt hx
        have hd1 := l[k].deep_le
        have hd4 := l[k].ord_lt
        obtain ⟨ad, u, rfl, _, hadb, hcell, hinx⟩ := hall.at_ hx
        rw [Nat.zero_add] at hcell
        have hcellr : wr.cell? (ad.add k) = some u := (hbel.cell (by rw [block_of_add]; omega)).trans hcell
        obtain ⟨A', n', c', rfl⟩ := hinx.form
        have hinr := hinx.below (hbel.trans (((Below.refl _ _).alloc hsz (.cells #[.slice A' n' c'] 50)))) hhi
        have hd2 : S.ordL (l.take k) ≤ S.ordL l := S.ordL_take_le l k
        have hd5 := S.ordL_le l
        have hd3 := S.deepL_le l
        simp only [S.count] at hm hcl hK
        generalize l[k] = x at *
        have HS := Lib.hid hcs
        clear hcs hx hcell
        go_wp2_with fail
        refine (ih x _ _ lo hi (by omega) (by omega) hinr (by simp; omega)).mono ?_
        rintro e w1 ⟨rfl, hb1⟩
        simp only [World.size_alloc] at hb1
        go_wp2_with fail
        all_goals
          go_roundw
          case rel => exact ⟨k + 1, by omega, by go_num, congrArg (Value.int .i64) (by have h2 := HS.out; omega), hbel.trans (((Below.refl _ _).alloc hsz _).trans (hb1.mono (by omega)))⟩
          case measure => simp [intOf]; omega
      · have hfin : ((S.ordL (l.take k) : Nat) : Int) = ((S.mk l).ord : Int) := by rw [List.take_of_length_le (by omega)]; simp [S.ord]
        have HF := Lib.hid hfin
        clear hfin
        go_wp2_with fail
        go_ret
        exact ⟨ret_int HF.out, hbel⟩

/-- What Order returns. -/
def S.orders (s : S) : Int × Int := if s.ok then ((s.ord : Int), 0) else (0, 6)
set_option maxHeartbeats 400000 in
theorem Order_any (s : S) (v : Value) (w : World) (lo hi : Nat) (hin : s.In w lo hi v) (hhi : hi ≤ w.heap.size) :
    Calls Tryz.prog 59 #[.agg #[v]] w fun e w' => e = .returned (.tuple #[.int .i64 s.orders.1, .int .i64 s.orders.2]) ∧ Below w.heap.size w w' := by
  obtain ⟨A, n, c, rfl⟩ := hin.form
  have hw1 : Below w.heap.size w (w.alloc (.cells #[.slice A n c] 50)) := (Below.refl _ _).alloc (Nat.le_refl _) _
  have hin1 := hin.below hw1 hhi
  have hbk := Blk.new w 50 #[.slice A n c]
  have HC := Lib.hid (check_any s _ _ lo hi hin1 (by simp; omega))
  cases hok : s.ok with
  | true =>
    have hcnt := S.ok_count hok
    have HO : Hid (s.orders = ((s.ord : Int), 0)) := Lib.hid (by simp [S.orders, hok])
    rw [hok] at HC
    clear hok
    go_enter Tryz.func59, Tryz.ntmps59
    go_wp2_with fail
    refine HC.out.mono ?_
    rintro e w1 ⟨rfl, hb1⟩
    simp only [errOf, if_true]
    have hc1 := (hbk.below hb1 (by simp)).cell 0
    have hin2 := hin1.below hb1 (by simp; omega)
    have hz := hb1.size
    simp only [World.size_alloc] at hb1 hz
    go_wp2_with fail
    refine (order_any _ s _ _ lo hi (Nat.le_refl _) (by omega) hin2 (by omega)).mono ?_
    rintro e w2 ⟨rfl, hb2⟩
    go_wp2_with fail
    go_ret2
    exact ⟨by rw [HO.out]; rfl, (hw1.trans (hb1.mono (by omega))).trans (hb2.mono (by omega))⟩
  | false =>
    have HO : Hid (s.orders = (0, 6)) := Lib.hid (by simp [S.orders, hok])
    rw [hok] at HC
    clear hok
    go_enter Tryz.func59, Tryz.ntmps59
    go_wp2_with fail
    refine HC.out.mono ?_
    rintro e w1 ⟨rfl, hb1⟩
    rw [show errOf false = 6 from rfl]
    simp only [World.size_alloc] at hb1
    go_wp2_with fail
    go_ret2
    exact ⟨by rw [HO.out]; rfl, hw1.trans (hb1.mono (by omega))⟩

end Go.Proofs.YtkkfdiidneoelaaGreatDoor

namespace Go.Proofs.YtkkfdiidneoelaaGreatDoor
open Go.RowKit

mutual
def S.eqb : S → S → Bool
  | .mk l, .mk m => S.eqL l m
def S.eqL : List S → List S → Bool
  | [], [] => true
  | x :: r, y :: t => x.eqb y && S.eqL r t
  | _, _ => false
end
mutual
theorem S.eqb_iff : ∀ s t : S, s.eqb t = true ↔ s = t
  | .mk l, .mk m => by simp only [S.eqb, S.mk.injEq]; exact S.eqL_iff l m
theorem S.eqL_iff : ∀ l m : List S, S.eqL l m = true ↔ l = m
  | [], [] => by simp [S.eqL]
  | x :: r, [] => by simp [S.eqL]
  | [], y :: t => by simp [S.eqL]
  | x :: r, y :: t => by simp only [S.eqL, Bool.and_eq_true, List.cons.injEq, S.eqb_iff x y, S.eqL_iff r t]
end
theorem S.eqL_len (l m : List S) (h : l.length ≠ m.length) : S.eqL l m = false := by
  rw [Bool.eq_false_iff]; intro hh; exact h (congrArg List.length ((S.eqL_iff l m).1 hh))
theorem S.eqL_take_succ (l m : List S) (k : Nat) (x y : S) (hx : l[k]? = some x) (hy : m[k]? = some y) (h : S.eqL (l.take k) (m.take k) = true) :
    S.eqL (l.take (k + 1)) (m.take (k + 1)) = x.eqb y := by
  have e := (S.eqL_iff _ _).1 h
  rw [Bool.eq_iff_iff, S.eqL_iff, S.eqb_iff, List.take_add_one, List.take_add_one, hx, hy, e]
  simp
theorem S.eqL_false (l m : List S) (k : Nat) (x y : S) (hx : l[k]? = some x) (hy : m[k]? = some y) (h : x.eqb y = false) : S.eqL l m = false := by
  rw [Bool.eq_false_iff]; intro hh
  have e := (S.eqL_iff _ _).1 hh
  subst e
  rw [hx] at hy
  have hxy : x = y := by simpa using hy
  rw [(S.eqb_iff x y).2 hxy] at h
  cases h

set_option maxHeartbeats 400000 in
theorem eqf_any {K : Nat} (ih : ∀ (s t : S) (v u : Value) (w : World) (lo hi lo' hi' : Nat), s.count ≤ K → s.In w lo hi v → hi ≤ w.heap.size → t.In w lo' hi' u → hi' ≤ w.heap.size →
    Calls Tryz.prog 208 #[.agg #[v], .agg #[u]] w fun e w' => e = .returned (.bool (s.eqb t)) ∧ Below w.heap.size w w')
    (l m : List S) (A A2 : Option Addr) (c c2 : Nat) (w : World) (lo hi lo' hi' : Nat) (hK : ∀ (k : Nat) (x : S), l[k]? = some x → x.count ≤ K)
    (hlc : l.length ≤ c) (hc : c ≤ 9223372036854775807) (hmc : m.length ≤ c2) (hall : S.All w lo hi A 0 l) (hhi : hi ≤ w.heap.size) (hall2 : S.All w lo' hi' A2 0 m) (hhi2 : hi' ≤ w.heap.size) :
    Calls Tryz.prog 220 #[.slice A l.length c, .slice A2 m.length c2, .func (.func 208) #[] #[]] w fun e w' => e = .returned (.bool (S.eqL l m)) ∧ Below w.heap.size w w' := by
  have Hih := Lib.hid ih
  clear ih
  by_cases hlen : l.length = m.length
  · generalize hm0 : m.length = n at *
    subst hlen
    have HM0 := Lib.hid hm0
    clear hm0
    go_enter Tryz.func220, Tryz.ntmps220
    go_wp2_with fail
    go_loopw [17] (fun i wr => ∃ k : Nat, k ≤ l.length ∧ i = .int .i64 k ∧ Hid (S.eqL (l.take k) (m.take k) = true) ∧ Below w.heap.size w wr) (fun i _ => l.length - (intOf i).toNat)
    case atStart => exact ⟨0, Nat.zero_le _, rfl, Lib.hid (by simp [S.eqL]), Below.refl _ _⟩
    case round =>
      obtain ⟨k, hk, rfl, hf, hbel⟩ := hrel
      have hsz := hbel.size
      by_cases hlt : k < l.length
      · have hx : l[k]? = some l[k] := List.getElem?_eq_getElem hlt
        have hlt2 : k < m.length := by have := HM0.out; omega
        have hy : m[k]? = some m[k] := List.getElem?_eq_getElem hlt2
        have hcl := hK k _ hx
        obtain ⟨ad, u, rfl, _, hadb, hcell, hinx⟩ := hall.at_ hx
        obtain ⟨ad2, u2, rfl, _, hadb2, hcell2, hinx2⟩ := hall2.at_ hy
        rw [Nat.zero_add] at hcell hcell2
        have hcellr : wr.cell? (ad.add k) = some u := (hbel.cell (by rw [block_of_add]; omega)).trans hcell
        have hcellr2 : wr.cell? (ad2.add k) = some u2 := (hbel.cell (by rw [block_of_add]; omega)).trans hcell2
        obtain ⟨A', n', c', rfl⟩ := hinx.form
        obtain ⟨A'', n'', c'', rfl⟩ := hinx2.form
        have hw2 : Below w.heap.size w ((wr.alloc (.cells #[.slice A' n' c'] 50)).alloc (.cells #[.slice A'' n'' c''] 50)) := (hbel.alloc hsz _).alloc (by simp; omega) _
        have hct := Hih.out l[k] m[k] _ _ _ lo hi lo' hi' hcl (hinx.below hw2 hhi) (by simp; omega) (hinx2.below hw2 hhi2) (by simp; omega)
        have hsucc := S.eqL_take_succ l m k _ _ hx hy hf.out
        have hfalse := S.eqL_false l m k _ _ hx hy
        generalize l[k] = x at *
        generalize m[k] = y at *
        have hc3 : (wr.alloc (.cells #[.slice A' n' c'] 50)).cell? (ad2.add k) = some (.slice A'' n'' c'') := (World.cell?_alloc_lt _ _ _ (by rw [block_of_add]; omega)).trans hcellr2
        cases hb : x.eqb y with
        | true =>
          have hrel' : Hid (S.eqL (l.take (k + 1)) (m.take (k + 1)) = true) := Lib.hid (hsucc.trans hb)
          rw [hb] at hct
          have HC := Lib.hid hct
          clear hx hy hcell hcell2 hsucc hfalse hct hb
          go_wp2_with fail
          refine HC.out.mono ?_
          rintro e w1 ⟨rfl, hb1⟩
          simp only [World.size_alloc] at hb1
          go_wp2_with fail
          go_roundw
          case rel => exact ⟨k + 1, by omega, by go_num, hrel', hw2.trans (hb1.mono (by omega))⟩
          case measure => simp [intOf]; omega
        | false =>
          have HF := Lib.hid (hfalse hb)
          rw [hb] at hct
          have HC := Lib.hid hct
          clear hx hy hcell hcell2 hsucc hfalse hct hb
          go_wp2_with fail
          refine HC.out.mono ?_
          rintro e w1 ⟨rfl, hb1⟩
          simp only [World.size_alloc] at hb1
          go_wp2_with fail
          go_ret
          exact ⟨ret_bool HF.out.symm, hw2.trans (hb1.mono (by omega))⟩
      · have h1 : l.take k = l := List.take_of_length_le (by omega)
        have h2 : m.take k = m := List.take_of_length_le (by have := HM0.out; omega)
        rw [h1, h2] at hf
        clear h1 h2
        go_wp2_with fail
        go_ret
        exact ⟨ret_bool hf.out.symm, hbel⟩
  · have HF := Lib.hid (S.eqL_len l m hlen)
    go_enter Tryz.func220, Tryz.ntmps220
    go_wp2_with fail
    go_ret
    exact ⟨ret_bool HF.out.symm, Below.refl _ _⟩

set_option maxHeartbeats 400000 in
theorem equal_any (K : Nat) : ∀ (s t : S) (v u : Value) (w : World) (lo hi lo' hi' : Nat), s.count ≤ K → s.In w lo hi v → hi ≤ w.heap.size → t.In w lo' hi' u → hi' ≤ w.heap.size →
    Calls Tryz.prog 208 #[.agg #[v], .agg #[u]] w fun e w' => e = .returned (.bool (s.eqb t)) ∧ Below w.heap.size w w' := by
  induction K with
  | zero => intro s; have := s.count_pos; omega
  | succ K ih =>
    intro s t v u w lo hi lo' hi' hK hin hhi hin2 hhi2
    obtain ⟨A1, n1, c1, rfl⟩ := hin.form
    obtain ⟨A3, n3, c3, rfl⟩ := hin2.form
    have hw2 : Below w.heap.size w ((w.alloc (.cells #[.slice A1 n1 c1] 50)).alloc (.cells #[.slice A3 n3 c3] 50)) := ((Below.refl _ _).alloc (Nat.le_refl _) _).alloc (by simp) _
    have h1 := hin.below hw2 hhi
    have h2 := hin2.below hw2 hhi2
    obtain ⟨l⟩ := s
    obtain ⟨m⟩ := t
    simp only [S.In] at h1 h2
    obtain ⟨A, _, c, hv, rfl, hnc, hc, hall⟩ := h1
    obtain ⟨A2, _, c2, hv2, rfl, hnc2, hc2, hall2⟩ := h2
    injection hv with e1 e2 e3
    injection hv2 with e4 e5 e6
    subst e1 e2 e3 e4 e5 e6
    have HC := Lib.hid (eqf_any ih l m A1 A3 c1 c3 _ lo hi lo' hi' (fun k x hx => by have := S.count_lt hx; omega) hnc hc hnc2 hall (by simp; omega) hall2 (by simp; omega))
    clear ih hall hall2
    go_enter Tryz.func208, Tryz.ntmps208
    go_wp2_with fail
    refine HC.out.mono ?_
    rintro e w1 ⟨rfl, hb1⟩
    simp only [World.size_alloc] at hb1
    go_wp2_with fail
    go_ret
    exact ⟨rfl, hw2.trans (hb1.mono (by omega))⟩

set_option maxHeartbeats 400000 in
theorem same_any (s t : S) (v u : Value) (w : World) (lo hi lo' hi' : Nat) (hin : s.In w lo hi v) (hhi : hi ≤ w.heap.size) (hin2 : t.In w lo' hi' u) (hhi2 : hi' ≤ w.heap.size) :
    Calls Tryz.prog 178 #[.agg #[v], .agg #[u]] w fun e w' => e = .returned (.bool (decide (s.count ≤ 60) && (decide (t.count ≤ 60) && s.eqb t))) ∧ Below w.heap.size w w' := by
  obtain ⟨A1, n1, c1, rfl⟩ := hin.form
  obtain ⟨A3, n3, c3, rfl⟩ := hin2.form
  have hw2 : Below w.heap.size w ((w.alloc (.cells #[.slice A1 n1 c1] 50)).alloc (.cells #[.slice A3 n3 c3] 50)) := ((Below.refl _ _).alloc (Nat.le_refl _) _).alloc (by simp) _
  have hb1 : Blk ((w.alloc (.cells #[.slice A1 n1 c1] 50)).alloc (.cells #[.slice A3 n3 c3] 50)) w.heap.size 50 #[.slice A1 n1 c1] := (Blk.new _ _ _).alloc _
  have hb2 : Blk ((w.alloc (.cells #[.slice A1 n1 c1] 50)).alloc (.cells #[.slice A3 n3 c3] 50)) (w.heap.size + 1) 50 #[.slice A3 n3 c3] := by simpa using Blk.new (w.alloc (.cells #[.slice A1 n1 c1] 50)) 50 #[.slice A3 n3 c3]
  have h1 := hin.below hw2 hhi
  have h2 := hin2.below hw2 hhi2
  have HC := Lib.hid (countable_any s _ _ lo hi h1 (by simp; omega))
  by_cases g1 : s.count ≤ 60
  · simp only [g1, decide_true, Bool.true_and] at HC ⊢
    by_cases g2 : t.count ≤ 60
    · simp only [g2, decide_true, Bool.true_and] at HC ⊢
      go_enter Tryz.func178, Tryz.ntmps178
      go_wp2_with fail
      refine HC.out.mono ?_
      rintro e w1 ⟨rfl, hw1⟩
      have k1 := hb1.below hw1 (by simp; omega)
      have k2 := hb2.below hw1 (by simp)
      have c1 := k1.cell 0
      have c2 := k2.cell 0
      have i1 := h1.below hw1 (by simp; omega)
      have i2 := h2.below hw1 (by simp; omega)
      have hz := hw1.size
      simp only [World.size_alloc] at hw1 hz
      have HC2 := countable_any t _ _ lo' hi' i2 (by omega)
      simp only [g2, decide_true] at HC2
      have HD := Lib.hid HC2
      clear HC2
      go_wp2_with fail
      refine HD.out.mono ?_
      rintro e w2 ⟨rfl, hw22⟩
      have k3 := k1.below hw22 (by omega)
      have k4 := k2.below hw22 (by omega)
      have c3 := k3.cell 0
      have c4 := k4.cell 0
      have j1 := i1.below hw22 (by omega)
      have j2 := i2.below hw22 (by omega)
      have hz2 := hw22.size
      go_wp2_with fail
      refine (equal_any _ s t _ _ _ lo hi lo' hi' (Nat.le_refl _) j1 (by omega) j2 (by omega)).mono ?_
      rintro e w3 ⟨rfl, hw3⟩
      go_wp2_with fail
      go_ret
      exact ⟨rfl, ((hw2.trans (hw1.mono (by omega))).trans (hw22.mono (by omega))).trans (hw3.mono (by omega))⟩
    · simp only [g2, decide_false, Bool.false_and] at HC ⊢
      go_enter Tryz.func178, Tryz.ntmps178
      go_wp2_with fail
      refine HC.out.mono ?_
      rintro e w1 ⟨rfl, hw1⟩
      have k2 := hb2.below hw1 (by simp)
      have c2 := k2.cell 0
      have i2 := h2.below hw1 (by simp; omega)
      have hz := hw1.size
      simp only [World.size_alloc] at hw1 hz
      have HC2 := countable_any t _ _ lo' hi' i2 (by omega)
      simp only [g2, decide_false] at HC2
      have HD := Lib.hid HC2
      clear HC2
      go_wp2_with fail
      refine HD.out.mono ?_
      rintro e w2 ⟨rfl, hw22⟩
      go_wp2_with fail
      go_ret
      exact ⟨rfl, (hw2.trans (hw1.mono (by omega))).trans (hw22.mono (by omega))⟩
  · simp only [g1, decide_false, Bool.false_and] at HC ⊢
    go_enter Tryz.func178, Tryz.ntmps178
    go_wp2_with fail
    refine HC.out.mono ?_
    rintro e w1 ⟨rfl, hw1⟩
    simp only [World.size_alloc] at hw1
    go_wp2_with fail
    go_ret
    exact ⟨rfl, hw2.trans (hw1.mono (by omega))⟩

set_option maxHeartbeats 1600000 in
theorem refEqual_any (K : Nat) : ∀ (s t : S) (v u : Value) (w : World) (lo hi lo' hi' : Nat), s.count ≤ K → s.In w lo hi v → hi ≤ w.heap.size → t.In w lo' hi' u → hi' ≤ w.heap.size →
    Calls Tryz.prog 78 #[.agg #[v], .agg #[u]] w fun e w' => e = .returned (.bool (s.eqb t)) ∧ Below w.heap.size w w' := by
  induction K with
  | zero => intro s; have := s.count_pos; omega
  | succ K ih =>
    intro s t v u w lo hi lo' hi' hK hin hhi hin2 hhi2
    obtain ⟨l⟩ := s
    obtain ⟨m⟩ := t
    simp only [S.In] at hin hin2
    obtain ⟨A, _, c, rfl, rfl, hnc, hc, hall⟩ := hin
    obtain ⟨A2, n2, c2, rfl, hm2, hnc2, hc2, hall2⟩ := hin2
    have Hih := Lib.hid ih
    clear ih
    by_cases hlen : l.length = n2
    · subst hlen
      have HM0 := Lib.hid hm2
      clear hm2
      go_enter Tryz.func78, Tryz.ntmps78
      go_wp2_with fail
      go_loopw [16] (fun i wr => ∃ k : Nat, k ≤ l.length ∧ i = .int .i64 k ∧ Hid (S.eqL (l.take k) (m.take k) = true) ∧ Blk wr w.heap.size 50 #[.slice A l.length c] ∧ Blk wr (w.heap.size + 1) 50 #[.slice A2 l.length c2] ∧ Below w.heap.size w wr) (fun i _ => l.length - (intOf i).toNat)
      case atStart => exact ⟨0, Nat.zero_le _, rfl, Lib.hid (by simp [S.eqL]), (Blk.new _ _ _).alloc _, by simpa using Blk.new (w.alloc (.cells #[.slice A l.length c] 50)) 50 #[.slice A2 l.length c2], ((Below.refl _ _).alloc (Nat.le_refl _) _).alloc (by simp) _⟩
      case round =>
        obtain ⟨k, hk, rfl, hf, hb1, hb2, hbel⟩ := hrel
        have hsz := hb2.lt
        have hd1 := hb1.cell 0
        have hd2 := hb2.cell 0
        by_cases hlt : k < l.length
        · have hx : l[k]? = some l[k] := List.getElem?_eq_getElem hlt
          have hlt2 : k < m.length := by have := HM0.out; omega
          have hy : m[k]? = some m[k] := List.getElem?_eq_getElem hlt2
          have hcl := S.count_lt hx
          obtain ⟨ad, u, rfl, _, hadb, hcell, hinx⟩ := hall.at_ hx
          obtain ⟨ad2, u2, rfl, _, hadb2, hcell2, hinx2⟩ := hall2.at_ hy
          rw [Nat.zero_add] at hcell hcell2
          have hcellr : wr.cell? (ad.add k) = some u := (hbel.cell (by rw [block_of_add]; omega)).trans hcell
          have hcellr2 : wr.cell? (ad2.add k) = some u2 := (hbel.cell (by rw [block_of_add]; omega)).trans hcell2
          have hct := Hih.out l[k] m[k] u u2 wr.drew lo hi lo' hi' (by omega) (hinx.below hbel.drew hhi) (by simp; omega) (hinx2.below hbel.drew hhi2) (by simp; omega)
          have hsucc := S.eqL_take_succ l m k _ _ hx hy hf.out
          have hfalse := S.eqL_false l m k _ _ hx hy
          generalize l[k] = x at *
          generalize m[k] = y at *
          cases hb : x.eqb y with
          | true =>
            have hrel' : Hid (S.eqL (l.take (k + 1)) (m.take (k + 1)) = true) := Lib.hid (hsucc.trans hb)
            rw [hb] at hct
            have HC := Lib.hid hct
            clear hx hy hcell hcell2 hsucc hfalse hct hb
            go_wp2_with fail
            go_region_held3 (fun w' => w'.cell? ⟨w.heap.size, 0, none⟩ = some (.slice (some ad) l.length c) ∧ w'.cell? ⟨w.heap.size + 1, 0, none⟩ = some (.slice (some ad2) l.length c2) ∧ w'.cell? (ad.add k) = some u ∧ w'.cell? (ad2.add k) = some u2) (first | go_keep | assumption)
              (first
                | (go_at_call 78
                   refine HC.out.mono ?_
                   rintro e w1 ⟨rfl, hw1⟩
                   have QK : ∀ (p : Addr) (z : Value), p.block < wr.heap.size → wr.cell? p = some z → w1.cell? p = some z := fun p z hp h => (hw1.cell hp).trans h
                   have Q := And.intro (QK _ _ (by simp; omega) hd1) (And.intro (QK _ _ (by simp; omega) hd2) (And.intro (QK _ _ (by rw [block_of_add]; omega) hcellr) (QK _ _ (by rw [block_of_add]; omega) hcellr2)))
                   clear QK))
            all_goals
              replace hw1 : Below wr.heap.size wr.drew w1 := hw1
              go_wp2_with fail
              go_roundw
              case rel => exact ⟨k + 1, by omega, by go_num, hrel', hb1.drew.below hw1 (by omega), hb2.drew.below hw1 (by omega), hbel.drew.trans (hw1.mono (by omega))⟩
              case measure => simp [intOf]; omega
          | false =>
            have HF := Lib.hid (hfalse hb)
            rw [hb] at hct
            have HC := Lib.hid hct
            clear hx hy hcell hcell2 hsucc hfalse hct hb
            go_wp2_with fail
            go_region_held3 (fun w' => w'.cell? ⟨w.heap.size, 0, none⟩ = some (.slice (some ad) l.length c) ∧ w'.cell? ⟨w.heap.size + 1, 0, none⟩ = some (.slice (some ad2) l.length c2) ∧ w'.cell? (ad.add k) = some u ∧ w'.cell? (ad2.add k) = some u2) (first | go_keep | assumption)
              (first
                | (go_at_call 78
                   refine HC.out.mono ?_
                   rintro e w1 ⟨rfl, hw1⟩
                   have QK : ∀ (p : Addr) (z : Value), p.block < wr.heap.size → wr.cell? p = some z → w1.cell? p = some z := fun p z hp h => (hw1.cell hp).trans h
                   have Q := And.intro (QK _ _ (by simp; omega) hd1) (And.intro (QK _ _ (by simp; omega) hd2) (And.intro (QK _ _ (by rw [block_of_add]; omega) hcellr) (QK _ _ (by rw [block_of_add]; omega) hcellr2)))
                   clear QK))
            all_goals
              replace hw1 : Below wr.heap.size wr.drew w1 := hw1
              go_wp2_with fail
              go_ret
              exact ⟨ret_bool HF.out.symm, hbel.drew.trans (hw1.mono (by omega))⟩
        · have h1 : l.take k = l := List.take_of_length_le (by omega)
          have h2 : m.take k = m := List.take_of_length_le (by have := HM0.out; omega)
          rw [h1, h2] at hf
          clear h1 h2
          go_wp2_with fail
          go_ret
          exact ⟨ret_bool hf.out.symm, hbel⟩
    · have hF := S.eqL_len l m (by omega)
      have HF := Lib.hid hF
      clear hF hm2
      go_enter Tryz.func78, Tryz.ntmps78
      go_wp2_with fail
      go_ret
      exact ⟨ret_bool HF.out.symm, ((Below.refl _ _).alloc (Nat.le_refl _) _).alloc (by simp) _⟩

end Go.Proofs.YtkkfdiidneoelaaGreatDoor

namespace Go.Proofs.YtkkfdiidneoelaaGreatDoor
open Go.RowKit

mutual
/-- A cell's value is the sort, each array in a block of its own; fp: the blocks. -/
def S.Sep (w : World) : S → Value → List Nat → Prop
  | .mk l, v, fp => ∃ us rest, w.ownsRow 0 50 1 v l.length us ∧ S.SepL w l us rest ∧ fp = v.ownBlock.toList ++ rest
def S.SepL (w : World) : List S → List Value → List Nat → Prop
  | [], us, fp => us = [] ∧ fp = []
  | s :: r, us, fp => ∃ u ut f1 f2, us = u :: ut ∧ s.Sep w u f1 ∧ S.SepL w r ut f2 ∧ fp = f1 ++ f2
end
theorem owns_kept {w w' : World} {base : Nat} {e : TypeId} {size : Nat} {v : Value} {n : Nat} {xs : List Value} (h : w.ownsRow base e size v n xs) (hk : ∀ b, v.ownBlock = some b → w'.heap[b]? = w.heap[b]?) : w'.ownsRow base e size v n xs := by
  refine ⟨h.1, ?_⟩
  rcases h.2 with h2 | ⟨g, cap, cur, rfl, h3, h4, h5⟩
  · exact .inl h2
  · exact .inr ⟨g, cap, cur, rfl, h3, (hk g rfl).trans h4, h5⟩
mutual
theorem S.Sep.keep {w w' : World} : ∀ (s : S) {v : Value} {fp : List Nat}, s.Sep w v fp → (∀ b ∈ fp, w'.heap[b]? = w.heap[b]?) → s.Sep w' v fp
  | .mk l, v, fp, h, hb => by
    simp only [S.Sep] at h ⊢
    obtain ⟨us, rest, h1, h2, rfl⟩ := h
    exact ⟨us, rest, owns_kept h1 (fun b hb' => hb b (by simp [hb'])), S.SepL.keep l h2 (fun b hb' => hb b (by simp [hb'])), rfl⟩
theorem S.SepL.keep {w w' : World} : ∀ (l : List S) {us : List Value} {fp : List Nat}, S.SepL w l us fp → (∀ b ∈ fp, w'.heap[b]? = w.heap[b]?) → S.SepL w' l us fp
  | [], us, fp, h, _ => by simpa [S.SepL] using h
  | s :: r, us, fp, h, hb => by
    simp only [S.SepL] at h ⊢
    obtain ⟨u, ut, f1, f2, rfl, h1, h2, rfl⟩ := h
    exact ⟨u, ut, f1, f2, rfl, S.Sep.keep s h1 (fun b hb' => hb b (by simp [hb'])), S.SepL.keep r h2 (fun b hb' => hb b (by simp [hb'])), rfl⟩
end
theorem S.SepL.snoc {w : World} {x : S} {u : Value} {g : List Nat} (hx : x.Sep w u g) : ∀ (l : List S) {us : List Value} {fp : List Nat}, S.SepL w l us fp → S.SepL w (l ++ [x]) (us ++ [u]) (fp ++ g)
  | [], us, fp, h => by
    simp only [S.SepL] at h
    obtain ⟨rfl, rfl⟩ := h
    simp only [List.nil_append, S.SepL]
    exact ⟨u, [], g, [], rfl, hx, ⟨rfl, rfl⟩, by simp⟩
  | s :: r, us, fp, h => by
    simp only [S.SepL] at h
    obtain ⟨u', ut, f1, f2, rfl, h1, h2, rfl⟩ := h
    simp only [List.cons_append, S.SepL]
    exact ⟨u', ut ++ [u], f1, f2 ++ g, rfl, h1, S.SepL.snoc hx r h2, by simp⟩
mutual
theorem S.Sep.in_ {w : World} {lo hi : Nat} : ∀ (s : S) {v : Value} {fp : List Nat}, s.Sep w v fp → (∀ b ∈ fp, lo ≤ b ∧ b < hi) → s.In w lo hi v
  | .mk l, v, fp, h, hb => by
    simp only [S.Sep] at h
    obtain ⟨us, rest, h1, h2, rfl⟩ := h
    simp only [S.In]
    have hlen := h1.1
    rcases h1.2 with ⟨rfl, hl⟩ | ⟨g, cap, cur, rfl, h3, h4, h5, h6, h7⟩
    · have : l = [] := List.eq_nil_of_length_eq_zero hl
      subst this
      exact ⟨_, _, _, rfl, rfl, Nat.le_refl _, by omega, by simp [S.All]⟩
    · refine ⟨_, _, _, rfl, rfl, h5, by simpa [maxLen] using h6, ?_⟩
      have hg := hb g (by simp [Value.ownBlock])
      exact S.SepL.all l h2 (fun b hb' => hb b (by simp [hb'])) (fun j u hu => by
        have := h1.cells (g := g) rfl j u hu
        simpa using this) hg.1 hg.2
theorem S.SepL.all {w : World} {lo hi : Nat} : ∀ (l : List S) {us : List Value} {fp : List Nat} {ad : Addr} {i : Nat}, S.SepL w l us fp → (∀ b ∈ fp, lo ≤ b ∧ b < hi) →
    (∀ j u, us[j]? = some u → w.cell? (ad.add (i + j)) = some u) → lo ≤ ad.block → ad.block < hi → S.All w lo hi (some ad) i l
  | [], us, fp, ad, i, _, _, _, _, _ => by simp [S.All]
  | s :: r, us, fp, ad, i, h, hb, hc, h1, h2 => by
    simp only [S.SepL] at h
    obtain ⟨u, ut, f1, f2, rfl, h3, h4, rfl⟩ := h
    simp only [S.All]
    refine ⟨⟨ad, u, rfl, h1, h2, by simpa using hc 0 u rfl, S.Sep.in_ s h3 (fun b hb' => hb b (by simp [hb']))⟩, S.SepL.all r h4 (fun b hb' => hb b (by simp [hb'])) (fun j u' hu => ?_) h1 h2⟩
    have := hc (j + 1) u' (by simpa using hu)
    rwa [show i + (j + 1) = i + 1 + j from by omega] at this
end

theorem S.Sep.form {w : World} {s : S} {v : Value} {fp : List Nat} (h : s.Sep w v fp) : ∃ A n c, v = .slice A n c := by
  obtain ⟨l⟩ := s
  simp only [S.Sep] at h
  obtain ⟨us, rest, h1, _⟩ := h
  rcases h1.2 with ⟨rfl, _⟩ | ⟨g, cap, cur, rfl, _⟩
  · exact ⟨_, _, _, rfl⟩
  · exact ⟨_, _, _, rfl⟩
theorem sort_info : (Tryz.prog.info? 50).map (fun i => (i.zero, i.size, i.bytes)) = some (some (.agg #[.slice none 0 0]), 1, 24) := by kernel_rfl

/-- What clone leaves: a value that is the sort in blocks of its own, from block number B on. -/
def Cloned (s : S) (B : Nat) (w : World) (e : Ending) (w' : World) : Prop :=
  ∃ v fp, e = .returned (.agg #[v]) ∧ s.Sep w' v fp ∧ fp.Nodup ∧ (∀ b ∈ fp, B ≤ b ∧ b < w'.heap.size) ∧ Below w.heap.size w w'

/-- What the loop of clone holds behind k rounds. -/
structure Round (l : List S) (B : Nat) (w0 : World) (k : Nat) (cv : Value) (us : List Value) (fp : List Nat) (w : World) : Prop where
  own : w.ownsRow (B + 3) 50 1 cv k us
  sep : S.SepL w (l.take k) us fp
  nod : (cv.ownBlock.toList ++ fp).Nodup
  rng : ∀ b ∈ fp, B + 3 ≤ b ∧ b < w.heap.size
  blk : Blk w (B + 1 + 1) 50 #[cv]
  res : Blk w (B + 1) 50 #[.slice none 0 0]
  bel : Below B w0 w

theorem Round.next {l : List S} {B : Nat} {w0 wr w1 w2 : World} {k : Nat} {cv : Value} {us : List Value} {fp fp1 : List Nat} {x : S} {v1 : Value} {gg cap : Nat} {o o1 : Obj}
    (hr : Round l B w0 k cv us fp wr) (hx : l[k]? = some x) (hsep1 : x.Sep w1 v1 fp1) (hnod1 : fp1.Nodup) (hrng1 : ∀ b ∈ fp1, wr.heap.size + 1 ≤ b ∧ b < w1.heap.size)
    (hbb1 : Below (wr.heap.size + 1) (wr.alloc o).drew w1) (hwz : wr.heap.size + 1 ≤ w1.heap.size)
    (hown2 : w2.ownsRow (B + 3) 50 1 (.slice (some ⟨gg, 0, none⟩) (k + 1) cap) (k + 1) (us ++ [v1])) (hgrow : (w1.alloc o1).grownBy w2 cv.ownBlock)
    (hat : cv.ownBlock = some gg ∨ gg = w1.heap.size + 1) :
    Round l B w0 (k + 1) (.slice (some ⟨gg, 0, none⟩) (k + 1) cap) (us ++ [v1]) (fp ++ fp1) (w2.setCell ⟨B + 1 + 1, 0, none⟩ (.slice (some ⟨gg, 0, none⟩) (k + 1) cap)) := by
  have hB3 : B + 1 + 1 < wr.heap.size := hr.blk.lt
  have hgl := hown2.lt gg rfl
  have hsz2 : w1.heap.size + 1 ≤ w2.heap.size := by have := hgrow.size; simpa using this
  have hcvlt : ∀ b, cv.ownBlock = some b → B + 3 ≤ b ∧ b < wr.heap.size := fun b hb => hr.own.lt b hb
  have hfar : ∀ b, b < w1.heap.size → cv.ownBlock ≠ some b → b ≠ B + 1 + 1 → (w2.setCell ⟨B + 1 + 1, 0, none⟩ (.slice (some ⟨gg, 0, none⟩) (k + 1) cap)).heap[b]? = w1.heap[b]? := by
    intro b hb hc hne
    rw [Below.heap_setCell _ _ _ _ hne, hgrow.block b (by simp; omega) (fun e => hc e.symm), Below.heap_alloc _ _ _ hb]
  have hfar0 : ∀ b, b < wr.heap.size → cv.ownBlock ≠ some b → b ≠ B + 1 + 1 → (w2.setCell ⟨B + 1 + 1, 0, none⟩ (.slice (some ⟨gg, 0, none⟩) (k + 1) cap)).heap[b]? = wr.heap[b]? := by
    intro b hb hc hne
    rw [hfar b (by omega) hc hne, hbb1.block b (by omega)]
    exact Below.heap_alloc wr o b hb
  have hnod := List.nodup_append.1 hr.nod
  have hnf : ∀ b ∈ fp, cv.ownBlock ≠ some b := fun b hb he => hnod.2.2 b (by simp [he]) b hb rfl
  refine ⟨owns_kept hown2 (fun b hb => ?_), ?_, ?_, ?_, ?_, ?_, ?_⟩
  · have hb' : gg = b := by simpa [Value.ownBlock] using hb
    exact Below.heap_setCell _ _ _ _ (by show b ≠ B + 1 + 1; omega)
  · rw [List.take_add_one, hx]
    refine S.SepL.snoc (hsep1.keep _ (fun b hb => hfar b (hrng1 b hb).2 (fun he => by have := hcvlt b he; have := hrng1 b hb; omega) (by have := hrng1 b hb; omega))) _ (hr.sep.keep _ (fun b hb => hfar0 b (hr.rng b hb).2 (hnf b hb) (by have := hr.rng b hb; omega)))
  · have hdis : ∀ a ∈ fp, ∀ b ∈ fp1, a ≠ b := fun a ha b hb => by have := hr.rng a ha; have := hrng1 b hb; omega
    have h2 : (fp ++ fp1).Nodup := List.nodup_append.2 ⟨hnod.2.1, hnod1, hdis⟩
    simp only [Value.ownBlock, Option.toList, List.cons_append, List.nil_append]
    refine List.nodup_cons.2 ⟨fun hm => ?_, h2⟩
    rcases List.mem_append.1 hm with hm | hm
    · rcases hat with he | he
      · exact hnf gg hm he
      · have := hr.rng gg hm; omega
    · rcases hat with he | he
      · have := hcvlt gg he; have := hrng1 gg hm; omega
      · have := hrng1 gg hm; omega
  · intro b hb
    have hsz : w2.heap.size = (w2.setCell ⟨B + 1 + 1, 0, none⟩ (.slice (some ⟨gg, 0, none⟩) (k + 1) cap)).heap.size := by simp [World.setCell]
    rcases List.mem_append.1 hb with hb | hb
    · have := hr.rng b hb; omega
    · have := hrng1 b hb; omega
  · have h1 : Blk w2 (B + 1 + 1) 50 #[cv] := (hgrow.block _ (by simp; omega) (fun e => by have := hcvlt _ e.symm; omega)).trans (((((hr.blk.alloc o).drew).below hbb1 (by omega)).alloc o1))
    exact h1.set_ 0 _
  · exact (hfar0 (B + 1) (by omega) (fun e => by have := hcvlt _ e; omega) (by omega)).trans hr.res
  · refine ((hr.bel.alloc (by omega) o).drew.trans (hbb1.mono (by omega))).trans ?_
    refine (((Below.refl _ _).alloc (by omega) o1).grown hgrow (by simp; omega) (fun b hb => by have := hcvlt b hb; omega)).setCell (by simp; omega) _

theorem own_form {w : World} {base : Nat} {e : TypeId} {size : Nat} {v : Value} {n : Nat} {xs : List Value} (h : w.ownsRow base e size v n xs) : ∃ A n c, v = .slice A n c := by
  rcases h.2 with ⟨rfl, _⟩ | ⟨g, cap, cur, rfl, _⟩
  · exact ⟨_, _, _, rfl⟩
  · exact ⟨_, _, _, rfl⟩
theorem clone_results {tmps : Array Value} {w : World} {a : Nat} {x : Value} (h2 : tmps.getD 2 undef = .pointer (some ⟨a, 0, none⟩))
    (ha : Blk w a 50 #[x]) : (results Tryz.f179 tmps).run Tryz.prog w = .ok (.agg #[x]) w := by
  have h4 := ha.cell 0
  simp at h4
  have h2' : tmps[2]?.getD undef = .pointer (some ⟨a, 0, none⟩) := by simpa using h2
  simp [results, Tryz.results179, go_sem, h2', h4]
theorem Round.done {l : List S} {B : Nat} {w0 wr : World} {cv : Value} {us : List Value} {fp : List Nat} (hr : Round l B w0 l.length cv us fp wr) (u : Value) :
    (S.mk l).Sep (wr.setCell ⟨B + 1, 0, none⟩ u) cv (cv.ownBlock.toList ++ fp) ∧ (cv.ownBlock.toList ++ fp).Nodup ∧ (∀ b ∈ cv.ownBlock.toList ++ fp, B + 3 ≤ b ∧ b < (wr.setCell ⟨B + 1, 0, none⟩ u).heap.size) ∧ Below B w0 (wr.setCell ⟨B + 1, 0, none⟩ u) := by
  have hcvlt : ∀ b, cv.ownBlock = some b → B + 3 ≤ b ∧ b < wr.heap.size := fun b hb => hr.own.lt b hb
  have hall : ∀ b ∈ cv.ownBlock.toList ++ fp, B + 3 ≤ b ∧ b < wr.heap.size := by
    intro b hb
    rcases List.mem_append.1 hb with hb | hb
    · exact hcvlt b (by simpa using hb)
    · exact hr.rng b hb
  have hs : (S.mk l).Sep wr cv (cv.ownBlock.toList ++ fp) := by
    simp only [S.Sep]
    refine ⟨us, fp, ⟨hr.own.1, ?_⟩, by have := hr.sep; rwa [List.take_length] at this, rfl⟩
    rcases hr.own.2 with h | ⟨g, cap, cur, h1, h2, h3⟩
    · exact .inl h
    · exact .inr ⟨g, cap, cur, h1, Nat.zero_le _, h3⟩
  refine ⟨hs.keep _ (fun b hb => Below.heap_setCell _ _ _ _ (by have := hall b hb; show b ≠ B + 1; omega)), hr.nod, fun b hb => by have := hall b hb; simpa [World.setCell] using this, hr.bel.setCell (by simp) _⟩
theorem Round.start (l : List S) (w : World) (o : Obj) : Round l w.heap.size w 0 (.slice none 0 0) [] [] (((w.alloc o).alloc (.cells #[.slice none 0 0] 50)).alloc (.cells #[.slice none 0 0] 50)) where
  own := ⟨by simp, .inl ⟨rfl, rfl⟩⟩
  sep := by simp [S.SepL]
  nod := by simp [Value.ownBlock]
  rng := by simp
  blk := by simpa using Blk.new ((w.alloc o).alloc (.cells #[.slice none 0 0] 50)) 50 #[.slice none 0 0]
  res := (by simpa using Blk.new (w.alloc o) 50 #[.slice none 0 0] : Blk ((w.alloc o).alloc (.cells #[.slice none 0 0] 50)) (w.heap.size + 1) 50 #[.slice none 0 0]).alloc _
  bel := (((Below.refl _ _).alloc (Nat.le_refl _) _).alloc (by simp) _).alloc (by simp; omega) _

set_option maxRecDepth 100000 in
set_option maxHeartbeats 3200000 in
theorem clone_any (K : Nat) : ∀ (s : S) (v : Value) (w : World) (lo hi : Nat), s.count ≤ K → s.count ≤ 1000 → s.In w lo hi v → hi ≤ w.heap.size →
    Calls Tryz.prog 179 #[.agg #[v]] w (Cloned s w.heap.size w) := by
  induction K with
  | zero => intro s; have := s.count_pos; omega
  | succ K ih =>
    intro s v w lo hi hK hm hin hhi
    obtain ⟨i0, hi0, hz0, hz1, hz2⟩ := info_parts sort_info
    obtain ⟨l⟩ := s
    simp only [S.In] at hin
    obtain ⟨A, _, c, rfl, rfl, hnc, hc, hall⟩ := hin
    have hlen : l.length ≤ 1000 := by
      have := countL_take_bound l l.length (Nat.le_refl _)
      rw [List.take_length] at this
      simp only [S.count] at hm; omega
    go_enter Tryz.func179, Tryz.ntmps179
    go_wp2_with fail
    go_loopw [9] (fun i wr => ∃ k cv us fp, k ≤ l.length ∧ i = .int .i64 (k : Nat) ∧ Round l w.heap.size w k cv us fp wr) (fun i _ => l.length - (intOf i).toNat)
    case atStart => exact ⟨0, _, [], [], Nat.zero_le _, rfl, Round.start l w _⟩
    case round =>
      obtain ⟨k, cv, us, fp, hk, rfl, hr⟩ := hrel
      have hsz := hr.bel.size
      have hsz1 := hr.blk.lt
      by_cases hlt : k < l.length
      · have hx : l[k]? = some l[k] := List.getElem?_eq_getElem hlt
        have hcl := S.count_lt hx
        obtain ⟨ad, u, rfl, _, hadb, hcell, hinx⟩ := hall.at_ hx
        rw [Nat.zero_add] at hcell
        have hcellr : wr.cell? (ad.add k) = some u := (hr.bel.cell (by rw [block_of_add]; omega)).trans hcell
        obtain ⟨A', n', c', rfl⟩ := hinx.form
        have hw1 := hr.bel.alloc hsz (.cells #[.slice A' n' c'] 50)
        have hinr := hinx.below hw1 hhi
        have hcc := (hr.blk.alloc (.cells #[.slice A' n' c'] 50)).cell 0
        have hcx := (Blk.new wr 50 #[.slice A' n' c']).cell 0
        have hih := fun w' (h : Below (wr.heap.size + 1) (wr.alloc (.cells #[.slice A' n' c'] 50)) w') => ih l[k] (.slice A' n' c') w' lo hi (by omega) (by omega) (hinr.below h (by omega)) (by have := h.size; simp at this; omega)
        have HIH := Lib.hid hih
        have HX := Lib.hid hx
        generalize l[k] = x at *
        clear hih ih hx hcell
        go_wp2_with fail
        go_region_law
          (first
            | (refine step_append_lies _ (by rfl) _ _ _ (by rfl) (w.heap.size + 3) 50 i0 _ 1 24 Tryz.underlying48 hi0 hz0 hz1 hz2 rfl (by omega) cv k us (by rfl) (by exact (hown1.alloc _))
                ⟨w1.heap.size, 0, none⟩ 1 1 [v1] (by rfl) (by rfl) (by exact World.news_of_block (cs := #[v1]) (t := 50) (fr := (0, 0)) (heap_alloc_new w1 _)) (by exact fun u hu => by rw [List.mem_singleton.1 hu]; exact hone) (by omega) (by simp only [maxLen]; omega) (by omega) (by simp; omega) (w1.heap.size + 1) (by simp) ?_; intro gg cap w2 hown2 hgrow hat hlt2
               have hblk2 : Blk w2 (w.heap.size + 1 + 1) 50 #[cv] := (hgrow.block _ (by simp; omega) (fun e => by have := (hr.own.lt _ e.symm).1; omega)).trans (hblk1.alloc _)
               have hxb2 : Blk w2 wr.heap.size 50 #[.slice A' n' c'] := (hgrow.block _ (by simp; omega) (fun e => by have := (hr.own.lt _ e.symm).2; omega)).trans (hxb1.alloc _)
               have r1 := hblk2.cell 0
               have r2 := hxb2.cell 0
               have r3 := hblk2.frozen 0
               simp at r1 r2)
            | (go_simp; go_at_call 179; refine (HIH.out _ (by exact (Below.refl _ _).drew)).mono ?_; rintro e w1 ⟨v1, fp1, rfl, hsep1, hnod1, hrng1, hb1⟩
               have hone : v1.oneCell' = true := by obtain ⟨A1, n1, c1, rfl⟩ := hsep1.form; rfl
               have hwz : wr.heap.size + 1 ≤ w1.heap.size := by have h : (wr.alloc (.cells #[.slice A' n' c'] 50)).heap.size ≤ w1.heap.size := hb1.size; simpa using h
               have hbb1 : Below (wr.heap.size + 1) (wr.alloc (.cells #[.slice A' n' c'] 50)).drew w1 := hb1.mono (by show _ ≤ (wr.alloc _).heap.size; simp)
               have hown1 : w1.ownsRow (w.heap.size + 3) 50 1 cv k us := owns_kept ((hr.own.alloc _).drew) (fun b hb => hbb1.block b (by have := (hr.own.lt b hb).2; omega))
               have hblk1 : Blk w1 (w.heap.size + 1 + 1) 50 #[cv] := ((hr.blk.alloc _).drew).below hbb1 (by omega)
               have hxb1 : Blk w1 wr.heap.size 50 #[.slice A' n' c'] := ((Blk.new wr 50 _).drew).below hbb1 (by omega)
               have q1 := hblk1.cell 0
               have q2 := hxb1.cell 0
               have q3 : (w1.alloc (.cells #[v1] 50)).cell? ⟨w.heap.size + 1 + 1, 0, none⟩ = some cv := (hblk1.alloc _).cell 0
               simp at q1 q2))
        all_goals
          go_wp2_with fail
          go_roundw
          case rel => exact ⟨k + 1, _, _, _, by omega, by go_num, hr.next HX.out hsep1 hnod1 (fun b hb => by have h := hrng1 b hb; simp at h; exact h) hbb1 hwz hown2 hgrow hat⟩
          case measure => simp [intOf]; omega
      · have hkl : k = l.length := by omega
        obtain ⟨A3, n3, c3, rfl⟩ := own_form hr.own
        have hc0 := hr.blk.cell 0
        have hr0 := hr.res.cell 0
        have hrf := hr.res.frozen 0
        clear ih
        have HKL := Lib.hid hkl
        clear hkl
        go_wp2_with fail
        refine bodyPost_ret (clone_results rfl (hr.res.set_ 0 _)) rfl ?_
        rw [HKL.out] at hr
        obtain ⟨g1, g2, g3, g4⟩ := hr.done (.slice A3 n3 c3)
        exact ⟨_, _, rfl, g1, g2, fun b hb => by have := g3 b hb; omega, g4⟩
end Go.Proofs.YtkkfdiidneoelaaGreatDoor

namespace Go.Proofs.YtkkfdiidneoelaaGreatDoor
open Go.RowKit

end Go.Proofs.YtkkfdiidneoelaaGreatDoor

namespace Go.Proofs.YtkkfdiidneoelaaGreatDoor
open Go.RowKit

end Go.Proofs.YtkkfdiidneoelaaGreatDoor

namespace Go.Proofs.YtkkfdiidneoelaaGreatDoor
open Go.RowKit

def S.behindE (s : S) (k : Int) : Int := if s.ok then (if k < 0 ∨ (s.args.length : Int) < k then 2 else 0) else 6
def S.behindS (s : S) (k : Int) : S := if s.behindE k = 0 then .mk (s.args.drop k.toNat) else .mk []

/-- What Behind leaves. -/
def Behinds (s : S) (k : Int) (w : World) (e : Ending) (w' : World) : Prop :=
  ∃ v fp, e = .returned (.tuple #[.agg #[v], .int .i64 (s.behindE k)]) ∧ (s.behindS k).Sep w' v fp ∧ fp.Nodup ∧ (∀ b ∈ fp, w.heap.size ≤ b ∧ b < w'.heap.size) ∧ Below w.heap.size w w'

theorem S.behindE_ok (s : S) {k : Int} (h : s.ok = true) (hk : ¬ (k < 0 ∨ (s.args.length : Int) < k)) : s.behindE k = 0 := by rw [S.behindE, if_pos h, if_neg hk]
theorem S.behindE_arg (s : S) {k : Int} (h : s.ok = true) (hk : k < 0 ∨ (s.args.length : Int) < k) : s.behindE k = 2 := by rw [S.behindE, if_pos h, if_pos hk]
theorem S.behindE_bad (s : S) {k : Int} (h : s.ok = false) : s.behindE k = 6 := by rw [S.behindE, if_neg (by rw [h]; decide)]
theorem S.behindS_no (s : S) {k : Int} (h : s.behindE k ≠ 0) : s.behindS k = .mk [] := by rw [S.behindS, if_neg h]
theorem S.behindS_yes (s : S) {m : Nat} (h : s.behindE m = 0) : s.behindS m = .mk (s.args.drop m) := by rw [S.behindS, if_pos h, Int.toNat_natCast]
theorem sep_nil (w : World) : (S.mk []).Sep w (.slice none 0 0) [] := by
  simp only [S.Sep]
  exact ⟨[], [], ⟨by simp, .inl ⟨rfl, rfl⟩⟩, by simp [S.SepL], by simp [Value.ownBlock]⟩
theorem S.In.drop {w : World} {lo hi n c k : Nat} {A : Option Addr} {l : List S} (h : (S.mk l).In w lo hi (.slice A n c)) (hk : k ≤ n) :
    (S.mk (l.drop k)).In w lo hi (.slice (if c = k then A else A.map (·.add k)) (n - k) (c - k)) := by
  simp only [S.In] at h ⊢
  obtain ⟨A', n', c', hv, h1, h2, h3, h4⟩ := h
  injection hv with e1 e2 e3
  subst e1 e2 e3
  refine ⟨_, _, _, rfl, by simp [h1], by omega, by omega, S.All.mk_ fun j x hx => ?_⟩
  rw [List.getElem?_drop] at hx
  obtain ⟨ad, u, rfl, h5, h6, h7, h8⟩ := h4.at_ hx
  have hlt : k + j < l.length := by
    rcases Nat.lt_or_ge (k + j) l.length with h | h
    · exact h
    · rw [List.getElem?_eq_none h] at hx; cases hx
  rw [if_neg (by omega)]
  exact ⟨ad.add k, u, rfl, by rw [block_of_add]; exact h5, by rw [block_of_add]; exact h6, by rw [add_of_add, Nat.zero_add]; rw [Nat.zero_add] at h7; exact h7, h8⟩

theorem S.countL_drop_le (l : List S) (k : Nat) : S.countL (l.drop k) ≤ S.countL l := by
  induction l generalizing k with
  | nil => simp
  | cons a r ih => cases k with
    | zero => simp
    | succ k => have := ih k; simp [S.countL]; omega
theorem behind_any_results {tmps : Array Value} {w : World} {a : Nat} {x y : Value} (h2 : tmps.getD 4 undef = .pointer (some ⟨a, 0, none⟩)) (h3 : tmps.getD 5 undef = y)
    (ha : Blk w a 50 #[x]) : (results Tryz.f147 tmps).run Tryz.prog w = .ok (.tuple #[.agg #[x], y]) w := by
  have h4 := ha.cell 0
  simp at h4
  have h2' : tmps[4]?.getD undef = .pointer (some ⟨a, 0, none⟩) := by simpa using h2
  have h3' : tmps[5]?.getD undef = y := by simpa using h3
  simp [results, Tryz.results147, go_sem, h2', h3', h4]

set_option maxRecDepth 100000 in
set_option maxHeartbeats 800000 in
theorem behind_any (s : S) (v : Value) (k : Int) (w : World) (lo hi : Nat) (hin : s.In w lo hi v) (hhi : hi ≤ w.heap.size) :
    Calls Tryz.prog 147 #[.agg #[v], .int .i64 k] w (Behinds s k w) := by
  obtain ⟨l⟩ := s
  have hin0 := hin
  simp only [S.In] at hin
  obtain ⟨A, _, c, rfl, rfl, hnc, hc, hall⟩ := hin
  have hw1 : Below w.heap.size w ((w.alloc (.cells #[.slice A l.length c] 50)).alloc (.cells #[.slice none 0 0] 50)) := ((Below.refl _ _).alloc (Nat.le_refl _) _).alloc (by simp) _
  have hin1 := hin0.below hw1 hhi
  have hbk : Blk ((w.alloc (.cells #[.slice A l.length c] 50)).alloc (.cells #[.slice none 0 0] 50)) w.heap.size 50 #[.slice A l.length c] := (Blk.new w _ _).alloc _
  have hbr : Blk ((w.alloc (.cells #[.slice A l.length c] 50)).alloc (.cells #[.slice none 0 0] 50)) (w.heap.size + 1) 50 #[.slice none 0 0] := by simpa using Blk.new (w.alloc (.cells #[.slice A l.length c] 50)) 50 #[.slice none 0 0]
  have HC := Lib.hid (check_any _ _ _ lo hi hin1 (by simp; omega))
  cases hok : (S.mk l).ok with
  | true =>
    rw [hok] at HC
    have hcnt := S.ok_count hok
    by_cases hk : k < 0 ∨ (l.length : Int) < k
    · have HE := Lib.hid ((S.mk l).behindE_arg hok hk)
      have HS := Lib.hid ((S.mk l).behindS_no (k := k) (by rw [HE.out]; decide))
      clear hok
      by_cases hkn : k < 0
      · clear hk
        go_enter Tryz.func147, Tryz.ntmps147
        go_wp2_with fail
        refine HC.out.mono ?_
        rintro e w1 ⟨rfl, hb1⟩
        rw [show errOf true = 0 from rfl]
        have hk1 := hbk.below hb1 (by simp; omega)
        have hr1 := hbr.below hb1 (by simp)
        have hc1 := hk1.cell 0
        have hcr := hr1.cell 0
        have hfr := hr1.frozen 0
        have hin2 := hin1.below hb1 (by simp; omega)
        have hz := hb1.size
        simp only [World.size_alloc] at hb1 hz
        go_wp2_with fail
        refine bodyPost_ret (behind_any_results (y := .int .i64 2) rfl rfl (hr1.set_ 0 _)) rfl ?_
        exact ⟨_, [], by rw [HE.out], by rw [HS.out]; exact sep_nil _, by simp, by simp, (hw1.trans (hb1.mono (by omega))).setCell (by simp) _⟩
      · have hkl : (l.length : Int) < k := by omega
        clear hk
        go_enter Tryz.func147, Tryz.ntmps147
        go_wp2_with fail
        refine HC.out.mono ?_
        rintro e w1 ⟨rfl, hb1⟩
        rw [show errOf true = 0 from rfl]
        have hk1 := hbk.below hb1 (by simp; omega)
        have hr1 := hbr.below hb1 (by simp)
        have hc1 := hk1.cell 0
        have hcr := hr1.cell 0
        have hfr := hr1.frozen 0
        have hin2 := hin1.below hb1 (by simp; omega)
        have hz := hb1.size
        simp only [World.size_alloc] at hb1 hz
        go_wp2_with fail
        refine bodyPost_ret (behind_any_results (y := .int .i64 2) rfl rfl (hr1.set_ 0 _)) rfl ?_
        exact ⟨_, [], by rw [HE.out], by rw [HS.out]; exact sep_nil _, by simp, by simp, (hw1.trans (hb1.mono (by omega))).setCell (by simp) _⟩
    · have hk1 : 0 ≤ k := by omega
      have hk2 : k ≤ l.length := by omega
      obtain ⟨m, rfl⟩ := Int.eq_ofNat_of_zero_le hk1
      have HE := Lib.hid ((S.mk l).behindE_ok hok hk)
      have HS := Lib.hid ((S.mk l).behindS_yes HE.out)
      have hcd : (S.mk (l.drop m)).count ≤ 60 := by have := S.countL_drop_le l m; simp only [S.count] at hcnt ⊢; omega
      clear hok hk
      by_cases hcm : c = m
      · subst hcm
        go_enter Tryz.func147, Tryz.ntmps147
        go_wp2_with fail
        refine HC.out.mono ?_
        rintro e w1 ⟨rfl, hb1⟩
        rw [show errOf true = 0 from rfl]
        have hk1 := hbk.below hb1 (by simp; omega)
        have hr1 := hbr.below hb1 (by simp)
        have hc1 := hk1.cell 0
        have hcr := hr1.cell 0
        have hfr := hr1.frozen 0
        have hin2 := hin1.below hb1 (by simp; omega)
        have hz := hb1.size
        simp only [World.size_alloc] at hb1 hz
        have hdr := hin2.drop (k := c) (by omega)
        rw [if_pos rfl, Nat.sub_self, Nat.sub_eq_zero_of_le hnc] at hdr
        have HD := Lib.hid (clone_any _ _ _ _ lo hi (Nat.le_refl _) (by omega) hdr (by omega))
        go_wp2_with fail
        refine HD.out.mono ?_
        rintro e w2 ⟨v2, fp, rfl, g1, g2, g3, g4⟩
        obtain ⟨A2, n2, c2, rfl⟩ := g1.form
        have hr2 := hr1.below g4 (by omega)
        have hcr2 := hr2.cell 0
        have hfr2 := hr2.frozen 0
        go_wp2_with fail
        refine bodyPost_ret (behind_any_results (y := .int .i64 0) rfl rfl (hr2.set_ 0 _)) rfl ?_
        refine ⟨_, fp, by rw [HE.out], ?_, g2, ?_, ((hw1.trans (hb1.mono (by omega))).trans (g4.mono (by omega))).setCell (by simp) _⟩
        · rw [HS.out]
          exact g1.keep _ (fun b hb => Below.heap_setCell _ _ _ _ (by have := g3 b hb; show b ≠ w.heap.size + 1; omega))
        · intro b hb
          have := g3 b hb
          simp [World.setCell]
          omega
      · go_enter Tryz.func147, Tryz.ntmps147
        go_wp2_with fail
        refine HC.out.mono ?_
        rintro e w1 ⟨rfl, hb1⟩
        rw [show errOf true = 0 from rfl]
        have hk1 := hbk.below hb1 (by simp; omega)
        have hr1 := hbr.below hb1 (by simp)
        have hc1 := hk1.cell 0
        have hcr := hr1.cell 0
        have hfr := hr1.frozen 0
        have hin2 := hin1.below hb1 (by simp; omega)
        have hz := hb1.size
        simp only [World.size_alloc] at hb1 hz
        have hdr := hin2.drop (k := m) (by omega)
        rw [if_neg hcm] at hdr
        have HD := Lib.hid (clone_any _ _ _ _ lo hi (Nat.le_refl _) (by omega) hdr (by omega))
        go_wp2_with fail
        refine HD.out.mono ?_
        rintro e w2 ⟨v2, fp, rfl, g1, g2, g3, g4⟩
        obtain ⟨A2, n2, c2, rfl⟩ := g1.form
        have hr2 := hr1.below g4 (by omega)
        have hcr2 := hr2.cell 0
        have hfr2 := hr2.frozen 0
        go_wp2_with fail
        refine bodyPost_ret (behind_any_results (y := .int .i64 0) rfl rfl (hr2.set_ 0 _)) rfl ?_
        refine ⟨_, fp, by rw [HE.out], ?_, g2, ?_, ((hw1.trans (hb1.mono (by omega))).trans (g4.mono (by omega))).setCell (by simp) _⟩
        · rw [HS.out]
          exact g1.keep _ (fun b hb => Below.heap_setCell _ _ _ _ (by have := g3 b hb; show b ≠ w.heap.size + 1; omega))
        · intro b hb
          have := g3 b hb
          simp [World.setCell]
          omega
  | false =>
    rw [hok] at HC
    have HE := Lib.hid ((S.mk l).behindE_bad (k := k) hok)
    have HS := Lib.hid ((S.mk l).behindS_no (k := k) (by rw [HE.out]; decide))
    clear hok
    go_enter Tryz.func147, Tryz.ntmps147
    go_wp2_with fail
    refine HC.out.mono ?_
    rintro e w1 ⟨rfl, hb1⟩
    rw [show errOf false = 6 from rfl]
    have hk1 := hbk.below hb1 (by simp; omega)
    have hr1 := hbr.below hb1 (by simp)
    have hc1 := hk1.cell 0
    have hcr := hr1.cell 0
    have hfr := hr1.frozen 0
    have hin2 := hin1.below hb1 (by simp; omega)
    have hz := hb1.size
    simp only [World.size_alloc] at hb1 hz
    go_wp2_with fail
    refine bodyPost_ret (behind_any_results (y := .int .i64 6) rfl rfl (hr1.set_ 0 _)) rfl ?_
    exact ⟨_, [], by rw [HE.out], by rw [HS.out]; exact sep_nil _, by simp, by simp, (hw1.trans (hb1.mono (by omega))).setCell (by simp) _⟩
end Go.Proofs.YtkkfdiidneoelaaGreatDoor
