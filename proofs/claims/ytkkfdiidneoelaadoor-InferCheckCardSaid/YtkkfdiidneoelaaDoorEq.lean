/-
  Equality: sorts.equal, slices.EqualFunc, sorts.Same, and the reference's Equal and Same.
-/
import Derived.Test.YtkkfdiidneoelaaDoorSize
import Derived.Deep.RegionWith
import Derived.Deep.RegionHeld3
namespace Go.Proofs.YtkkfdiidneoelaaDoor
open Go.RowKit

mutual
def S.eqb : S → S → Bool
  | .mk l, .mk m => S.eqL l m
def S.eqL : List S → List S → Bool
  | [], [] => true
  | x :: r, y :: t => x.eqb y && S.eqL r t
  | _, _ => false
end
mutual
theorem S.eqb_iff : ∀ s t : S, s.eqb t = true ↔ s = t
  | .mk l, .mk m => by simp only [S.eqb, S.mk.injEq]; exact S.eqL_iff l m
theorem S.eqL_iff : ∀ l m : List S, S.eqL l m = true ↔ l = m
  | [], [] => by simp [S.eqL]
  | x :: r, [] => by simp [S.eqL]
  | [], y :: t => by simp [S.eqL]
  | x :: r, y :: t => by simp only [S.eqL, Bool.and_eq_true, List.cons.injEq, S.eqb_iff x y, S.eqL_iff r t]
end
theorem S.eqL_len (l m : List S) (h : l.length ≠ m.length) : S.eqL l m = false := by
  rw [Bool.eq_false_iff]; intro hh; exact h (congrArg List.length ((S.eqL_iff l m).1 hh))
theorem S.eqL_take_succ (l m : List S) (k : Nat) (x y : S) (hx : l[k]? = some x) (hy : m[k]? = some y) (h : S.eqL (l.take k) (m.take k) = true) :
    S.eqL (l.take (k + 1)) (m.take (k + 1)) = x.eqb y := by
  have e := (S.eqL_iff _ _).1 h
  rw [Bool.eq_iff_iff, S.eqL_iff, S.eqb_iff, List.take_add_one, List.take_add_one, hx, hy, e]
  simp
theorem S.eqL_false (l m : List S) (k : Nat) (x y : S) (hx : l[k]? = some x) (hy : m[k]? = some y) (h : x.eqb y = false) : S.eqL l m = false := by
  rw [Bool.eq_false_iff]; intro hh
  have e := (S.eqL_iff _ _).1 hh
  subst e
  rw [hx] at hy
  have hxy : x = y := by simpa using hy
  rw [(S.eqb_iff x y).2 hxy] at h
  cases h

set_option maxHeartbeats 1600000 in
theorem refEqual_any (K : Nat) : ∀ (s t : S) (v u : Value) (w : World) (lo hi lo' hi' : Nat), s.count ≤ K → s.In w lo hi v → hi ≤ w.heap.size → t.In w lo' hi' u → hi' ≤ w.heap.size →
    Calls Tryd.prog 68 #[.agg #[v], .agg #[u]] w fun e w' => e = .returned (.bool (s.eqb t)) ∧ Below w.heap.size w w' := by
  induction K with
  | zero => intro s; have := s.count_pos; omega
  | succ K ih =>
    intro s t v u w lo hi lo' hi' hK hin hhi hin2 hhi2
    obtain ⟨l⟩ := s
    obtain ⟨m⟩ := t
    simp only [S.In] at hin hin2
    obtain ⟨A, _, c, rfl, rfl, hnc, hc, hall⟩ := hin
    obtain ⟨A2, n2, c2, rfl, hm2, hnc2, hc2, hall2⟩ := hin2
    have Hih := Lib.hid ih
    clear ih
    by_cases hlen : l.length = n2
    · subst hlen
      have HM0 := Lib.hid hm2
      clear hm2
      go_enter Tryd.func68, Tryd.ntmps68
      go_wp2_with fail
      go_loopw [16] (fun i wr => ∃ k : Nat, k ≤ l.length ∧ i = .int .i64 k ∧ Hid (S.eqL (l.take k) (m.take k) = true) ∧ Blk wr w.heap.size 41 #[.slice A l.length c] ∧ Blk wr (w.heap.size + 1) 41 #[.slice A2 l.length c2] ∧ Below w.heap.size w wr) (fun i _ => l.length - (intOf i).toNat)
      case atStart => exact ⟨0, Nat.zero_le _, rfl, Lib.hid (by simp [S.eqL]), (Blk.new _ _ _).alloc _, by simpa using Blk.new (w.alloc (.cells #[.slice A l.length c] 41)) 41 #[.slice A2 l.length c2], ((Below.refl _ _).alloc (Nat.le_refl _) _).alloc (by simp) _⟩
      case round =>
        obtain ⟨k, hk, rfl, hf, hb1, hb2, hbel⟩ := hrel
        have hsz := hb2.lt
        have hd1 := hb1.cell 0
        have hd2 := hb2.cell 0
        by_cases hlt : k < l.length
        · have hx : l[k]? = some l[k] := List.getElem?_eq_getElem hlt
          have hlt2 : k < m.length := by have := HM0.out; omega
          have hy : m[k]? = some m[k] := List.getElem?_eq_getElem hlt2
          have hcl := S.count_lt hx
          obtain ⟨ad, u, rfl, _, hadb, hcell, hinx⟩ := hall.at_ hx
          obtain ⟨ad2, u2, rfl, _, hadb2, hcell2, hinx2⟩ := hall2.at_ hy
          rw [Nat.zero_add] at hcell hcell2
          have hcellr : wr.cell? (ad.add k) = some u := (hbel.cell (by rw [block_of_add]; omega)).trans hcell
          have hcellr2 : wr.cell? (ad2.add k) = some u2 := (hbel.cell (by rw [block_of_add]; omega)).trans hcell2
          have hct := Hih.out l[k] m[k] u u2 wr.drew lo hi lo' hi' (by omega) (hinx.below hbel.drew hhi) (by simp; omega) (hinx2.below hbel.drew hhi2) (by simp; omega)
          have hsucc := S.eqL_take_succ l m k _ _ hx hy hf.out
          have hfalse := S.eqL_false l m k _ _ hx hy
          generalize l[k] = x at *
          generalize m[k] = y at *
          cases hb : x.eqb y with
          | true =>
            have hrel' : Hid (S.eqL (l.take (k + 1)) (m.take (k + 1)) = true) := Lib.hid (hsucc.trans hb)
            rw [hb] at hct
            have HC := Lib.hid hct
            clear hx hy hcell hcell2 hsucc hfalse hct hb
            go_wp2_with fail
            go_region_held3 (fun w' => w'.cell? ⟨w.heap.size, 0, none⟩ = some (.slice (some ad) l.length c) ∧ w'.cell? ⟨w.heap.size + 1, 0, none⟩ = some (.slice (some ad2) l.length c2) ∧ w'.cell? (ad.add k) = some u ∧ w'.cell? (ad2.add k) = some u2) (first | go_keep | assumption)
              (first
                | (go_at_call 68
                   refine HC.out.mono ?_
                   rintro e w1 ⟨rfl, hw1⟩
                   have QK : ∀ (p : Addr) (z : Value), p.block < wr.heap.size → wr.cell? p = some z → w1.cell? p = some z := fun p z hp h => (hw1.cell hp).trans h
                   have Q := And.intro (QK _ _ (by simp; omega) hd1) (And.intro (QK _ _ (by simp; omega) hd2) (And.intro (QK _ _ (by rw [block_of_add]; omega) hcellr) (QK _ _ (by rw [block_of_add]; omega) hcellr2)))
                   clear QK))
            all_goals
              replace hw1 : Below wr.heap.size wr.drew w1 := hw1
              go_wp2_with fail
              go_roundw
              case rel => exact ⟨k + 1, by omega, by go_num, hrel', hb1.drew.below hw1 (by omega), hb2.drew.below hw1 (by omega), hbel.drew.trans (hw1.mono (by omega))⟩
              case measure => simp [intOf]; omega
          | false =>
            have HF := Lib.hid (hfalse hb)
            rw [hb] at hct
            have HC := Lib.hid hct
            clear hx hy hcell hcell2 hsucc hfalse hct hb
            go_wp2_with fail
            go_region_held3 (fun w' => w'.cell? ⟨w.heap.size, 0, none⟩ = some (.slice (some ad) l.length c) ∧ w'.cell? ⟨w.heap.size + 1, 0, none⟩ = some (.slice (some ad2) l.length c2) ∧ w'.cell? (ad.add k) = some u ∧ w'.cell? (ad2.add k) = some u2) (first | go_keep | assumption)
              (first
                | (go_at_call 68
                   refine HC.out.mono ?_
                   rintro e w1 ⟨rfl, hw1⟩
                   have QK : ∀ (p : Addr) (z : Value), p.block < wr.heap.size → wr.cell? p = some z → w1.cell? p = some z := fun p z hp h => (hw1.cell hp).trans h
                   have Q := And.intro (QK _ _ (by simp; omega) hd1) (And.intro (QK _ _ (by simp; omega) hd2) (And.intro (QK _ _ (by rw [block_of_add]; omega) hcellr) (QK _ _ (by rw [block_of_add]; omega) hcellr2)))
                   clear QK))
            all_goals
              replace hw1 : Below wr.heap.size wr.drew w1 := hw1
              go_wp2_with fail
              go_ret
              exact ⟨ret_bool HF.out.symm, hbel.drew.trans (hw1.mono (by omega))⟩
        · have h1 : l.take k = l := List.take_of_length_le (by omega)
          have h2 : m.take k = m := List.take_of_length_le (by have := HM0.out; omega)
          rw [h1, h2] at hf
          clear h1 h2
          go_wp2_with fail
          go_ret
          exact ⟨ret_bool hf.out.symm, hbel⟩
    · have hF := S.eqL_len l m (by omega)
      have HF := Lib.hid hF
      clear hF hm2
      go_enter Tryd.func68, Tryd.ntmps68
      go_wp2_with fail
      go_ret
      exact ⟨ret_bool HF.out.symm, ((Below.refl _ _).alloc (Nat.le_refl _) _).alloc (by simp) _⟩

set_option maxHeartbeats 400000 in
theorem refSame_any (s t : S) (v u : Value) (w : World) (lo hi lo' hi' : Nat) (hin : s.In w lo hi v) (hhi : hi ≤ w.heap.size) (hin2 : t.In w lo' hi' u) (hhi2 : hi' ≤ w.heap.size) :
    Calls Tryd.prog 43 #[.agg #[v], .agg #[u]] w fun e w' => e = .returned (.bool (decide (s.count ≤ 60) && (decide (t.count ≤ 60) && s.eqb t))) ∧ Below w.heap.size w w' := by
  obtain ⟨A1, n1, c1, rfl⟩ := hin.form
  obtain ⟨A3, n3, c3, rfl⟩ := hin2.form
  have hw2 : Below w.heap.size w ((w.alloc (.cells #[.slice A1 n1 c1] 41)).alloc (.cells #[.slice A3 n3 c3] 41)) := ((Below.refl _ _).alloc (Nat.le_refl _) _).alloc (by simp) _
  have hb1 : Blk ((w.alloc (.cells #[.slice A1 n1 c1] 41)).alloc (.cells #[.slice A3 n3 c3] 41)) w.heap.size 41 #[.slice A1 n1 c1] := (Blk.new _ _ _).alloc _
  have hb2 : Blk ((w.alloc (.cells #[.slice A1 n1 c1] 41)).alloc (.cells #[.slice A3 n3 c3] 41)) (w.heap.size + 1) 41 #[.slice A3 n3 c3] := by simpa using Blk.new (w.alloc (.cells #[.slice A1 n1 c1] 41)) 41 #[.slice A3 n3 c3]
  have h1 := hin.below hw2 hhi
  have h2 := hin2.below hw2 hhi2
  have HC := Lib.hid (nodes_any _ s _ 60 _ lo hi (Nat.le_refl _) (by omega) (by omega) h1 (by simp; omega))
  by_cases g1 : s.count ≤ 60
  · simp only [g1, decide_true, Bool.true_and]
    by_cases g2 : t.count ≤ 60
    · simp only [g2, decide_true, Bool.true_and]
      go_enter Tryd.func43, Tryd.ntmps43
      go_wp2_with fail
      refine HC.out.mono ?_
      rintro e w1 ⟨rfl, hw1⟩
      have k1 := hb1.below hw1 (by simp; omega)
      have k2 := hb2.below hw1 (by simp)
      have c1 := k1.cell 0
      have c2 := k2.cell 0
      have i1 := h1.below hw1 (by simp; omega)
      have i2 := h2.below hw1 (by simp; omega)
      have hz := hw1.size
      simp only [World.size_alloc] at hw1 hz
      have HD := Lib.hid (nodes_any _ t _ 60 _ lo' hi' (Nat.le_refl _) (by omega) (by omega) i2 (by omega))
      go_wp2_with fail
      refine HD.out.mono ?_
      rintro e w2 ⟨rfl, hw22⟩
      have k3 := k1.below hw22 (by omega)
      have k4 := k2.below hw22 (by omega)
      have c3 := k3.cell 0
      have c4 := k4.cell 0
      have j1 := i1.below hw22 (by omega)
      have j2 := i2.below hw22 (by omega)
      have hz2 := hw22.size
      go_wp2_with fail
      refine (refEqual_any _ s t _ _ _ lo hi lo' hi' (Nat.le_refl _) j1 (by omega) j2 (by omega)).mono ?_
      rintro e w3 ⟨rfl, hw3⟩
      go_wp2_with fail
      go_ret
      exact ⟨rfl, ((hw2.trans (hw1.mono (by omega))).trans (hw22.mono (by omega))).trans (hw3.mono (by omega))⟩
    · simp only [g2, decide_false, Bool.false_and]
      go_enter Tryd.func43, Tryd.ntmps43
      go_wp2_with fail
      refine HC.out.mono ?_
      rintro e w1 ⟨rfl, hw1⟩
      have k2 := hb2.below hw1 (by simp)
      have c2 := k2.cell 0
      have i2 := h2.below hw1 (by simp; omega)
      have hz := hw1.size
      simp only [World.size_alloc] at hw1 hz
      have HD := Lib.hid (nodes_any _ t _ 60 _ lo' hi' (Nat.le_refl _) (by omega) (by omega) i2 (by omega))
      go_wp2_with fail
      refine HD.out.mono ?_
      rintro e w2 ⟨rfl, hw22⟩
      go_wp2_with fail
      go_ret
      exact ⟨rfl, (hw2.trans (hw1.mono (by omega))).trans (hw22.mono (by omega))⟩
  · simp only [g1, decide_false, Bool.false_and]
    go_enter Tryd.func43, Tryd.ntmps43
    go_wp2_with fail
    refine HC.out.mono ?_
    rintro e w1 ⟨rfl, hw1⟩
    simp only [World.size_alloc] at hw1
    go_wp2_with fail
    go_ret
    exact ⟨rfl, hw2.trans (hw1.mono (by omega))⟩
end Go.Proofs.YtkkfdiidneoelaaDoor
