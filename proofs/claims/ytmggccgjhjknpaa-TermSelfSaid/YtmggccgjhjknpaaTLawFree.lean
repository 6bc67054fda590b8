/-
  TermFree: the variables of every term that can be read, and the example comes out.
-/
import Derived.Test.YtmggccgjhjknpaaTFree
import Derived.Test.YtmggccgjhjknpaaTLawSubst
namespace Go.Proofs.Ytmggccgjhjknpaa
open Go.RowKit

theorem up_all {l : List Int} (h : l.Pairwise (· < ·)) : (l.all fun x => decide (0 ≤ x)) = true ↔ ∀ x, l[0]? = some x → 0 ≤ x := by
  cases l with
  | nil => simp
  | cons a r =>
    constructor
    · intro h1 x hx
      simp at hx; subst hx
      simpa using (List.all_eq_true.1 h1 a (by simp))
    · intro h1
      have ha := h1 a (by simp)
      rw [List.all_eq_true]
      intro y hy
      rcases List.mem_cons.1 hy with rfl | hy
      · simpa using ha
      · have : a < y := List.rel_of_pairwise_cons h hy
        have : 0 ≤ y := by omega
        simpa using this

set_option maxHeartbeats 1600000 in
theorem refFree_any (t : T) (v : Value) (w : World) (P : Nat → Prop) (hin : t.In w P v) (hold : Old P w) :
    Calls Try.prog 27 #[.agg #[.int .i64 t.kind, .int .i64 t.num, v]] w (GaveZ t.freeL t.freeE w) := by
  have hw1 : Below w.heap.size w (w.alloc (.cells #[.int .i64 t.kind, .int .i64 t.num, v] 35)) := (Below.refl _ _).alloc (Nat.le_refl _) _
  have hbx := Blk.new w 35 #[.int .i64 t.kind, .int .i64 t.num, v]
  obtain ⟨A, n, c, rfl⟩ := hin.form
  have hin1 := hin.old hold hw1
  have HL := Lib.hid (large_any t _ _ P hin1 (hold.bel hw1))
  cases hl : t.large with
  | true =>
    have HE : Hid (t.freeE = 3) := Lib.hid (by simp [T.freeE, hl])
    have HF : Hid (t.freeL = []) := Lib.hid (by simp [T.freeL, HE.out])
    rw [hl] at HL
    clear hl
    go_enter Try.func27, Try.ntmps27
    go_wp2_with fail
    refine HL.out.mono ?_
    rintro e w1 ⟨rfl, hb1⟩
    simp only [World.size_alloc] at hb1
    go_wp2_with fail
    rw [HE.out, HF.out]
    go_ret2
    exact GaveZ.mk_ (Zs.nil _ _) (hw1.trans (hb1.mono (by omega)))
  | false =>
    have htc := not_large hl
    have HLG := Lib.hid hl
    rw [hl] at HL
    clear hl
    go_enter Try.func27, Try.ntmps27
    go_wp2_with fail
    refine HL.out.mono ?_
    rintro e w1 ⟨rfl, hb1⟩
    have hz1 := hb1.size
    simp only [World.size_alloc] at hb1 hz1
    have hbx1 := hbx.below hb1 (by omega)
    have x0 := hbx1.cell 0
    have x1 := hbx1.cell 1
    have x2 := hbx1.cell 2
    simp at x0 x1 x2
    have hb1' : Below w.heap.size w w1 := hw1.trans (hb1.mono (by omega))
    have HV := Lib.hid (variables_any _ t _ w1 P [] (.slice none 0 0) w.heap.size (Nat.le_refl _) (by simp; omega) (hin1.below hb1 (fun b hb => Nat.lt_succ_of_lt (hold b hb))) ((hold.bel hw1).bel hb1) (Zs.nil _ _) (by omega))
    have HUP := Lib.hid t.vars_up
    have hFE : t.freeE = if ((t.vars []).all fun x => decide (0 ≤ x)) then 0 else 2 := by simp only [T.freeE, HLG.out]; rfl
    have hFL : t.freeL = if ((t.vars []).all fun x => decide (0 ≤ x)) then t.vars [] else [] := by
      unfold T.freeL
      rw [hFE]
      split <;> simp
    generalize t.vars [] = vl at *
    generalize t.freeL = FL at *
    generalize t.freeE = FE at *
    have HFE := Lib.hid hFE
    have HFL := Lib.hid hFL
    clear hFE hFL hin1 hbx hbx1 HL
    go_wp2_with fail
    refine HV.out.mono ?_
    rintro e w2 ⟨u, rfl, hzs, hb2⟩
    obtain ⟨A2, c2, rfl, _, _⟩ := hzs.form
    have hb3 : Below w.heap.size w w2 := hb1'.trans (hb2.mono (by omega))
    by_cases h0 : 0 < vl.length
    · have hx : vl[0]? = some vl[0] := List.getElem?_eq_getElem h0
      obtain ⟨g, rfl, hg, r0⟩ := hzs.cell hx
      by_cases hneg : vl[0] < 0
      · have hE : FE = 2 ∧ FL = [] := by
          have hn : ¬ (vl.all fun x => decide (0 ≤ x)) = true := fun h => by have := (up_all HUP.out).1 h _ hx; omega
          exact ⟨by rw [HFE.out, if_neg hn], by rw [HFL.out, if_neg hn]⟩
        have HE := Lib.hid hE
        clear hE hzs
        generalize vl[0] = x at *
        clear hx
        go_wp2_with fail
        rw [HE.out.1, HE.out.2]
        go_ret2
        exact GaveZ.mk_ (Zs.nil _ _) hb3
      · have hE : FE = 0 ∧ FL = vl := by
          have hn : (vl.all fun x => decide (0 ≤ x)) = true := (up_all HUP.out).2 (fun y hy => by rw [hx] at hy; injection hy with hy; omega)
          exact ⟨by rw [HFE.out, if_pos hn], by rw [HFL.out, if_pos hn]⟩
        have HE := Lib.hid hE
        have hneg' : 0 ≤ vl[0] := by omega
        have HZ := Lib.hid hzs
        clear hE hneg hzs
        generalize vl[0] = x at *
        clear hx
        go_wp2_with fail
        rw [HE.out.1, HE.out.2]
        go_ret2
        exact GaveZ.mk_ HZ.out hb3
    · have hv : vl = [] := List.eq_nil_of_length_eq_zero (by omega)
      subst hv
      have hE : FE = 0 ∧ FL = [] := ⟨by rw [HFE.out]; rfl, by rw [HFL.out]; rfl⟩
      have HE := Lib.hid hE
      have HZ := Lib.hid hzs
      clear hE hzs h0
      go_wp2_with fail
      rw [HE.out.1, HE.out.2]
      go_ret2
      exact GaveZ.mk_ HZ.out hb3

/-- What the loop of ints holds. -/
def TwoZ (l : List Int) (u v : Value) (w0 : World) (i : Value) (w : World) : Prop :=
  ∃ k : Nat, k ≤ l.length ∧ i = .int .i64 k ∧ Zs 0 w l u ∧ Zs 0 w l v ∧ Below w0.heap.size w0 w
set_option maxHeartbeats 1600000 in
theorem ints_any (l : List Int) (u v : Value) (w : World) (hu : Zs 0 w l u) (hv : Zs 0 w l v) (hl : l.length ≤ 1000000) :
    Calls Try.prog 28 #[u, v] w fun e w' => e = .returned (.bool true) ∧ Below w.heap.size w w' := by
  obtain ⟨A, c, rfl, _, _⟩ := hu.form
  obtain ⟨A1, c1, rfl, _, _⟩ := hv.form
  go_enter Try.func28, Try.ntmps28
  go_wp2_with fail
  go_loopw [13] (fun i wr => TwoZ l (.slice A l.length c) (.slice A1 l.length c1) w i wr) (fun i _ => l.length - (intOf i).toNat)
  case atStart => exact ⟨0, Nat.zero_le _, rfl, hu, hv, Below.refl _ _⟩
  case round =>
    obtain ⟨k, hk, rfl, h1, h2, hbel⟩ := hrel
    clear hu hv
    by_cases hlt : k < l.length
    · have hx : l[k]? = some l[k] := List.getElem?_eq_getElem hlt
      obtain ⟨g, rfl, hg, r0⟩ := h1.cell hx
      obtain ⟨g1, rfl, hg1, r1⟩ := h2.cell hx
      have HX := Lib.hid hx
      generalize l[k] = x at *
      have hlt' : (k : Int) < (l.length : Int) := by omega
      have hk0 : (0 : Int) ≤ (k : Int) := by omega
      clear hx
      go_wp2_with fail
      go_region
      all_goals
        go_wp2_with fail
        go_roundw
        case rel => exact ⟨k + 1, by omega, by go_num, h1, h2, hbel.drew⟩
        case measure => simp [intOf]; omega
    · go_wp2_with fail
      go_ret
      exact ⟨rfl, hbel⟩

/-- A term in its box, kept. -/
structure L1 (t : T) (v : Value) (P : Nat → Prop) (B : Nat) (w0 w : World) : Prop where
  bT : Blk w B 35 #[.int .i64 t.kind, .int .i64 t.num, v]
  iT : t.In w P v
  oT : Old P w
  bel : Below B w0 w
theorem L1.next {t : T} {v : Value} {P : Nat → Prop} {B : Nat} {w0 w w' : World} (h : L1 t v P B w0 w) (hb : Below w.heap.size w w') : L1 t v P B w0 w' :=
  ⟨h.bT.below hb h.bT.lt, h.iT.old h.oT hb, h.oT.bel hb, h.bel.trans (hb.mono (by have := h.bT.lt; omega))⟩
theorem L1.start {t : T} {v : Value} {P : Nat → Prop} {w : World} (hin : t.In w P v) (hold : Old P w) : L1 t v P w.heap.size w (w.alloc (.cells #[.int .i64 t.kind, .int .i64 t.num, v] 35)) := by
  have hb : Below w.heap.size w (w.alloc (.cells #[.int .i64 t.kind, .int .i64 t.num, v] 35)) := (Below.refl _ _).alloc (Nat.le_refl _) _
  exact ⟨Blk.new _ _ _, hin.old hold hb, hold.bel hb, hb⟩
theorem L1.three {t : T} {v : Value} {P : Nat → Prop} {B : Nat} {w0 w : World} (h : L1 t v P B w0 w) : w.cell? ⟨B, 0, none⟩ = some (.int .i64 t.kind) ∧ w.cell? ⟨B, 1, none⟩ = some (.int .i64 t.num) ∧ w.cell? ⟨B, 2, none⟩ = some v := by
  have a0 := h.bT.cell 0
  have a1 := h.bT.cell 1
  have a2 := h.bT.cell 2
  simp at a0 a1 a2
  exact ⟨a0, a1, a2⟩

set_option maxHeartbeats 1600000 in
theorem lawFreeT_any (t : T) (v : Value) (w : World) (P : Nat → Prop) (hwf : t.wf) (hin : t.In w P v) (hold : Old P w) :
    Calls Try.prog 6 #[.agg #[.int .i64 t.kind, .int .i64 t.num, v]] w fun e w' => e = .returned (.bool true) ∧ Below w.heap.size w w' := by
  have k0 := L1.start hin hold
  have HD := Lib.hid (different_any t v _ P k0.iT k0.oT)
  have HX := Lib.hid (fun w' (k : L1 t v P w.heap.size w w') => free_any t v w' P k.iT k.oT hwf)
  have HY := Lib.hid (fun w' (k : L1 t v P w.heap.size w w') => refFree_any t v w' P k.iT k.oT)
  have hlen : t.freeL.length ≤ 1000000 := by
    unfold T.freeL
    split
    · rename_i h
      have h1 := t.vars_length []
      have h2 : t.large = false := by
        cases hl : t.large with
        | false => rfl
        | true => simp [T.freeE, hl] at h
      have h3 := not_large h2
      simp at h1
      omega
    · simp
  obtain ⟨A, n, c, rfl⟩ := hin.form
  have HA := Lib.hid aliveT_any
  generalize t.freeL = l at *
  generalize t.freeE = E at *
  obtain ⟨x0, x1, x2⟩ := k0.three
  clear hin
  cases hdf : (!t.large && decide (4000 < t.count)) with
  | true =>
    rw [hdf] at HD
    clear hdf
    go_enter Try.func6, Try.ntmps6
    go_wp2_with fail
    refine HD.out.mono ?_
    rintro e w1 ⟨rfl, b1⟩
    have k1 := k0.next b1
    go_wp2_with fail
    refine (HA.out _).mono ?_
    rintro e w2 ⟨rfl, b2⟩
    have k2 := k1.next b2
    go_wp2_with fail
    go_ret
    exact ⟨rfl, k2.bel⟩
  | false =>
    rw [hdf] at HD
    clear hdf
    go_enter Try.func6, Try.ntmps6
    go_wp2_with fail
    refine HD.out.mono ?_
    rintro e w0 ⟨rfl, b0⟩
    have k1 := k0.next b0
    clear k0 x0 x1 x2 b0 HD
    obtain ⟨x0, x1, x2⟩ := k1.three
    have HX1 := Lib.hid (HX.out _ k1)
    go_wp2_with fail
    refine HX1.out.mono ?_
    rintro e w2 ⟨u, rfl, hz2, b2⟩
    have k2 := k1.next b2
    clear k1 x0 x1 x2 b2 HX1 HX
    obtain ⟨x0, x1, x2⟩ := k2.three
    have HY1 := Lib.hid (HY.out _ k2)
    obtain ⟨A2, c2, rfl, _, _⟩ := hz2.form
    go_wp2_with fail
    refine HY1.out.mono ?_
    rintro e w3 ⟨u3, rfl, hz3, b3⟩
    have k3 := k2.next b3
    have hz2' := hz2.below b3
    obtain ⟨A3, c3, rfl, _, _⟩ := hz3.form
    have HI := Lib.hid (ints_any l _ _ w3 (hz2'.less (Nat.zero_le _)) (hz3.less (Nat.zero_le _)) hlen)
    clear k2 x0 x1 x2 b3 HY1 HY hz2 hz2' hz3
    go_wp2_with fail
    refine HI.out.mono ?_
    rintro e w4 ⟨rfl, b4⟩
    have k4 := k3.next b4
    go_wp2_with fail
    refine (HA.out _).mono ?_
    rintro e w5 ⟨rfl, b5⟩
    have k5 := k4.next b5
    go_wp2_with fail
    go_ret
    exact ⟨rfl, k5.bel⟩
end Go.Proofs.Ytmggccgjhjknpaa
