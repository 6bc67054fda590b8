/-
  The reference's round: a contract.
-/
import Derived.Test.YtkkfdiidneoelaaGreatDoorIRAdd
import Derived.Test.YtkkfdiidneoelaaGreatDoorGQ
namespace Go.Proofs.YtkkfdiidneoelaaGreatDoor
open Go.RowKit

/-- How far a search has come, by the list of marks. -/
def visL (st : List Int) (y : Nat) : Int := st.getD y 0
theorem visL_at {st : List Int} {y : Nat} (h : y < st.length) : st[y]? = some (visL st y) := by simp [visL, List.getD, List.getElem?_eq_getElem h]
theorem visL_set {st : List Int} {r : Nat} (h : r < st.length) (z : Int) : visL (st.set r z) = visAt (visL st) r z := by
  funext y
  unfold visL visAt
  by_cases hy : y = r
  · subst hy; simp [List.getD, h]
  · rw [if_neg hy]
    simp [List.getD, List.getElem?_set_ne (Ne.symm hy)]
/-- What round answers. -/
def RndPost (G : Gr) (v : Nat → D) (st : List Int) (x : Nat) (sv : Value) (w : World) (e : Ending) (w' : World) : Prop :=
  ∃ (ok : Bool) (st' : List Int), e = .returned (.bool ok) ∧ Zs 0 w' st' sv ∧ st'.length = st.length ∧ Saves (fun b => sv.ownBlock = some b) w w' ∧ (ok = true → ∀ u, Sol G u → ¬ (u x).fin) ∧
    (ok = false → (v x).fin ∧ (∀ y, y < G.length → visL st' y = 2 → (v y).fin) ∧ (∀ y, visL st' y = 1 ↔ visL st y = 1) ∧ (∀ y, y < G.length → visL st' y = 0 ∨ visL st' y = 1 ∨ visL st' y = 2) ∧ ∀ y, visL st' y = 0 → visL st y = 0)
theorem RG.marks {p : Nat} {w w' : World} {G : Gr} {gv sv : Value} {st : List Int} (h : RG p w G gv) (hz : Zs 0 w st sv) (hs : Saves (fun b => sv.ownBlock = some b) w w') : RG p w' G gv :=
  h.keep (hs.block p h.box.lt (fun e => own_ne hz h.box (by decide) e)) fun b hb => hs.block b (h.lt hb) (fun e => own_own_ne hz h.own (by decide) b e hb)
theorem Zs.mark {w : World} {st : List Int} {g n c : Nat} (h : Zs 0 w st (.slice (some ⟨g, 0, none⟩) n c)) (r : Nat) (z : Int) : Zs 0 (w.setCell ⟨g, r, none⟩ (.int .i64 z)) (st.set r z) (.slice (some ⟨g, 0, none⟩) n c) := by
  obtain ⟨_, _, e, _, _⟩ := h.form
  injection e with e1 e2 e3
  subst e2
  unfold Zs at h ⊢
  rw [List.length_set, List.map_set]
  exact (h.stored _ _).1
/-- A call of round, with so many nodes ahead. -/
def RndCall (p : Nat) (G : Gr) (v : Nat → D) (gv sv : Value) (m : Nat) : Prop := ∀ (st : List Int) (x : Nat) (xi : Int) (w : World), aheads G (visL st) < m → RG p w G gv → Zs 0 w st sv → st.length = G.length → x < G.length → xi = (x : Int) → Marks G v (visL st) x →
    Calls Tryz.prog 75 #[.pointer (some (at0 p)), .int .i64 xi, sv] w (RndPost G v st x sv w)
set_option maxRecDepth 100000 in
set_option maxHeartbeats 3200000 in
theorem round_step (p : Nat) (G : Gr) (v : Nat → D) (gv sv : Value) (hG : Good G) (hv : Can G v) (m : Nat) (ih : RndCall p G v gv sv m) : RndCall p G v gv sv (m + 1) := by
  intro st x xi w hm hg hz hl hx hxi hmk
  subst hxi
  obtain ⟨r, k, he⟩ := hG.ends x hx
  obtain ⟨d, hd, hdr⟩ := he.at_
  have hrl := he.lt.2
  have HC := Lib.hid (endR_any p G gv x r k _ w rfl hg he)
  obtain ⟨gr, c, rfl, hgp, hgl, c10, c11, c12, _⟩ := hg.cell hd
  have c0 := hg.box.cell 0
  simp at c0
  have hvr := visL_at (st := st) (y := r) (by omega)
  obtain ⟨As, cs, rfl, hcs1, hcs2⟩ := hz.form
  obtain ⟨gs, rfl, hgs, s0⟩ := hz.cell hvr
  have sf : w.frozen? ⟨gs, r, none⟩ = false := World.ownsRow.frozenAt hz r
  have hrs : r < st.length := by omega
  have HX : Hid (∀ u, Sol G u → u x = u r) := Lib.hid fun u hu => hu.ends he
  have HM := Lib.hid hm
  have HMK := Lib.hid hmk
  have HIH := Lib.hid ih
  have HGS := Lib.hid hg
  have HZ := Lib.hid hz
  have HLL := Lib.hid hl
  have HV := Lib.hid hv
  have HG := Lib.hid hG
  have HD := Lib.hid (⟨hd, hdr⟩ : G[r]? = some d ∧ d.root = true)
  clear hm hmk ih hg hz hl hv hG hd hdr he
  rcases HMK.out.three r hrl with h0 | h1 | h2
  · by_cases harr : ∃ a b, d = .arrow a b
    · obtain ⟨a, b, rfl⟩ := harr
      have hab := HG.out.arrow r a b HD.out.1
      have HS : Hid (∀ u, Sol G u → u r = D.arr (u a) (u b)) := Lib.hid fun u hu => hu r (.arrow a b) HD.out.1
      have hvs := visL_set (st := st) hrs 1
      have hv1 : aheads G (visL (st.set r 1)) < m := by
        rw [hvs]
        have := aheads_lt hrl h0 (z := 1) (by decide)
        have := HM.out
        omega
      have hM1 : Marks G v (visL (st.set r 1)) a := by
        rw [hvs]
        exact HMK.out.part (vis := visL st) (r := r) HX.out (fun u hu => by rw [HS.out u hu]; exact .left _ _) (fun _ => Iff.rfl)
          (fun y hy hz => by
            by_cases hyr : y = r
            · subst hyr; simp [visAt] at hz
            · exact HMK.out.behind y hy (by simpa [visAt, hyr] using hz))
          (fun y hy => by
            by_cases hyr : y = r
            · subst hyr; simp [visAt]
            · simpa [visAt, hyr] using HMK.out.three y hy) rfl
      have hz1 := HZ.out.mark r 1
      have hsv1 : Saves (fun b => (Value.slice (some ⟨gs, 0, none⟩) st.length cs).ownBlock = some b) w (w.setCell ⟨gs, r, none⟩ (.int .i64 1)) := Saves.setCell (M := fun b => (Value.slice (some ⟨gs, 0, none⟩) st.length cs).ownBlock = some b) (p := ⟨gs, r, none⟩) (Saves.refl _ _) (.inl rfl) _
      have hg1 := HGS.out.marks HZ.out hsv1
      have HCA := Lib.hid (HIH.out (st.set r 1) a _ _ hv1 hg1 hz1 (by rw [List.length_set]; exact HLL.out) hab.1 rfl hM1)
      have HSV1 := Lib.hid hsv1
      have HG1 := Lib.hid hg1
      have HZ1 := Lib.hid hz1
      have HVS := Lib.hid hvs
      have HV1 := Lib.hid hv1
      have HAB := Lib.hid hab
      have hj : gs ≠ gr := fun e => own_own_ne HZ.out HGS.out.own (by decide) gs rfl (by rw [e]; rfl)
      have hjp : gs ≠ p := fun e => own_ne HZ.out HGS.out.box (by decide) (by rw [← e]; rfl)
      obtain ⟨k10, k11, k12⟩ := hg1.cells HD.out.1
      have kb := hg1.box.cell 0
      simp at kb
      have H0 := Lib.hid h0
      rw [h0] at s0
      simp only [Nd.kd, Nd.fa, Nd.fb] at c10 c11 c12 k10 k11 k12
      clear hvs hv1 hM1 hz1 hsv1 hg1 hab h0
      go_enter Tryz.func75, Tryz.ntmps75
      go_wp2_with fail
      refine HC.out.mono ?_
      rintro e w1 ⟨rfl, rfl⟩
      go_wp2_with fail
      refine HCA.out.mono ?_
      rintro e w3 ⟨ok, st2, rfl, hz3, hl3, hs3, hyes, hno⟩
      rw [List.length_set] at hl3
      cases ok with
      | true =>
        have HF : Hid (RndPost G v st x (.slice (some ⟨gs, 0, none⟩) st.length cs) w (.returned (.bool true)) w3) := by
          refine Lib.hid ⟨true, st2, rfl, hz3, hl3, HSV1.out.trans hs3, fun _ u hu => ?_, fun h => by cases h⟩
          rw [HX.out u hu, HS.out u hu]
          exact fun h => hyes rfl u hu (D.fin_parts h).1
        clear hz3 hl3 hs3 hyes hno
        go_wp2_with fail
        go_ret
        exact HF.out
      | false =>
        obtain ⟨hfa, hf2, h12, h3, h02⟩ := hno rfl
        have hM2 : Marks G v (visL st2) b := HMK.out.part (vis := visL st) (r := r) HX.out (fun u hu => by rw [HS.out u hu]; exact .right _ _) h12 hf2 h3 HVS.out
        have hv2 : aheads G (visL st2) < m := by
          have := aheads_le (G := G) h02
          have := HV1.out
          omega
        have hg3 := HG1.out.marks HZ1.out hs3
        have HCB := Lib.hid (HIH.out st2 b _ w3 hv2 hg3 hz3 (by rw [hl3]; exact HLL.out) HAB.out.2 rfl hM2)
        have HS3 := Lib.hid (HSV1.out.trans hs3)
        have H2 : Hid ((v a).fin ∧ (∀ y, visL st2 y = 1 ↔ visAt (visL st) r 1 y = 1) ∧ (∀ y, visL st2 y = 0 → visAt (visL st) r 1 y = 0)) := Lib.hid ⟨hfa, by rw [← HVS.out]; exact h12, by rw [← HVS.out]; exact h02⟩
        have HL3 := Lib.hid hl3
        obtain ⟨m10, m11, m12⟩ := hg3.cells HD.out.1
        have mb := hg3.box.cell 0
        simp at mb
        simp only [Nd.kd, Nd.fa, Nd.fb] at m10 m11 m12
        clear hM2 hv2 hg3 hfa hf2 h12 h3 h02 hyes hno hz3 hl3 hs3 c0 c10 c11 c12 k10 k11 k12 kb s0 sf
        go_wp2_with fail
        refine HCB.out.mono ?_
        rintro e w4 ⟨ok2, st3, rfl, hz4, hl4, hs4, hyes, hno⟩
        cases ok2 with
        | true =>
          have HF : Hid (RndPost G v st x (.slice (some ⟨gs, 0, none⟩) st.length cs) w (.returned (.bool true)) w4) := by
            refine Lib.hid ⟨true, st3, rfl, hz4, hl4.trans HL3.out, HS3.out.trans hs4, fun _ u hu => ?_, fun h => by cases h⟩
            rw [HX.out u hu, HS.out u hu]
            exact fun h => hyes rfl u hu (D.fin_parts h).2
          clear hz4 hl4 hs4 hyes hno
          go_wp2_with fail
          go_ret
          exact HF.out
        | false =>
          obtain ⟨hfb, hf3, h13, h33, h03⟩ := hno rfl
          have hr4 : r < st3.length := by have := HL3.out; omega
          have t0 := hz4.cells (visL_at hr4)
          have tf : w4.frozen? ⟨gs, r, none⟩ = false := by
            obtain ⟨_, _, e, _, _⟩ := hz4.form
            injection e with e1 e2 e3
            rw [e2] at hz4
            exact World.ownsRow.frozenAt hz4 r
          have HF : Hid (RndPost G v st x (.slice (some ⟨gs, 0, none⟩) st.length cs) w (.returned (.bool false)) (w4.setCell ⟨gs, r, none⟩ (.int .i64 2))) := by
            obtain ⟨hfa, h12, h02⟩ := H2.out
            have hrv : (v r).fin := by rw [HS.out v HV.out.sol]; exact D.fin_arr hfa hfb
            refine Lib.hid ⟨false, st3.set r 2, rfl, hz4.mark r 2, by rw [List.length_set]; exact hl4.trans HL3.out, Saves.setCell (p := ⟨gs, r, none⟩) (HS3.out.trans hs4) (.inl rfl) _, (fun h => by cases h), fun _ => ⟨?_, fun y hy hz => ?_, fun y => ?_, fun y hy => ?_, fun y hz => ?_⟩⟩
            · rw [HX.out v HV.out.sol]; exact hrv
            · rw [visL_set hr4] at hz
              by_cases hyr : y = r
              · subst hyr; exact hrv
              · exact hf3 y hy (by simpa [visAt, hyr] using hz)
            · rw [visL_set hr4]
              by_cases hyr : y = r
              · subst hyr; simp [visAt, H0.out]
              · have e1 : visAt (visL st3) r 2 y = visL st3 y := by simp [visAt, hyr]
                have e2 : visAt (visL st) r 1 y = visL st y := by simp [visAt, hyr]
                rw [e1, h13 y, h12 y, e2]
            · rw [visL_set hr4]
              by_cases hyr : y = r
              · subst hyr; simp [visAt]
              · simpa [visAt, hyr] using h33 y hy
            · rw [visL_set hr4] at hz
              by_cases hyr : y = r
              · subst hyr; simp [visAt] at hz
              · have e1 : visAt (visL st3) r 2 y = visL st3 y := by simp [visAt, hyr]
                have e2 : visAt (visL st) r 1 y = visL st y := by simp [visAt, hyr]
                rw [e1] at hz
                rw [← e2]
                exact h02 y (h03 y hz)
          clear hz4 hl4 hs4 hyes hno hfb hf3 h13 h33 h03
          go_wp2_with fail
          go_ret
          exact HF.out
    · have ho : v r = D.o := by
        cases d with
        | open_ => exact HV.out.open_ r HD.out.1
        | tree => exact HV.out.sol r .tree HD.out.1
        | arrow a b => exact (harr ⟨a, b, rfl⟩).elim
        | link z => cases HD.out.2
      have gk : (((d.kd : Nat) : Int) != 2) = true := by
        cases d with
        | open_ => rfl
        | tree => rfl
        | arrow a b => exact (harr ⟨a, b, rfl⟩).elim
        | link z => cases HD.out.2
      have HF : Hid (RndPost G v st x (.slice (some ⟨gs, 0, none⟩) st.length cs) w (.returned (.bool false)) w) := by
        refine Lib.hid ⟨false, st, rfl, HZ.out, rfl, Saves.refl _ _, (fun h => by cases h), fun _ => ⟨?_, HMK.out.behind, fun _ => Iff.rfl, HMK.out.three, fun _ h => h⟩⟩
        rw [HX.out v HV.out.sol, ho]
        exact D.fin_o
      rw [h0] at s0
      clear ho harr h0
      go_enter Tryz.func75, Tryz.ntmps75
      go_wp2_with fail
      refine HC.out.mono ?_
      rintro e w1 ⟨rfl, rfl⟩
      go_wp2_with fail
      go_ret
      exact HF.out
  · have HF : Hid (RndPost G v st x (.slice (some ⟨gs, 0, none⟩) st.length cs) w (.returned (.bool true)) w) := by
      refine Lib.hid ⟨true, st, rfl, HZ.out, rfl, Saves.refl _ _, fun _ u hu => ?_, fun h => by cases h⟩
      have h3 := HMK.out.inside r hrl h1 u hu
      rw [HX.out u hu] at h3 ⊢
      exact h3.inf
    rw [h1] at s0
    clear h1
    go_enter Tryz.func75, Tryz.ntmps75
    go_wp2_with fail
    refine HC.out.mono ?_
    rintro e w1 ⟨rfl, rfl⟩
    go_wp2_with fail
    go_ret
    exact HF.out
  · have HF : Hid (RndPost G v st x (.slice (some ⟨gs, 0, none⟩) st.length cs) w (.returned (.bool false)) w) := by
      refine Lib.hid ⟨false, st, rfl, HZ.out, rfl, Saves.refl _ _, (fun h => by cases h), fun _ => ⟨?_, HMK.out.behind, fun _ => Iff.rfl, HMK.out.three, fun _ h => h⟩⟩
      rw [HX.out v HV.out.sol]
      exact HMK.out.behind r hrl h2
    rw [h2] at s0
    clear h2
    go_enter Tryz.func75, Tryz.ntmps75
    go_wp2_with fail
    refine HC.out.mono ?_
    rintro e w1 ⟨rfl, rfl⟩
    go_wp2_with fail
    go_ret
    exact HF.out
theorem round_all (p : Nat) (G : Gr) (v : Nat → D) (gv sv : Value) (hG : Good G) (hv : Can G v) (m : Nat) : RndCall p G v gv sv m := by
  induction m with
  | zero => intro st x xi w hm; omega
  | succ m ih => exact round_step p G v gv sv hG hv m ih
end Go.Proofs.YtkkfdiidneoelaaGreatDoor
