/-
  (*guess).endless: a contract.
-/
import Derived.Test.YtkkfdiidneoelaaDoorIArgs
namespace Go.Proofs.YtkkfdiidneoelaaDoor
open Go.RowKit

/-- A search's marks: what is behind ends, what is inside has x's tree as a part. -/
structure Marks (G : Gr) (v : Nat → D) (vis : Nat → Int) (x : Nat) : Prop where
  behind : ∀ y : Nat, y < G.length → vis y = 2 → (v y).fin
  inside : ∀ y : Nat, y < G.length → vis y = 1 → ∀ u, Sol G u → D.Part (u x) (u y)
  three : ∀ y : Nat, y < G.length → vis y = 0 ∨ vis y = 1 ∨ vis y = 2
/-- The nodes that are ahead. -/
def aheads (G : Gr) (vis : Nat → Int) : Nat := (List.range G.length).countP fun y => decide (vis y = 0)
theorem countP_lt {p q : Nat → Bool} {l : List Nat} {x : Nat} (hx : x ∈ l) (hpq : ∀ y ∈ l, q y = true → p y = true) (h1 : p x = true) (h2 : q x = false) : l.countP q < l.countP p := by
  induction l with
  | nil => simp at hx
  | cons a r ih =>
    have hle : r.countP q ≤ r.countP p := by
      clear ih hx
      induction r with
      | nil => simp
      | cons b s ihs =>
        have := ihs (fun y hy => hpq y (by simp at hy ⊢; rcases hy with h | h <;> simp [h]))
        have hb := hpq b (by simp)
        simp only [List.countP_cons]
        cases hqb : q b with
        | false => simp; omega
        | true => rw [hb hqb]; simp; omega
    simp only [List.countP_cons]
    rcases List.mem_cons.1 hx with rfl | hx
    · rw [h1, h2]; simp; omega
    · have := ih hx (fun y hy => hpq y (by simp [hy]))
      have ha := hpq a (by simp)
      cases hqa : q a with
      | false => simp; omega
      | true => rw [ha hqa]; simp; omega
theorem aheads_lt {G : Gr} {vis : Nat → Int} {x : Nat} (hx : x < G.length) (h : vis x = 0) {z : Int} (hz : z ≠ 0) : aheads G (visAt vis x z) < aheads G vis := by
  refine countP_lt (x := x) (by simpa using hx) (fun y _ hy => ?_) (by simpa using h) (by simp [visAt, hz])
  by_cases hyx : y = x
  · subst hyx
    simp [visAt] at hy
    exact absurd hy hz
  · simpa [visAt, hyx] using hy
theorem aheads_le {G : Gr} {vis vis' : Nat → Int} (h : ∀ y, vis' y = 0 → vis y = 0) : aheads G vis' ≤ aheads G vis := by
  unfold aheads
  refine List.countP_mono_left fun y _ hy => ?_
  simp only [decide_eq_true_eq] at hy ⊢
  exact h y hy
/-- What endless answers. -/
def EndPost (ps : List Nat) (G : Gr) (v : Nat → D) (vis : Nat → Int) (x : Nat) (w : World) (e : Ending) (w' : World) : Prop :=
  ∃ (ok : Bool) (G' : Gr) (vis' : Nat → Int), e = .returned (.bool ok) ∧ Alike G G' ∧ Gs w' ps G' vis' ∧ Saves (· ∈ ps) w w' ∧
    (ok = true → ∀ u, Sol G u → ¬ (u x).fin) ∧
    (ok = false → (v x).fin ∧ (∀ y, y < G.length → vis' y = 2 → (v y).fin) ∧ (∀ y, vis' y = 1 ↔ vis y = 1) ∧ (∀ y, y < G.length → vis' y = 0 ∨ vis' y = 1 ∨ vis' y = 2) ∧ ∀ y, vis' y = 0 → vis y = 0)
theorem aheads_len {G G' : Gr} (h : G'.length = G.length) (vis : Nat → Int) : aheads G' vis = aheads G vis := by unfold aheads; rw [h]
theorem Marks.alike {G G' : Gr} {v : Nat → D} {vis : Nat → Int} {x : Nat} (h : Marks G v vis x) (ha : Alike G G') : Marks G' v vis x := by
  have hl := ha.len
  exact ⟨fun y hy => h.behind y (by omega), fun y hy h1 u hu => h.inside y (by omega) h1 u ((ha.sol u).1 hu), fun y hy => h.three y (by omega)⟩
/-- The marks for a part of a node that is inside. -/
theorem Marks.part {G : Gr} {v : Nat → D} {vis vis1 vis2 : Nat → Int} {x r a : Nat} (h : Marks G v vis x) (hx : ∀ u, Sol G u → u x = u r) (hp : ∀ u, Sol G u → D.Part (u a) (u r))
    (h1 : ∀ y, vis2 y = 1 ↔ vis1 y = 1) (h2 : ∀ y, y < G.length → vis2 y = 2 → (v y).fin) (h3 : ∀ y, y < G.length → vis2 y = 0 ∨ vis2 y = 1 ∨ vis2 y = 2) (he : vis1 = visAt vis r 1) : Marks G v vis2 a := by
  refine ⟨h2, fun y hy hz u hu => ?_, h3⟩
  have hz1 := (h1 y).1 hz
  subst he
  by_cases hyr : y = r
  · subst hyr; exact hp u hu
  · have : vis y = 1 := by simpa [visAt, hyr] using hz1
    have h4 := h.inside y hy this u hu
    rw [hx u hu] at h4
    exact (hp u hu).trans h4

/-- A call of endless, with so many nodes ahead. -/
def EndCall (m : Nat) : Prop := ∀ (ps : List Nat) (G : Gr) (v : Nat → D) (vis : Nat → Int) (x p : Nat) (w : World), aheads G vis < m → Good G → Can G v → Gs w ps G vis → ps[x]? = some p → Marks G v vis x →
    Calls Tryd.prog 63 #[pv p] w (EndPost ps G v vis x w)
set_option maxRecDepth 100000 in
set_option maxHeartbeats 1600000 in
theorem endless_step (m : Nat) (ih : EndCall m) : EndCall (m + 1) := by
  intro ps G v vis x p w hm hG hv hgs hx hmk
  have hxl : x < G.length := by have := hgs.len; have := (List.getElem?_eq_some_iff.1 hx).1; omega
  obtain ⟨r, k, he⟩ := hG.ends x hxl
  have HC := Lib.hid (last_any ps G vis x p r k w hG hgs hx he)
  have HE := Lib.hid he
  have HV := Lib.hid hv
  have HM := Lib.hid hm
  have HMK := Lib.hid hmk
  have HIH := Lib.hid ih
  have HX : Hid (∀ u, Sol G u → u x = u r) := Lib.hid fun u hu => hu.ends he
  clear hm hG hv hgs hx hmk he ih
  go_enter Tryd.func63, Tryd.ntmps63
  go_wp2_with fail
  refine HC.out.mono ?_
  rintro e w1 ⟨G1, p1, hp1, rfl, ha1, hg1, ht1⟩
  obtain ⟨d, hd0, hdr⟩ := HE.out.at_
  have hd := ha1.stays r d hd0 hdr
  have hrl : r < G.length := HE.out.lt.2
  obtain ⟨sm, kd, fr, to_, hb, hl⟩ := hg1.at_ _ _ _ hp1 hd
  have c1 := hb.cell 1
  have c2 := hb.cell 2
  have c4 := hb.cell 4
  have f4 := hb.frozen 4
  simp only [gcells, List.getElem?_toArray, List.getElem?_cons_zero, List.getElem?_cons_succ] at c1 c2 c4
  have HP1 := Lib.hid hp1
  have HA1 := Lib.hid ha1
  have HG1 := Lib.hid hg1
  have HT1 := Lib.hid ht1
  have HD0 := Lib.hid hd0
  clear hp1 ha1 hg1 ht1 hd0 hd
  by_cases harr : ∃ a b, d = .arrow a b
  · obtain ⟨a, b, rfl⟩ := harr
    obtain ⟨rfl, rfl, ⟨pa, hpa, rfl⟩, pb, hpb, rfl⟩ := hl
    have HS : Hid (∀ u, Sol G u → u r = D.arr (u a) (u b)) := Lib.hid fun u hu => hu r (.arrow a b) HD0.out
    rcases HMK.out.three r hrl with h0 | h1 | h2
    · have hvis1 : aheads G1 (visAt vis r 1) < m := by
        rw [aheads_len HA1.out.len]
        have := aheads_lt hrl h0 (z := 1) (by decide)
        have := HM.out
        omega
      have hg2 := HG1.out.mark HP1.out 1
      have hal : a < G.length := by have := HG1.out.len; have := (List.getElem?_eq_some_iff.1 hpa).1; have := HA1.out.len; omega
      have hM1 : Marks G v (visAt vis r 1) a := HMK.out.part (vis := vis) (r := r) HX.out (fun u hu => by rw [HS.out u hu]; exact .left _ _) (fun _ => Iff.rfl)
        (fun y hy hz => by
          by_cases hyr : y = r
          · subst hyr; simp [visAt] at hz
          · exact HMK.out.behind y hy (by simpa [visAt, hyr] using hz))
        (fun y hy => by
          by_cases hyr : y = r
          · subst hyr; simp [visAt]
          · simpa [visAt, hyr] using HMK.out.three y hy) rfl
      have hca := HIH.out ps G1 v (visAt vis r 1) a pa _ hvis1 HA1.out.good (HV.out.alike HA1.out) hg2 hpa (hM1.alike HA1.out)
      have HCA := Lib.hid hca
      have HPA := Lib.hid hpa
      have HPB := Lib.hid hpb
      have HPM : Hid (p1 ∈ ps) := Lib.hid (List.mem_of_getElem? HP1.out)
      have H0 := Lib.hid h0
      have HVL := Lib.hid hvis1
      rw [h0] at c4
      clear hpa hpb h0 hvis1 hg2 hal hM1 hca
      go_wp2_with fail
      refine HCA.out.mono ?_
      rintro e w3 ⟨ok, G3, vis2, rfl, ha3, hg3, hs3, hyes, hno⟩
      cases ok with
      | true =>
        have HF : Hid (EndPost ps G v vis x w (.returned (.bool true)) w3) := by
          refine Lib.hid ⟨true, G3, vis2, rfl, HA1.out.trans ha3, hg3, (HT1.out.sav.setCell (.inl HPM.out) _).trans hs3, fun _ u hu => ?_, fun h => by cases h⟩
          rw [HX.out u hu, HS.out u hu]
          exact fun h => hyes rfl u ((HA1.out.sol u).2 hu) (D.fin_parts h).1
        clear ha3 hg3 hs3 hyes hno
        go_wp2_with fail
        go_ret
        exact HF.out
      | false =>
        obtain ⟨hfa, hf2, h12, h3, h02⟩ := hno rfl
        have hlen := HA1.out.len
        have hlen3 := ha3.len
        have hd3 := ha3.stays r _ (HA1.out.stays r _ HD0.out rfl) rfl
        obtain ⟨sm3, kd3, fr3, to3, hb3, hl3⟩ := hg3.at_ _ _ _ HP1.out hd3
        obtain ⟨rfl, rfl, ⟨pa', hpa', rfl⟩, pb', hpb', rfl⟩ := hl3
        obtain rfl : pb = pb' := by have := HPB.out.symm.trans hpb'; injection this
        have c33 := hb3.cell 3
        simp only [gcells, List.getElem?_toArray, List.getElem?_cons_zero, List.getElem?_cons_succ] at c33
        have hM2 : Marks G v vis2 b := HMK.out.part (vis := vis) (r := r) HX.out (fun u hu => by rw [HS.out u hu]; exact .right _ _) h12 (fun y hy => hf2 y (by omega)) (fun y hy => h3 y (by omega)) rfl
        have hv2 : aheads G3 vis2 < m := by
          rw [aheads_len hlen3]
          have := aheads_le (G := G1) h02
          have := HVL.out
          omega
        have hcb := HIH.out ps G3 v vis2 b pb w3 hv2 ha3.good ((HV.out.alike HA1.out).alike ha3) hg3 hpb' (hM2.alike (HA1.out.trans ha3))
        have HCB := Lib.hid hcb
        have HA3 := Lib.hid (HA1.out.trans ha3)
        have HS3 := Lib.hid ((HT1.out.sav.setCell (p := ⟨p1, 4, none⟩) (.inl HPM.out) (.int .i64 1)).trans hs3)
        have H2 : Hid ((v a).fin ∧ (∀ y, vis2 y = 1 ↔ visAt vis r 1 y = 1) ∧ (∀ y, vis2 y = 0 → visAt vis r 1 y = 0)) := Lib.hid ⟨hfa, h12, h02⟩
        clear hcb hv2 hM2 hfa hf2 h12 h3 h02 hyes hno ha3 hg3 hs3 hd3 hb3 hpa' hpb' c1 c2 c4 f4
        go_wp2_with fail
        refine HCB.out.mono ?_
        rintro e w4 ⟨ok2, G4, vis3, rfl, ha4, hg4, hs4, hyes, hno⟩
        cases ok2 with
        | true =>
          have HF : Hid (EndPost ps G v vis x w (.returned (.bool true)) w4) := by
            refine Lib.hid ⟨true, G4, vis3, rfl, HA3.out.trans ha4, hg4, HS3.out.trans hs4, fun _ u hu => ?_, fun h => by cases h⟩
            rw [HX.out u hu, HS.out u hu]
            exact fun h => hyes rfl u ((HA3.out.sol u).2 hu) (D.fin_parts h).2
          clear ha4 hg4 hs4 hyes hno
          go_wp2_with fail
          go_ret
          exact HF.out
        | false =>
          obtain ⟨hfb, hf3, h13, h33, h03⟩ := hno rfl
          have hd4 := ha4.stays r _ (HA3.out.stays r _ HD0.out rfl) rfl
          obtain ⟨sm4, kd4, fr4, to4, hb4, _⟩ := hg4.at_ _ _ _ HP1.out hd4
          have c44 := hb4.cell 4
          have f44 := hb4.frozen 4
          simp only [gcells, List.getElem?_toArray, List.getElem?_cons_zero, List.getElem?_cons_succ] at c44
          have HF : Hid (EndPost ps G v vis x w (.returned (.bool false)) (w4.setCell ⟨p1, 4, none⟩ (.int .i64 2))) := by
            obtain ⟨hfa, h12, h02⟩ := H2.out
            have hl4 := (HA3.out.trans ha4).len
            have hrv : (v r).fin := by rw [HS.out v HV.out.sol]; exact D.fin_arr hfa hfb
            refine Lib.hid ⟨false, G4, visAt vis3 r 2, rfl, HA3.out.trans ha4, hg4.mark HP1.out 2, (HS3.out.trans hs4).setCell (.inl HPM.out) _, (fun h => by cases h), fun _ => ⟨?_, fun y hy hz => ?_, fun y => ?_, fun y hy => ?_, fun y hz => ?_⟩⟩
            · rw [HX.out v HV.out.sol]; exact hrv
            · by_cases hyr : y = r
              · subst hyr; exact hrv
              · exact hf3 y (by have := HA3.out.len; omega) (by simpa [visAt, hyr] using hz)
            · by_cases hyr : y = r
              · subst hyr; simp [visAt, H0.out]
              · have e1 : visAt vis3 r 2 y = vis3 y := by simp [visAt, hyr]
                have e2 : visAt vis r 1 y = vis y := by simp [visAt, hyr]
                rw [e1, h13 y, h12 y, e2]
            · by_cases hyr : y = r
              · subst hyr; simp [visAt]
              · simpa [visAt, hyr] using h33 y (by have := HA3.out.len; omega)
            · by_cases hyr : y = r
              · subst hyr; simp [visAt] at hz
              · have e1 : visAt vis3 r 2 y = vis3 y := by simp [visAt, hyr]
                have e2 : visAt vis r 1 y = vis y := by simp [visAt, hyr]
                rw [e1] at hz
                rw [← e2]
                exact h02 y (h03 y hz)
          clear ha4 hg4 hs4 hyes hno hfb hf3 h13 h33 h03 hd4 hb4
          go_wp2_with fail
          go_ret
          exact HF.out
    · have HF : Hid (EndPost ps G v vis x w (.returned (.bool true)) w1) := by
        refine Lib.hid ⟨true, G1, vis, rfl, HA1.out, HG1.out, HT1.out.sav, fun _ u hu => ?_, fun h => by cases h⟩
        have h3 := HMK.out.inside r hrl h1 u hu
        rw [HX.out u hu] at h3 ⊢
        exact h3.inf
      rw [h1] at c4
      clear hpa hpb hb h1
      go_wp2_with fail
      go_ret
      exact HF.out
    · have HF : Hid (EndPost ps G v vis x w (.returned (.bool false)) w1) := by
        refine Lib.hid ⟨false, G1, vis, rfl, HA1.out, HG1.out, HT1.out.sav, (fun h => by cases h), fun _ => ⟨?_, HMK.out.behind, fun _ => Iff.rfl, HMK.out.three, fun _ h => h⟩⟩
        rw [HX.out v HV.out.sol]
        exact HMK.out.behind r hrl h2
      rw [h2] at c4
      clear hpa hpb hb h2
      go_wp2_with fail
      go_ret
      exact HF.out
  · have hk : ¬ kd = 2 ∧ v r = D.o := by
      cases d with
      | open_ => exact ⟨by rw [hl.2]; decide, HV.out.open_ r HD0.out⟩
      | tree => exact ⟨by rw [hl.2]; decide, HV.out.sol r .tree HD0.out⟩
      | arrow a b => exact (harr ⟨a, b, rfl⟩).elim
      | link z => cases hdr
    obtain ⟨hk, ho⟩ := hk
    have HF : Hid (EndPost ps G v vis x w (.returned (.bool false)) w1) := by
      refine Lib.hid ⟨false, G1, vis, rfl, HA1.out, HG1.out, HT1.out.sav, (fun h => by cases h), fun _ => ⟨?_, HMK.out.behind, fun _ => Iff.rfl, HMK.out.three, fun _ h => h⟩⟩
      rw [HX.out v HV.out.sol, ho]
      exact D.fin_o
    clear ho harr hdr hl hb
    go_wp2_with fail
    go_ret
    exact HF.out
theorem endless_all (m : Nat) : EndCall m := by
  induction m with
  | zero => intro ps G v vis x p w hm; omega
  | succ m ih => exact endless_step m ih
end Go.Proofs.YtkkfdiidneoelaaDoor
