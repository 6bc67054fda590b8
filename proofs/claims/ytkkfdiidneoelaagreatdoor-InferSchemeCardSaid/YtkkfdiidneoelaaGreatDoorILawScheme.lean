/-
  InferScheme: for every list of symbols and of loose functions that can be read, Scheme answers as the reference does, and the examples come out.
-/
import Derived.Test.YtkkfdiidneoelaaGreatDoorGY
import Derived.Test.YtkkfdiidneoelaaGreatDoorIRScm
import Derived.Test.YtkkfdiidneoelaaGreatDoorSRefEq
namespace Go.Proofs.YtkkfdiidneoelaaGreatDoor
open Go.RowKit

theorem scIn_ownZ {w : World} {B : Nat} {P : Nat → Prop} {sy : List Sy} {fs : List Fn} {s0 s1 : Value} {us : List Value} (h0 : w.ownsRow B 65 2 s0 sy.length (syCells sy)) (h1 : w.ownsRow B 55 5 s1 fs.length us) (hm : FnMk w P fs us)
    (hP : ∀ b, P b → b < w.heap.size) (hn : ∀ x ∈ sy, x.name.size ≤ maxLen) : ScIn w w.heap.size ⟨sy, fs⟩ s0 s1 := by
  have l0 := h0.lt
  have l1 := h1.lt
  refine ⟨?_, ?_⟩
  · rcases h0.2 with ⟨rfl, hz⟩ | ⟨g, cap, cur, rfl, g1, g2, g3, g4, g5, g6⟩
    · have : sy = [] := List.eq_nil_of_length_eq_zero hz
      subst this
      exact ⟨none, 0, 0, rfl, rfl, Nat.le_refl _, by omega, .inl rfl, by simp⟩
    · exact ⟨_, _, _, rfl, rfl, g3, by simpa [maxLen] using g4, .inr ⟨_, rfl, (l0 g rfl).2, h0.cells (g := g) rfl⟩, hn⟩
  · have hr := hm.row hP fs
    rcases h1.2 with ⟨rfl, hz⟩ | ⟨g, cap, cur, rfl, g1, g2, g3, g4, g5, g6⟩
    · have : fs = [] := List.eq_nil_of_length_eq_zero hz
      subst this
      exact ⟨none, 0, 0, us, rfl, rfl, Nat.le_refl _, by omega, .inl (by simpa [FnRow] using hr), hr⟩
    · exact ⟨_, _, _, us, rfl, rfl, g3, by simpa [maxLen] using g4, .inr ⟨_, rfl, (l1 g rfl).2, h1.cells (g := g) rfl⟩, hr⟩
set_option maxHeartbeats 3200000 in
set_option maxRecDepth 100000 in
theorem lawSchemeI_any (syms : List Sy) (l : List Lz) (v0 v1 : Value) (w : World) (hi : Nat) (hsy : SyIn w (fun b => b < hi) syms v0) (hl : LzIn w hi l v1) (hhi : hi ≤ w.heap.size) (hfit : ∀ f ∈ l, f.body.fit ∧ fit64 f.params) :
    Calls Tryz.prog 4 #[v0, v1] w fun e w' => e = .returned (.bool true) ∧ Below w.heap.size w w' := by
  have HA := Lib.hid aliveI_any
  have HSY := Lib.hid hsy
  have HLZ := Lib.hid hl
  have HFIT := Lib.hid hfit
  have HNM : Hid (∀ x ∈ syms, x.name.size ≤ maxLen) := Lib.hid (by obtain ⟨_, _, _, _, _, _, _, _, h⟩ := hsy; exact h)
  obtain ⟨A0, n0, c0, rfl⟩ := hsy.form
  obtain ⟨A1, _, c1, us, rfl, rfl, _⟩ := hl
  by_cases h : l.length ≤ 1000
  case neg =>
    have g : (1000 : Int) < (l.length : Int) := by omega
    clear h hsy hfit
    go_enter Tryz.func4, Tryz.ntmps4
    go_wp2_with fail
    refine (HA.out _).mono ?_
    rintro e w1 ⟨rfl, hb1⟩
    have B1 := Lib.hid hb1
    clear hb1
    go_wp2_with fail
    go_ret
    exact ⟨rfl, B1.out⟩
  have HG := Lib.hid (given_any l _ w hi HLZ.out hhi (by omega))
  have g : ¬ (1000 : Int) < (l.length : Int) := by omega
  clear h hsy hfit
  go_enter Tryz.func4, Tryz.ntmps4
  go_wp2_with fail
  refine HG.out.mono ?_
  rintro e w1 ⟨v', rfl, hl1, hb1⟩
  obtain ⟨A', n', c', rfl⟩ := hl1.form
  have hz1 := hb1.size
  have B1 := Lib.hid hb1
  have HSC := Lib.hid (schemeI_any syms l _ _ w1 w1.heap.size ((HSY.out.below hb1 hhi).more (by omega)) hl1 (Nat.le_refl _) HFIT.out)
  clear hl1 hb1
  go_wp2_with fail
  refine HSC.out.mono ?_
  rintro e w2 ⟨E, lst, s0, s1, ua, rfl, han, hb2, hne2, heq2⟩
  have hz2 := hb2.size
  have B2 := Lib.hid (B1.out.trans (hb2.mono hz1))
  have hw2 : Below w2.heap.size w2 (w2.alloc (.cells #[s0, s1] 25)) := (Below.refl _ _).alloc (Nat.le_refl _) _
  have hz2' : (w2.alloc (.cells #[s0, s1] 25)).heap.size = w2.heap.size + 1 := by simp
  have B2' := Lib.hid (B2.out.trans (hw2.mono (by omega)))
  have hbx := Blk.new w2 25 #[s0, s1]
  have HRS := Lib.hid (refScheme_any syms l _ _ _ hi (HSY.out.below B2'.out hhi) (HLZ.out.below B2'.out hhi) (by omega))
  have HZ2 := Lib.hid hz2'
  by_cases hE : E = 0
  · subst hE
    obtain ⟨ho0, ho1, hmk⟩ := heq2 rfl
    obtain ⟨hlen, _, _, _, hck, hsol, hall⟩ := han.zero
    have hin2 := scIn_ownZ ho0 ho1 hmk (fun b hb => hb.2.1) HNM.out
    have hsay := valid_say hck hsol hall
    obtain ⟨⟨As, ns, cs, rfl⟩, ⟨At, nt, ct, rfl⟩⟩ := hin2.form
    have HIN := Lib.hid (hin2.below hw2 (Nat.le_refl _))
    have HAN := Lib.hid han
    have HSAY := Lib.hid hsay
    have HBX := Lib.hid hbx
    clear han hb2 hne2 heq2 hw2 hz2' hbx ho0 ho1 hmk hlen hck hsol hall hin2 hsay
    go_wp2_with fail
    refine HRS.out.mono ?_
    rintro e w3 ⟨F, lst2, t0, t1, ub, rfl, han2, hb3, _, heq3⟩
    obtain ⟨rfl, rfl⟩ := HAN.out.one han2
    obtain ⟨ho0, ho1, hmk⟩ := heq3 rfl
    have hin3 := scIn_ownZ ho0 ho1 hmk (fun b hb => hb.2.1) HNM.out
    obtain ⟨⟨Au, nu, cu, rfl⟩, ⟨Av, nv, cv, rfl⟩⟩ := hin3.form
    have hz3 : w2.heap.size + 1 ≤ w3.heap.size := by have := hb3.size; rw [HZ2.out] at this; exact this
    have B3 := Lib.hid (B2'.out.trans (hb3.mono B2'.out.size))
    have hw3 : Below w3.heap.size w3 (w3.alloc (.cells #[.slice Au nu cu, .slice Av nv cv] 25)) := (Below.refl _ _).alloc (Nat.le_refl _) _
    have B3' := Lib.hid (B3.out.trans (hw3.mono B3.out.size))
    have hx2 := (HBX.out.below hb3 HBX.out.lt).below hw3 (by omega)
    have hx3 := Blk.new w3 25 #[.slice Au nu cu, .slice Av nv cv]
    have HSM := Lib.hid (refScSame_any _ _ _ _ _ _ (w3.alloc (.cells #[.slice Au nu cu, .slice Av nv cv] 25)) w3.heap.size (((HIN.out.below hb3 (by have := HZ2.out; omega)).more (by omega)).below hw3 (Nat.le_refl _)) (hin3.below hw3 (Nat.le_refl _)) hw3.size)
    have hsm : (Sc.mk syms (fnsOf l lst)).same (Sc.mk syms (fnsOf l lst)) = true := by
      have hok : (Sc.mk syms (fnsOf l lst)).ok = true := by rw [← sayOk_ok]; exact HSAY.out
      simp only [Sc.same, hok, Sc.eqb_same, Bool.and_self]
    rw [hsm] at HSM
    have p0 := hx2.cell 0
    have p1 := hx2.cell 1
    simp at p0 p1
    clear han2 hb3 heq3 ho0 ho1 hmk hin3 hw3 hx2 hx3 hsm
    go_wp2_with fail
    refine HSM.out.mono ?_
    rintro e w4 ⟨rfl, hb4⟩
    have B4 := Lib.hid (B3'.out.trans (hb4.mono B3'.out.size))
    clear hb4
    go_wp2_with fail
    refine (HA.out _).mono ?_
    rintro e w5 ⟨rfl, hb5⟩
    have B5 := Lib.hid (B4.out.trans (hb5.mono B4.out.size))
    clear hb5
    go_wp2_with fail
    go_ret
    exact ⟨rfl, B5.out⟩
  · obtain ⟨rfl, rfl⟩ := hne2 hE
    have HAN := Lib.hid han
    have HE := Lib.hid hE
    have HBX := Lib.hid hbx
    have gE : ((E : Int) == 0) = false := by simpa using hE
    have gE2 : ((E : Int) != 0) = true := by simpa using hE
    clear han hb2 hne2 heq2 hw2 hz2' hbx hE
    go_wp2_with fail
    refine HRS.out.mono ?_
    rintro e w3 ⟨F, lst2, t0, t1, ub, rfl, han2, hb3, hne3, _⟩
    obtain ⟨rfl, rfl⟩ := HAN.out.one han2
    obtain ⟨rfl, rfl⟩ := hne3 HE.out
    have hz3 : w2.heap.size + 1 ≤ w3.heap.size := by have := hb3.size; rw [HZ2.out] at this; exact this
    have hw3 : Below w3.heap.size w3 (w3.alloc (.cells #[.slice none 0 0, .slice none 0 0] 25)) := (Below.refl _ _).alloc (Nat.le_refl _) _
    have B3' := Lib.hid ((B2'.out.trans (hb3.mono B2'.out.size)).trans (hw3.mono (Nat.le_trans B2'.out.size hb3.size)))
    have hx2 := (HBX.out.below hb3 HBX.out.lt).below hw3 (by omega)
    have p0 := hx2.cell 0
    have p1 := hx2.cell 1
    simp at p0 p1
    clear han2 hb3 hne3 hw3 hx2
    go_wp2_with fail
    refine (HA.out _).mono ?_
    rintro e w5 ⟨rfl, hb5⟩
    have B5 := Lib.hid (B3'.out.trans (hb5.mono B3'.out.size))
    clear hb5
    go_wp2_with fail
    go_ret
    exact ⟨rfl, B5.out⟩
end Go.Proofs.YtkkfdiidneoelaaGreatDoor
