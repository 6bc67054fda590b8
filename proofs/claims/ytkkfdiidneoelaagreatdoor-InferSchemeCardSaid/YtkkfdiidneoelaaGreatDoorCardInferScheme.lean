/-
  InferScheme: for every list of symbols and of functions without sorts that can be read as data, infer.Scheme answers as the reference does: the scheme with the sorts of the smallest assignment, or the error, and the chapter's examples come out; the arguments read as before. Condition: the listed package variables of Go's library hold what the library's text lays (tied to the program's text by the card).
-/
import Derived.Test.YtkkfdiidneoelaaGreatDoorGF
import Derived.Test.YtkkfdiidneoelaaGreatDoorCards
import Derived.Test.YtkkfdiidneoelaaGreatDoorILawScheme
namespace Go.Proofs.YtkkfdiidneoelaaGreatDoor
open Go.ChangeShapes Go.WideShapes Go.ChangeAt Go.RowKit Go.Deep
open Go.ChangeMaps (open_string shut_string)

set_option maxRecDepth 100000 in
theorem inferScheme_lifted (os : Os) (started : os.Started) (H : Type) (enc : TypeId × Value → H) :
    ReturnsInHanded {} Tryz.checked os 4 .any (fun w args => (Rows.inferSchemeSpec.pre enc Tryz.prog Tryz.f4 Rows.inferSchemeRow.domain false w args ∧ laidMetH Tryz.prog laidI w) ∧ sizedMet enc Tryz.prog Tryz.f4 (OpenSpec.ofChange Rows.inferSchemeSpec) false w args)
      (Rows.inferSchemeSpec.post enc Tryz.prog Tryz.f4 false true false false) := by
  refine returns_laid (C := Tryz.checked) (X := fun w => laidMetH Tryz.prog laidI w) (fun _ _ hh h => h.of_heap hh) own_ started (by kernel_rfl) Tryz.func4
    (ChangeSpec.witness_shaped (enc := enc) (C := Tryz.checked) (os := os) (X := fun w _ => laidMetH Tryz.prog laidI w) false (World.laidAll Tryz.prog os laidI) #[.slice none 0 0, .slice none 0 0] 8 (World.laidAll_os _ _ _)
      (World.shaped_of_ZipB (by kernel_rfl) (by kernel_rfl)) (by kernel_rfl) (by kernel_rfl) (by kernel_rfl) (laid_wit os _)) ?_
  intro W base args ds gs before hval0 hW _ hL hsh
  have hval : ∀ (j : Nat) t v, Tryz.f4.params[j]? = some t → args[j]? = some v → Value.okWide Tryz.prog W .any base t v := hval0
  have hW' := hW
  obtain ⟨p, q, hA0, hV, rfl, _, _⟩ := hW
  have hA : DataW.TrodAll enc Tryz.prog W 0 (fun _ => true) true Tryz.f4.params.toList args.toList ds p := hA0
  have hAk := hA
  rw [Tryz.params4] at hA hval
  obtain ⟨v0, v1, d0, d1, p0, p1, rfl, rfl, rfl, h0, h1⟩ := trodAll_two hA
  obtain ⟨rfl, rfl⟩ := trodVars_none hV
  obtain ⟨A0, n0, c0, e0⟩ := okWide_slice Tryz.underlying22 (hval 0 22 v0 rfl rfl)
  obtain ⟨syms, hin0⟩ := open_syms ⟨A0, n0, c0, e0⟩ h0
  obtain ⟨A1, n1, c1, e1⟩ := okWide_slice Tryz.underlying32 (hval 1 32 v1 rfl rfl)
  obtain ⟨l, hin1, hfit⟩ := open_looses ⟨A1, n1, c1, e1⟩ h1
  clear hA0 hval0
  simp only [List.append_nil] at hW' hAk
  refine (lawSchemeI_any syms l v0 v1 W _ hin0 hin1 (Nat.le_refl _) hfit).mono fun e W' ⟨he, hb⟩ => ?_
  subst he
  exact ⟨_, rfl, law_post rfl (by kernel_rfl) rfl (by rw [Tryz.params4]; decide +kernel) hW' hAk hb⟩

set_option maxHeartbeats 6400000 in
set_option maxRecDepth 100000 in
theorem inferScheme_closed : joinedFacts Tryz.pinned.checked.prog 4 Tryz.f4 Rows.inferSchemeSpec Rows.inferSchemeRow = true := by
  unfold joinedFacts
  repeat' (with_reducible refine and2 ?_ ?_)
  all_goals (as_aux_lemma => kernel_rfl)
theorem inferScheme_row : Rows.InferSchemeSaid :=
  OpenClaim.holds_of_wide 4 Tryz.f4 rfl rfl rfl rfl rfl rfl rfl ⟨rfl, rfl, rfl, rfl, rfl⟩ rfl rfl rfl rfl rfl (by as_aux_lemma => kernel_rfl) Tryz.func4 inferScheme_closed
    (of_decide_eq_true (by kernel_rfl)) (by unfold Func.isWrapper; rw [if_neg (of_decide_eq_false (by kernel_rfl))]; exact ⟨rfl, rfl⟩)
    (fun os started H enc _ => inferScheme_lifted os started H enc)
theorem inferScheme_holds : Rows.InferSchemeCardSaid :=
  Claim7.holds_tied_plain_at .later [] _ true _ true inferScheme_row (fun _ h => by cases h) (by as_aux_lemma => kernel_rfl) (fun _ h => by cases h) inferScheme_row_tie rfl ⟨rfl, rfl⟩ (by as_aux_lemma => kernel_rfl) rfl
    (fun f fn hf hfn => by
      obtain rfl : f = 4 := Option.some.inj ((show Tryz.prog.funcNamed "virgation/virgationlaw04.InferScheme" = some 4 by kernel_rfl).symm.trans hf) |>.symm
      obtain rfl : fn = Tryz.f4 := (Option.some.inj (Tryz.func4.symm.trans hfn)).symm
      exact ⟨by as_aux_lemma => kernel_rfl, fun j t ht => by
        rw [Tryz.params4] at ht
        have hm : t ∈ [22, 32] := by simpa using Array.mem_of_getElem? ht
        have hall : ([22, 32].all fun u => !Tryz.prog.wantsStandIn u) = true := by kernel_rfl
        exact (show Tryz.prog.wantsStandIn t = false by simpa using List.all_eq_true.1 hall t hm)⟩)
    (by as_aux_lemma => kernel_rfl)
end Go.Proofs.YtkkfdiidneoelaaGreatDoor
