/-
  TermOwn: for every place, every term and all args that can be read as data, no function of term modifies its arguments, and what they return shares no memory with these, and the chapter's example comes out; the arguments read as before.
-/
import Derived.Test.YtmggccgjhjknpaaPOpen
import Derived.Test.YtmggccgjhjknpaaTLawOwn
import Derived.Test.YtmggccgjhjknpaaTOpenL
namespace Go.Proofs.Ytmggccgjhjknpaa
open Go.ChangeShapes Go.WideShapes Go.ChangeAt Go.RowKit Go.Deep
open Go.ChangeMaps (open_string shut_string)

set_option maxRecDepth 100000 in
theorem termOwn_lifted (os : Os) (started : os.Started) (H : Type) (enc : TypeId × Value → H) :
    ReturnsInHanded {} Try.checked os 13 .any (Rows.termOwnSpec.pre6 enc Try.prog Try.f13 Rows.termOwnRow.domain false) (Rows.termOwnSpec.post enc Try.prog Try.f13 false true false false) := by
  refine returnsInHanded_of_change (C := Try.checked) own_ started (by kernel_rfl) Try.func13
    (ChangeSpec.witness6 (enc := enc) (C := Try.checked) false ⟨#[], #[.agg #[.slice none 0 0, .slice none 0 0, .slice none 0 0], .agg #[.int .i64 0, .int .i64 0, .slice none 0 0], .slice none 0 0], []⟩ 8 (by kernel_rfl) (by kernel_rfl) (by kernel_rfl) (by kernel_rfl)) ?_
  intro W base args ds gs before hval0 hW _ _
  have hval : ∀ (j : Nat) t v, Try.f13.params[j]? = some t → args[j]? = some v → Value.okWide Try.prog W .any base t v := hval0
  have hW' := hW
  obtain ⟨p, q, hA0, hV, rfl, _, _⟩ := hW
  have hA : DataW.TrodAll enc Try.prog W 0 (fun _ => true) true Try.f13.params.toList args.toList ds p := hA0
  have hAk := hA
  rw [Try.params13] at hA hval
  obtain ⟨v0, v1, v2, d0, d1, d2, p0, p1, p2, rfl, rfl, rfl, h0, h1, h2⟩ := trodAll_three hA
  obtain ⟨rfl, rfl⟩ := trodVars_none hV
  obtain ⟨cs0, hcs0, _⟩ := okWide_struct Try.underlying25 (hval 0 25 v0 rfl rfl)
  obtain ⟨s0, a0, b0, c0, rfl, hin0⟩ := open_place ⟨cs0, hcs0⟩ h0
  obtain ⟨cs1, hcs1, _⟩ := okWide_struct Try.underlying35 (hval 1 35 v1 rfl rfl)
  obtain ⟨s1, u1, rfl, hin1⟩ := open_term ⟨cs1, hcs1⟩ h1
  obtain ⟨s2, hin2⟩ := open_terms (okWide_slice Try.underlying33 (hval 2 33 v2 rfl rfl)) h2
  clear hA0 hval0
  simp only [List.append_nil] at hW' hAk
  refine (lawOwnT_any s0 a0 b0 c0 s1 u1 s2 v2 W _ _ _ (term_wf h1 hin1) hin0 (Nat.le_refl _) hin1 (fun _ h => h) hin2 (fun _ h => h)).mono fun e W' ⟨he, hb⟩ => ?_
  subst he
  exact ⟨_, rfl, law_post rfl (by kernel_rfl) rfl (by rw [Try.params13]; decide +kernel) hW' hAk hb⟩

theorem termOwn_holds : Rows.TermOwnSaid :=
  OpenClaim.holds_of_wide 13 Try.f13 rfl rfl rfl rfl rfl rfl rfl ⟨rfl, rfl, rfl, rfl, rfl⟩ rfl rfl rfl rfl rfl (by kernel_rfl) Try.func13 (by kernel_rfl)
    (of_decide_eq_true (by kernel_rfl)) (by unfold Func.isWrapper; rw [if_neg (of_decide_eq_false (by kernel_rfl))]; exact ⟨rfl, rfl⟩)
    (fun os started H enc _ => termOwn_lifted os started H enc)
end Go.Proofs.Ytmggccgjhjknpaa
