/-
  TermTwice: for every term and all args that can be read as data, one substitution after another one is that of P2.6, and the chapter's example comes out; the arguments read as before.
-/
import Derived.Test.YtmggccgjhjknpaaTOpen
import Derived.Test.YtmggccgjhjknpaaTLawTwice
import Derived.Test.YtmggccgjhjknpaaTOpenN
namespace Go.Proofs.Ytmggccgjhjknpaa
open Go.ChangeShapes Go.WideShapes Go.ChangeAt Go.RowKit Go.Deep
open Go.ChangeMaps (open_string shut_string)

set_option maxRecDepth 100000 in
theorem termTwice_lifted (os : Os) (started : os.Started) (H : Type) (enc : TypeId × Value → H) :
    ReturnsInHanded {} Try.checked os 10 .any (Rows.termTwiceSpec.pre6 enc Try.prog Try.f10 Rows.termTwiceRow.domain false) (Rows.termTwiceSpec.post enc Try.prog Try.f10 false true false false) := by
  refine returnsInHanded_of_change_sized (C := Try.checked) own_ started (by kernel_rfl) Try.func10
    (ChangeSpec.witness6 (enc := enc) (C := Try.checked) false ⟨#[], #[.agg #[.int .i64 0, .int .i64 0, .slice none 0 0], .slice none 0 0, .slice none 0 0], []⟩ 8 (by kernel_rfl) (by kernel_rfl) (by kernel_rfl) (by kernel_rfl)) ?_
  intro W base args ds gs before hval0 hW _ hwt _
  have hval : ∀ (j : Nat) t v, Try.f10.params[j]? = some t → args[j]? = some v → Value.okWide Try.prog W .any base t v := hval0
  have hW' := hW
  obtain ⟨p, q, hA0, hV, rfl, _, _⟩ := hW
  have hA : DataW.TrodAll enc Try.prog W 0 (fun _ => true) true Try.f10.params.toList args.toList ds p := hA0
  have hAk := hA
  rw [Try.params10] at hA hval
  obtain ⟨v0, v1, v2, d0, d1, d2, p0, p1, p2, rfl, rfl, rfl, h0, h1, h2⟩ := trodAll_three hA
  obtain ⟨rfl, rfl⟩ := trodVars_none hV
  obtain ⟨cs0, hcs0, _⟩ := okWide_struct Try.underlying35 (hval 0 35 v0 rfl rfl)
  obtain ⟨s0, u0, rfl, hin0⟩ := open_term ⟨cs0, hcs0⟩ h0
  obtain ⟨s1, hin1⟩ := open_terms (okWide_slice Try.underlying33 (hval 1 33 v1 rfl rfl)) h1
  obtain ⟨s2, hin2⟩ := open_terms (okWide_slice Try.underlying33 (hval 2 33 v2 rfl rfl)) h2
  have hl1 := terms_len hwt (j := 1) (by kernel_rfl) rfl h1 hin1
  have hl2 := terms_len hwt (j := 2) (by kernel_rfl) rfl h2 hin2
  clear hA0 hval0
  simp only [List.append_nil] at hW' hAk
  refine (lawTwiceT_any s0 u0 s1 v1 s2 v2 W _ _ _ hl1 hl2 hin0 (fun _ h => h) hin1 (fun _ h => h) hin2 (fun _ h => h)).mono fun e W' ⟨he, hb⟩ => ?_
  subst he
  exact ⟨_, rfl, law_post rfl (by kernel_rfl) rfl (by rw [Try.params10]; decide +kernel) hW' hAk hb⟩

theorem termTwice_holds : Rows.TermTwiceSaid :=
  OpenClaim.holds_of_wide 10 Try.f10 rfl rfl rfl rfl rfl rfl rfl ⟨rfl, rfl, rfl, rfl, rfl⟩ rfl rfl rfl rfl rfl (by kernel_rfl) Try.func10 (by kernel_rfl)
    (of_decide_eq_true (by kernel_rfl)) (by unfold Func.isWrapper; rw [if_neg (of_decide_eq_false (by kernel_rfl))]; exact ⟨rfl, rfl⟩)
    (fun os started H enc _ => termTwice_lifted os started H enc)
end Go.Proofs.Ytmggccgjhjknpaa
