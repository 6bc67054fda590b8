/-
  DERIVED. GIVEN WITH THE SEED: THE CARDS: each row of YtkkfdiidneoelaaGreatDoorRows.lean that lists a variable, with what it lists TIED to the program's text (the seventh form; the later family's looks); each row that meets fmt, with fmt's text TOLD by the authors' own Lean function (tested against real Go, not proved from fmt's source: count such statements apart). THE CARD IS WHAT COUNTS. Prove the row's statement (the work); the ties are given (YtkkfdiidneoelaaGreatDoorTie.lean); close each card by the builder's one call (the guide's Derived/Test/ToyasCard.lean, 'card_holds'). Laid BY PROGRAM, IN A SANDBOX (cutbox-door.mjs). By AI agents, Wed Nov 11 2026. No macro, syntax, notation, axiom, sorry.
-/
import Derived.Test.YtkkfdiidneoelaaGreatDoorRows
import GoSem.ClaimSeven
namespace Go.Proofs.YtkkfdiidneoelaaGreatDoor
namespace Rows

/-- THE TIED CARD OF 'virgationlaw03.SchemeGet'. -/
def schemeGetCard : Claim7 := { stood := { row := schemeGetRow, standIns := [], harness := (true, "4816b1ec6f41fdf90529e8370c3d5c42357ac78e17bc7435e31f8bc1528c3049"), looks := true }, kinds := [], alts := [], laidByText := true, laidKinds := [.data, .data, .data, .data, .sentinel, .sentinel, .pinned], laidTests := true, laidLooks := .later }
def SchemeGetCardSaid : Prop := Claim7.holds Tryz.pinned (.plain (OpenSpec.ofChange schemeGetSpec)) schemeGetCard

/-- THE TIED CARD OF 'virgationlaw04.InferScheme'. -/
def inferSchemeCard : Claim7 := { stood := { row := inferSchemeRow, standIns := [], harness := (true, "4816b1ec6f41fdf90529e8370c3d5c42357ac78e17bc7435e31f8bc1528c3049"), looks := true }, kinds := [], alts := [], laidByText := true, laidKinds := [.data, .pinned], laidTests := true, laidLooks := .later }
def InferSchemeCardSaid : Prop := Claim7.holds Tryz.pinned (.plain (OpenSpec.ofChange inferSchemeSpec)) inferSchemeCard

/-- THE SECOND FORM's CARD OF 'virgationlaw03.SchemeGet'. -/
def schemeGetUptoCard : Claim7 := { stood := { row := schemeGetUptoRow, standIns := [], harness := (true, "4816b1ec6f41fdf90529e8370c3d5c42357ac78e17bc7435e31f8bc1528c3049"), looks := true }, kinds := [], alts := [], laidByText := true, laidKinds := [.data, .data, .data, .data, .sentinel, .sentinel, .pinned], laidTests := true, laidLooks := .later }
def SchemeGetUptoCardSaid : Prop := Claim7.holds Tryz.pinned (.plain (OpenSpec.upto schemeGetSpec)) schemeGetUptoCard

/-- THE SECOND FORM's CARD OF 'virgationlaw04.InferScheme'. -/
def inferSchemeUptoCard : Claim7 := { stood := { row := inferSchemeUptoRow, standIns := [], harness := (true, "4816b1ec6f41fdf90529e8370c3d5c42357ac78e17bc7435e31f8bc1528c3049"), looks := true }, kinds := [], alts := [], laidByText := true, laidKinds := [.data, .pinned], laidTests := true, laidLooks := .later }
def InferSchemeUptoCardSaid : Prop := Claim7.holds Tryz.pinned (.plain (OpenSpec.upto inferSchemeSpec)) inferSchemeUptoCard
end Rows
end Go.Proofs.YtkkfdiidneoelaaGreatDoor
