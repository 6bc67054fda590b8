/-
  DERIVED. GIVEN WITH THE SEED: THE CARDS: each row of YtbbejhhohppdhaaGreatDoorRows.lean that lists a variable, with what it lists TIED to the program's text (the seventh form; the later family's looks); each row that meets fmt, with fmt's text TOLD by the authors' own Lean function (tested against real Go, not proved from fmt's source: count such statements apart). THE CARD IS WHAT COUNTS. Prove the row's statement (the work); the ties are given (YtbbejhhohppdhaaGreatDoorTie.lean); close each card by the builder's one call (the guide's Derived/Test/ToyasCard.lean, 'card_holds'). Laid BY PROGRAM, IN A SANDBOX (cutbox-door.mjs). By AI agents, Wed Nov 11 2026. No macro, syntax, notation, axiom, sorry.
-/
import Derived.Test.YtbbejhhohppdhaaGreatDoorRows
import GoSem.ClaimSeven
namespace Go.Proofs.YtbbejhhohppdhaaGreatDoor
namespace Rows

/-- THE TIED CARD OF 'virgationlaw03.SchemeGet'. -/
def schemeGetCard : Claim7 := { stood := { row := schemeGetRow, standIns := [], harness := (true, "62ac38f944cc5dcb851ed7a97ccf7dddf867eee6e41994365924dc563d9f2699"), looks := true }, kinds := [], alts := [], laidByText := true, laidKinds := [.data, .data, .data, .data, .sentinel, .sentinel, .pinned], laidTests := true, laidLooks := .later }
def SchemeGetCardSaid : Prop := Claim7.holds Tryz.pinned (.plain (OpenSpec.ofChange schemeGetSpec)) schemeGetCard

/-- THE TIED CARD OF 'virgationlaw05.StepCheck'. -/
def stepCheckCard : Claim7 := { stood := { row := stepCheckRow, standIns := [], harness := (true, "62ac38f944cc5dcb851ed7a97ccf7dddf867eee6e41994365924dc563d9f2699"), looks := true }, kinds := [], alts := [], laidByText := true, laidKinds := [.data, .pinned], laidTests := true, laidLooks := .later }
def StepCheckCardSaid : Prop := Claim7.holds Tryz.pinned (.plain (OpenSpec.ofChange stepCheckSpec)) stepCheckCard

/-- THE TIED CARD OF 'virgationlaw05.StepOnce'. -/
def stepOnceCard : Claim7 := { stood := { row := stepOnceRow, standIns := [], harness := (true, "62ac38f944cc5dcb851ed7a97ccf7dddf867eee6e41994365924dc563d9f2699"), looks := true }, kinds := [], alts := [], laidByText := true, laidKinds := [.data, .pinned], laidTests := true, laidLooks := .later }
def StepOnceCardSaid : Prop := Claim7.holds Tryz.pinned (.plain (OpenSpec.ofChange stepOnceSpec)) stepOnceCard

/-- THE TIED CARD OF 'virgationlaw05.StepRun'. -/
def stepRunCard : Claim7 := { stood := { row := stepRunRow, standIns := [], harness := (true, "62ac38f944cc5dcb851ed7a97ccf7dddf867eee6e41994365924dc563d9f2699"), looks := true }, kinds := [], alts := [], laidByText := true, laidKinds := [.data, .pinned], laidTests := true, laidLooks := .later }
def StepRunCardSaid : Prop := Claim7.holds Tryz.pinned (.plain (OpenSpec.ofChange stepRunSpec)) stepRunCard

/-- THE TIED CARD OF 'virgationlaw05.StepHeads'. -/
def stepHeadsCard : Claim7 := { stood := { row := stepHeadsRow, standIns := [], harness := (true, "62ac38f944cc5dcb851ed7a97ccf7dddf867eee6e41994365924dc563d9f2699"), looks := true }, kinds := [], alts := [], laidByText := true, laidKinds := [.data, .pinned], laidTests := true, laidLooks := .later }
def StepHeadsCardSaid : Prop := Claim7.holds Tryz.pinned (.plain (OpenSpec.ofChange stepHeadsSpec)) stepHeadsCard

/-- THE TIED CARD OF 'virgationlaw05.StepStays'. -/
def stepStaysCard : Claim7 := { stood := { row := stepStaysRow, standIns := [], harness := (true, "62ac38f944cc5dcb851ed7a97ccf7dddf867eee6e41994365924dc563d9f2699"), looks := true }, kinds := [], alts := [], laidByText := true, laidKinds := [.data, .pinned], laidTests := true, laidLooks := .later }
def StepStaysCardSaid : Prop := Claim7.holds Tryz.pinned (.plain (OpenSpec.ofChange stepStaysSpec)) stepStaysCard

/-- THE TIED CARD OF 'virgationlaw05.StepRuns'. -/
def stepRunsCard : Claim7 := { stood := { row := stepRunsRow, standIns := [], harness := (true, "62ac38f944cc5dcb851ed7a97ccf7dddf867eee6e41994365924dc563d9f2699"), looks := true }, kinds := [], alts := [], laidByText := true, laidKinds := [.data, .pinned], laidTests := true, laidLooks := .later }
def StepRunsCardSaid : Prop := Claim7.holds Tryz.pinned (.plain (OpenSpec.ofChange stepRunsSpec)) stepRunsCard

/-- THE TIED CARD OF 'virgationlaw05.StepMore'. -/
def stepMoreCard : Claim7 := { stood := { row := stepMoreRow, standIns := [], harness := (true, "62ac38f944cc5dcb851ed7a97ccf7dddf867eee6e41994365924dc563d9f2699"), looks := true }, kinds := [], alts := [], laidByText := true, laidKinds := [.data, .pinned], laidTests := true, laidLooks := .later }
def StepMoreCardSaid : Prop := Claim7.holds Tryz.pinned (.plain (OpenSpec.ofChange stepMoreSpec)) stepMoreCard

/-- THE TIED CARD OF 'virgationlaw05.StepOwn'. -/
def stepOwnCard : Claim7 := { stood := { row := stepOwnRow, standIns := [], harness := (true, "62ac38f944cc5dcb851ed7a97ccf7dddf867eee6e41994365924dc563d9f2699"), looks := true }, kinds := [], alts := [], laidByText := true, laidKinds := [.data, .pinned], laidTests := true, laidLooks := .later }
def StepOwnCardSaid : Prop := Claim7.holds Tryz.pinned (.plain (OpenSpec.ofChange stepOwnSpec)) stepOwnCard

/-- THE SECOND FORM's CARD OF 'virgationlaw03.SchemeGet'. -/
def schemeGetUptoCard : Claim7 := { stood := { row := schemeGetUptoRow, standIns := [], harness := (true, "62ac38f944cc5dcb851ed7a97ccf7dddf867eee6e41994365924dc563d9f2699"), looks := true }, kinds := [], alts := [], laidByText := true, laidKinds := [.data, .data, .data, .data, .sentinel, .sentinel, .pinned], laidTests := true, laidLooks := .later }
def SchemeGetUptoCardSaid : Prop := Claim7.holds Tryz.pinned (.plain (OpenSpec.upto schemeGetSpec)) schemeGetUptoCard

/-- THE SECOND FORM's CARD OF 'virgationlaw05.StepCheck'. -/
def stepCheckUptoCard : Claim7 := { stood := { row := stepCheckUptoRow, standIns := [], harness := (true, "62ac38f944cc5dcb851ed7a97ccf7dddf867eee6e41994365924dc563d9f2699"), looks := true }, kinds := [], alts := [], laidByText := true, laidKinds := [.data, .pinned], laidTests := true, laidLooks := .later }
def StepCheckUptoCardSaid : Prop := Claim7.holds Tryz.pinned (.plain (OpenSpec.upto stepCheckSpec)) stepCheckUptoCard

/-- THE SECOND FORM's CARD OF 'virgationlaw05.StepOnce'. -/
def stepOnceUptoCard : Claim7 := { stood := { row := stepOnceUptoRow, standIns := [], harness := (true, "62ac38f944cc5dcb851ed7a97ccf7dddf867eee6e41994365924dc563d9f2699"), looks := true }, kinds := [], alts := [], laidByText := true, laidKinds := [.data, .pinned], laidTests := true, laidLooks := .later }
def StepOnceUptoCardSaid : Prop := Claim7.holds Tryz.pinned (.plain (OpenSpec.upto stepOnceSpec)) stepOnceUptoCard

/-- THE SECOND FORM's CARD OF 'virgationlaw05.StepRun'. -/
def stepRunUptoCard : Claim7 := { stood := { row := stepRunUptoRow, standIns := [], harness := (true, "62ac38f944cc5dcb851ed7a97ccf7dddf867eee6e41994365924dc563d9f2699"), looks := true }, kinds := [], alts := [], laidByText := true, laidKinds := [.data, .pinned], laidTests := true, laidLooks := .later }
def StepRunUptoCardSaid : Prop := Claim7.holds Tryz.pinned (.plain (OpenSpec.upto stepRunSpec)) stepRunUptoCard

/-- THE SECOND FORM's CARD OF 'virgationlaw05.StepHeads'. -/
def stepHeadsUptoCard : Claim7 := { stood := { row := stepHeadsUptoRow, standIns := [], harness := (true, "62ac38f944cc5dcb851ed7a97ccf7dddf867eee6e41994365924dc563d9f2699"), looks := true }, kinds := [], alts := [], laidByText := true, laidKinds := [.data, .pinned], laidTests := true, laidLooks := .later }
def StepHeadsUptoCardSaid : Prop := Claim7.holds Tryz.pinned (.plain (OpenSpec.upto stepHeadsSpec)) stepHeadsUptoCard

/-- THE SECOND FORM's CARD OF 'virgationlaw05.StepStays'. -/
def stepStaysUptoCard : Claim7 := { stood := { row := stepStaysUptoRow, standIns := [], harness := (true, "62ac38f944cc5dcb851ed7a97ccf7dddf867eee6e41994365924dc563d9f2699"), looks := true }, kinds := [], alts := [], laidByText := true, laidKinds := [.data, .pinned], laidTests := true, laidLooks := .later }
def StepStaysUptoCardSaid : Prop := Claim7.holds Tryz.pinned (.plain (OpenSpec.upto stepStaysSpec)) stepStaysUptoCard

/-- THE SECOND FORM's CARD OF 'virgationlaw05.StepRuns'. -/
def stepRunsUptoCard : Claim7 := { stood := { row := stepRunsUptoRow, standIns := [], harness := (true, "62ac38f944cc5dcb851ed7a97ccf7dddf867eee6e41994365924dc563d9f2699"), looks := true }, kinds := [], alts := [], laidByText := true, laidKinds := [.data, .pinned], laidTests := true, laidLooks := .later }
def StepRunsUptoCardSaid : Prop := Claim7.holds Tryz.pinned (.plain (OpenSpec.upto stepRunsSpec)) stepRunsUptoCard

/-- THE SECOND FORM's CARD OF 'virgationlaw05.StepMore'. -/
def stepMoreUptoCard : Claim7 := { stood := { row := stepMoreUptoRow, standIns := [], harness := (true, "62ac38f944cc5dcb851ed7a97ccf7dddf867eee6e41994365924dc563d9f2699"), looks := true }, kinds := [], alts := [], laidByText := true, laidKinds := [.data, .pinned], laidTests := true, laidLooks := .later }
def StepMoreUptoCardSaid : Prop := Claim7.holds Tryz.pinned (.plain (OpenSpec.upto stepMoreSpec)) stepMoreUptoCard

/-- THE SECOND FORM's CARD OF 'virgationlaw05.StepOwn'. -/
def stepOwnUptoCard : Claim7 := { stood := { row := stepOwnUptoRow, standIns := [], harness := (true, "62ac38f944cc5dcb851ed7a97ccf7dddf867eee6e41994365924dc563d9f2699"), looks := true }, kinds := [], alts := [], laidByText := true, laidKinds := [.data, .pinned], laidTests := true, laidLooks := .later }
def StepOwnUptoCardSaid : Prop := Claim7.holds Tryz.pinned (.plain (OpenSpec.upto stepOwnSpec)) stepOwnUptoCard
end Rows
end Go.Proofs.YtbbejhhohppdhaaGreatDoor
