/-
  DERIVED. GIVEN WITH THE SEED: THE CARDS: each row of YtkkfdiidneoelaaDoorRows.lean that lists a variable, with what it lists TIED to the program's text (the seventh form; the later family's looks); each row that meets fmt, with fmt's text TOLD by the authors' own Lean function (tested against real Go, not proved from fmt's source: count such statements apart). THE CARD IS WHAT COUNTS. Prove the row's statement (the work); the ties are given (YtkkfdiidneoelaaDoorTie.lean); close each card by the builder's one call (the guide's Derived/Test/ToyasCard.lean, 'card_holds'). Laid BY PROGRAM, IN A SANDBOX (cutbox-door.mjs). By AI agents, Wed Nov 11 2026. No macro, syntax, notation, axiom, sorry.
-/
import Derived.Test.YtkkfdiidneoelaaDoorRows
import GoSem.ClaimSeven
namespace Go.Proofs.YtkkfdiidneoelaaDoor
namespace Rows

/-- THE TIED CARD OF 'virgationlaw04.InferCheck'. -/
def inferCheckCard : Claim7 := { stood := { row := inferCheckRow, standIns := [], harness := (true, "c7a5a563608377d747ce619fe673665c6dbb6eed2faec3af9a9bfbc2ad49f3e4"), looks := false }, kinds := [], alts := [], laidByText := true, laidKinds := [.data, .pinned], laidTests := true, laidLooks := .later }
def InferCheckCardSaid : Prop := Claim7.holds Tryd.pinned (.plain (OpenSpec.ofChange inferCheckSpec)) inferCheckCard

/-- THE TIED CARD OF 'virgationlaw04.InferSorts'. -/
def inferSortsCard : Claim7 := { stood := { row := inferSortsRow, standIns := [], harness := (true, "c7a5a563608377d747ce619fe673665c6dbb6eed2faec3af9a9bfbc2ad49f3e4"), looks := false }, kinds := [], alts := [], laidByText := true, laidKinds := [.data, .pinned], laidTests := true, laidLooks := .later }
def InferSortsCardSaid : Prop := Claim7.holds Tryd.pinned (.plain (OpenSpec.ofChange inferSortsSpec)) inferSortsCard

/-- THE TIED CARD OF 'virgationlaw04.InferFinds'. -/
def inferFindsCard : Claim7 := { stood := { row := inferFindsRow, standIns := [], harness := (true, "c7a5a563608377d747ce619fe673665c6dbb6eed2faec3af9a9bfbc2ad49f3e4"), looks := false }, kinds := [], alts := [], laidByText := true, laidKinds := [.data, .pinned], laidTests := true, laidLooks := .later }
def InferFindsCardSaid : Prop := Claim7.holds Tryd.pinned (.plain (OpenSpec.ofChange inferFindsSpec)) inferFindsCard

/-- THE TIED CARD OF 'virgationlaw04.InferValid'. -/
def inferValidCard : Claim7 := { stood := { row := inferValidRow, standIns := [], harness := (true, "c7a5a563608377d747ce619fe673665c6dbb6eed2faec3af9a9bfbc2ad49f3e4"), looks := false }, kinds := [], alts := [], laidByText := true, laidKinds := [.data, .pinned], laidTests := true, laidLooks := .later }
def InferValidCardSaid : Prop := Claim7.holds Tryd.pinned (.plain (OpenSpec.ofChange inferValidSpec)) inferValidCard

/-- THE TIED CARD OF 'virgationlaw04.InferOwn'. -/
def inferOwnCard : Claim7 := { stood := { row := inferOwnRow, standIns := [], harness := (true, "c7a5a563608377d747ce619fe673665c6dbb6eed2faec3af9a9bfbc2ad49f3e4"), looks := false }, kinds := [], alts := [], laidByText := true, laidKinds := [.data, .pinned], laidTests := true, laidLooks := .later }
def InferOwnCardSaid : Prop := Claim7.holds Tryd.pinned (.plain (OpenSpec.ofChange inferOwnSpec)) inferOwnCard

/-- THE SECOND FORM's CARD OF 'virgationlaw04.InferCheck'. -/
def inferCheckUptoCard : Claim7 := { stood := { row := inferCheckUptoRow, standIns := [], harness := (true, "c7a5a563608377d747ce619fe673665c6dbb6eed2faec3af9a9bfbc2ad49f3e4"), looks := false }, kinds := [], alts := [], laidByText := true, laidKinds := [.data, .pinned], laidTests := true, laidLooks := .later }
def InferCheckUptoCardSaid : Prop := Claim7.holds Tryd.pinned (.plain (OpenSpec.upto inferCheckSpec)) inferCheckUptoCard

/-- THE SECOND FORM's CARD OF 'virgationlaw04.InferSorts'. -/
def inferSortsUptoCard : Claim7 := { stood := { row := inferSortsUptoRow, standIns := [], harness := (true, "c7a5a563608377d747ce619fe673665c6dbb6eed2faec3af9a9bfbc2ad49f3e4"), looks := false }, kinds := [], alts := [], laidByText := true, laidKinds := [.data, .pinned], laidTests := true, laidLooks := .later }
def InferSortsUptoCardSaid : Prop := Claim7.holds Tryd.pinned (.plain (OpenSpec.upto inferSortsSpec)) inferSortsUptoCard

/-- THE SECOND FORM's CARD OF 'virgationlaw04.InferFinds'. -/
def inferFindsUptoCard : Claim7 := { stood := { row := inferFindsUptoRow, standIns := [], harness := (true, "c7a5a563608377d747ce619fe673665c6dbb6eed2faec3af9a9bfbc2ad49f3e4"), looks := false }, kinds := [], alts := [], laidByText := true, laidKinds := [.data, .pinned], laidTests := true, laidLooks := .later }
def InferFindsUptoCardSaid : Prop := Claim7.holds Tryd.pinned (.plain (OpenSpec.upto inferFindsSpec)) inferFindsUptoCard

/-- THE SECOND FORM's CARD OF 'virgationlaw04.InferValid'. -/
def inferValidUptoCard : Claim7 := { stood := { row := inferValidUptoRow, standIns := [], harness := (true, "c7a5a563608377d747ce619fe673665c6dbb6eed2faec3af9a9bfbc2ad49f3e4"), looks := false }, kinds := [], alts := [], laidByText := true, laidKinds := [.data, .pinned], laidTests := true, laidLooks := .later }
def InferValidUptoCardSaid : Prop := Claim7.holds Tryd.pinned (.plain (OpenSpec.upto inferValidSpec)) inferValidUptoCard

/-- THE SECOND FORM's CARD OF 'virgationlaw04.InferOwn'. -/
def inferOwnUptoCard : Claim7 := { stood := { row := inferOwnUptoRow, standIns := [], harness := (true, "c7a5a563608377d747ce619fe673665c6dbb6eed2faec3af9a9bfbc2ad49f3e4"), looks := false }, kinds := [], alts := [], laidByText := true, laidKinds := [.data, .pinned], laidTests := true, laidLooks := .later }
def InferOwnUptoCardSaid : Prop := Claim7.holds Tryd.pinned (.plain (OpenSpec.upto inferOwnSpec)) inferOwnUptoCard
end Rows
end Go.Proofs.YtkkfdiidneoelaaDoor
