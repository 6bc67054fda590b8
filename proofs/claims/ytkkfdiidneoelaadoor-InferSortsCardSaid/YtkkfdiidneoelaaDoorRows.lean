/-
  NARROWER THAN 'FOR EVERY INPUT', by the rows' own cells (each row's printed sentence says how): InferCheck: loops, laid · InferSorts: loops, laid · InferFinds: loops, laid · InferValid: loops, laid · InferOwn: loops, laid.
  DERIVED. THE GIVEN ROWS OF THIS SEAT. 5 by the template 'for every input the law returns true; each argument reads behind the call as it read before'; 0 by the template 'total and deterministic' (their statements: YtkkfdiidneoelaaDoorTotals.lean).
  GIVEN WITH THE SEED: the statements are not yours to turn. If you find one false, say at which input.
  Laid BY PROGRAM, IN A SANDBOX (cutbox-rows.mjs): the forced cells as the released guide's own fill.sh prints them over the translation 372146b919e25145… (all of the seat's roots in one cut). By AI agents, Wed Nov 11 2026. No macro, syntax, notation, axiom, sorry.
-/
import Derived.Test.YtkkfdiidneoelaaDoorChecked
import GoSem.PinnedTables
import GoSem.Claim
import GoSem.ClaimJoined
import GoSem.ClaimMapViews
import Derived.JoinedTies
import Derived.KernelRfl
namespace Go.Proofs.YtkkfdiidneoelaaDoor
/- THE CELL 'sum', in the pinned program and in every row, IS THE sha256 OF THE DUMP (.gsa) THAT YtkkfdiidneoelaaDoorProg.lean LOADS. Nothing in Lean hashes anything: it is a label: what it is worth is what the hold of that sum in a sandbox is worth. -/
noncomputable def Tryd.pinned : Pinned := { name := "ytkkfdiidneoelaadoor", sum := "372146b919e251454083cace2432f6c9cf81b150eed258d8797fe46cb68c08b4", checked := Tryd.checked }
namespace Rows
def none {H : Type} : Left H := { results := [], args := [] }

/- WHAT THE LISTED PACKAGE-LEVEL VARIABLES READ AS WHEN THE CALL BEGINS. Each datum BY PROGRAM (the guide's laid-datum.mjs) off the statement by which the dump's own 'gosem.cut.vars' lays the variable. In a bare row this is a premise. The card (YtkkfdiidneoelaaDoorCards.lean) ties it to the program's text. -/
def laid_unicode_utf8_acceptRanges {H : Type} : DataW H := .agg [.agg [.lit (.int .u8 128), .lit (.int .u8 191)], .agg [.lit (.int .u8 160), .lit (.int .u8 191)], .agg [.lit (.int .u8 128), .lit (.int .u8 159)], .agg [.lit (.int .u8 144), .lit (.int .u8 191)], .agg [.lit (.int .u8 128), .lit (.int .u8 143)], .agg [.lit (.int .u8 0), .lit (.int .u8 0)], .agg [.lit (.int .u8 0), .lit (.int .u8 0)], .agg [.lit (.int .u8 0), .lit (.int .u8 0)], .agg [.lit (.int .u8 0), .lit (.int .u8 0)], .agg [.lit (.int .u8 0), .lit (.int .u8 0)], .agg [.lit (.int .u8 0), .lit (.int .u8 0)], .agg [.lit (.int .u8 0), .lit (.int .u8 0)], .agg [.lit (.int .u8 0), .lit (.int .u8 0)], .agg [.lit (.int .u8 0), .lit (.int .u8 0)], .agg [.lit (.int .u8 0), .lit (.int .u8 0)], .agg [.lit (.int .u8 0), .lit (.int .u8 0)]]
/-- One of Go's own tables, pinned by name: the form's constant. -/
def laid_unicode_utf8_first : DataW Unit := Go.Pinned.utf8First

/-- 'virgationlaw04.InferCheck': WHATEVER THE INPUT: true; the input reads as it did. -/
def inferCheckSpec : ChangeSpec := { name := "inferCheck", fn := fun _ => fun
  | [d1, d2] => { results := [.lit (.bool true)], args := [d1, d2] }
  | _ => none }
def inferCheckRow : OpenClaim := { program := "ytkkfdiidneoelaadoor", sum := "372146b919e251454083cace2432f6c9cf81b150eed258d8797fe46cb68c08b4", func := "virgation/virgationlaw04.InferCheck", spec := "inferCheck", inPlace := ["internal/bytealg.IndexByteString", "internal/bytealg.IndexString"], unfollowed := true, recurses := true, named := ["unicode/utf8.first", "unicode/utf8.acceptRanges", "internal/bytealg.MaxLen"], loops := true, apart := false, laid := [("unicode/utf8.acceptRanges", laid_unicode_utf8_acceptRanges), ("unicode/utf8.first", laid_unicode_utf8_first)] }
def InferCheckSaid : Prop := inferCheckRow.holds Tryd.pinned (OpenSpec.ofChange inferCheckSpec)

/-- ITS FALSE NEIGHBOUR: 'it returns false'. Refute it at one input. -/
def inferCheckWrong : ChangeSpec := { name := "inferCheck", fn := fun _ => fun
  | [d1, d2] => { results := [.lit (.bool false)], args := [d1, d2] }
  | _ => none }
def InferCheckWrongFalsely : Prop := inferCheckRow.holds Tryd.pinned (OpenSpec.ofChange inferCheckWrong)

/-- 'virgationlaw04.InferSorts': WHATEVER THE INPUT: true; the input reads as it did. -/
def inferSortsSpec : ChangeSpec := { name := "inferSorts", fn := fun _ => fun
  | [d1, d2] => { results := [.lit (.bool true)], args := [d1, d2] }
  | _ => none }
def inferSortsRow : OpenClaim := { program := "ytkkfdiidneoelaadoor", sum := "372146b919e251454083cace2432f6c9cf81b150eed258d8797fe46cb68c08b4", func := "virgation/virgationlaw04.InferSorts", spec := "inferSorts", inPlace := ["internal/bytealg.IndexByteString", "internal/bytealg.IndexString"], unfollowed := true, recurses := true, named := ["unicode/utf8.first", "unicode/utf8.acceptRanges", "internal/bytealg.MaxLen"], loops := true, apart := false, laid := [("unicode/utf8.acceptRanges", laid_unicode_utf8_acceptRanges), ("unicode/utf8.first", laid_unicode_utf8_first)] }
def InferSortsSaid : Prop := inferSortsRow.holds Tryd.pinned (OpenSpec.ofChange inferSortsSpec)

/-- ITS FALSE NEIGHBOUR: 'it returns false'. Refute it at one input. -/
def inferSortsWrong : ChangeSpec := { name := "inferSorts", fn := fun _ => fun
  | [d1, d2] => { results := [.lit (.bool false)], args := [d1, d2] }
  | _ => none }
def InferSortsWrongFalsely : Prop := inferSortsRow.holds Tryd.pinned (OpenSpec.ofChange inferSortsWrong)

/-- 'virgationlaw04.InferFinds': WHATEVER THE INPUT: true; the input reads as it did. -/
def inferFindsSpec : ChangeSpec := { name := "inferFinds", fn := fun _ => fun
  | [d] => { results := [.lit (.bool true)], args := [d] }
  | _ => none }
def inferFindsRow : OpenClaim := { program := "ytkkfdiidneoelaadoor", sum := "372146b919e251454083cace2432f6c9cf81b150eed258d8797fe46cb68c08b4", func := "virgation/virgationlaw04.InferFinds", spec := "inferFinds", inPlace := ["internal/bytealg.IndexByteString", "internal/bytealg.IndexString"], unfollowed := true, recurses := true, named := ["unicode/utf8.first", "unicode/utf8.acceptRanges", "internal/bytealg.MaxLen"], loops := true, apart := false, laid := [("unicode/utf8.acceptRanges", laid_unicode_utf8_acceptRanges), ("unicode/utf8.first", laid_unicode_utf8_first)] }
def InferFindsSaid : Prop := inferFindsRow.holds Tryd.pinned (OpenSpec.ofChange inferFindsSpec)

/-- ITS FALSE NEIGHBOUR: 'it returns false'. Refute it at one input. -/
def inferFindsWrong : ChangeSpec := { name := "inferFinds", fn := fun _ => fun
  | [d] => { results := [.lit (.bool false)], args := [d] }
  | _ => none }
def InferFindsWrongFalsely : Prop := inferFindsRow.holds Tryd.pinned (OpenSpec.ofChange inferFindsWrong)

/-- 'virgationlaw04.InferValid': WHATEVER THE INPUT: true; the input reads as it did. -/
def inferValidSpec : ChangeSpec := { name := "inferValid", fn := fun _ => fun
  | [d1, d2] => { results := [.lit (.bool true)], args := [d1, d2] }
  | _ => none }
def inferValidRow : OpenClaim := { program := "ytkkfdiidneoelaadoor", sum := "372146b919e251454083cace2432f6c9cf81b150eed258d8797fe46cb68c08b4", func := "virgation/virgationlaw04.InferValid", spec := "inferValid", inPlace := ["internal/bytealg.IndexByteString", "internal/bytealg.IndexString"], unfollowed := true, recurses := true, named := ["unicode/utf8.first", "unicode/utf8.acceptRanges", "internal/bytealg.MaxLen"], loops := true, apart := false, laid := [("unicode/utf8.acceptRanges", laid_unicode_utf8_acceptRanges), ("unicode/utf8.first", laid_unicode_utf8_first)] }
def InferValidSaid : Prop := inferValidRow.holds Tryd.pinned (OpenSpec.ofChange inferValidSpec)

/-- ITS FALSE NEIGHBOUR: 'it returns false'. Refute it at one input. -/
def inferValidWrong : ChangeSpec := { name := "inferValid", fn := fun _ => fun
  | [d1, d2] => { results := [.lit (.bool false)], args := [d1, d2] }
  | _ => none }
def InferValidWrongFalsely : Prop := inferValidRow.holds Tryd.pinned (OpenSpec.ofChange inferValidWrong)

/-- 'virgationlaw04.InferOwn': WHATEVER THE INPUT: true; the input reads as it did. -/
def inferOwnSpec : ChangeSpec := { name := "inferOwn", fn := fun _ => fun
  | [d1, d2] => { results := [.lit (.bool true)], args := [d1, d2] }
  | _ => none }
def inferOwnRow : OpenClaim := { program := "ytkkfdiidneoelaadoor", sum := "372146b919e251454083cace2432f6c9cf81b150eed258d8797fe46cb68c08b4", func := "virgation/virgationlaw04.InferOwn", spec := "inferOwn", inPlace := ["internal/bytealg.IndexByteString", "internal/bytealg.IndexString"], unfollowed := true, recurses := true, named := ["unicode/utf8.first", "unicode/utf8.acceptRanges", "internal/bytealg.MaxLen"], loops := true, apart := false, laid := [("unicode/utf8.acceptRanges", laid_unicode_utf8_acceptRanges), ("unicode/utf8.first", laid_unicode_utf8_first)] }
def InferOwnSaid : Prop := inferOwnRow.holds Tryd.pinned (OpenSpec.ofChange inferOwnSpec)

/-- ITS FALSE NEIGHBOUR: 'it returns false'. Refute it at one input. -/
def inferOwnWrong : ChangeSpec := { name := "inferOwn", fn := fun _ => fun
  | [d1, d2] => { results := [.lit (.bool false)], args := [d1, d2] }
  | _ => none }
def InferOwnWrongFalsely : Prop := inferOwnRow.holds Tryd.pinned (OpenSpec.ofChange inferOwnWrong)

/- THE SECOND FORM. 'bulk': how many values and letters a reading holds, each counted each time it is reached (what is shared counts as often as it is met; a slice's spare places count too). A statement '..UptoSaid' is the law's where the arguments, and the package variables that the reading takes, are together of bulk at most 1048576: NARROWER than '..Said'. Prove '..Said' where nothing that the law and all that it calls make is longer than what came in: it says more and counts as full. Else prove '..UptoSaid'. A law counts once. -/
mutual
def uptoBulk {H : Type} : DataW H → Nat
  | .lit (.string bytes) => bytes.length + 1
  | .lit _ => 1
  | .nil => 1
  | .ptr d => uptoBulk d + 1
  | .slice elems spare => uptoBulkAll elems + uptoBulkAll spare + 1
  | .agg parts => uptoBulkAll parts + 1
  | .iface _ d => uptoBulk d + 1
  | .map entries => uptoBulkEntries entries + 1
  | .held _ => 1
def uptoBulkAll {H : Type} : List (DataW H) → Nat
  | [] => 0
  | d :: r => uptoBulk d + uptoBulkAll r
def uptoBulkEntries {H : Type} : List (Lit × DataW H) → Nat
  | [] => 0
  | x :: r => uptoBulkEntry x + uptoBulkEntries r
def uptoBulkEntry {H : Type} : Lit × DataW H → Nat
  | (.string bytes, d) => bytes.length + uptoBulk d + 1
  | (_, d) => uptoBulk d + 1
 end
def uptoSmall : (H : Type) → List (DataW H) → Bool := fun _ ds => decide (uptoBulkAll ds ≤ 1048576)
def OpenSpec.upto (s : _root_.Go.ChangeSpec) : _root_.Go.OpenSpec := { _root_.Go.OpenSpec.ofChange s with cond := some uptoSmall }

/-- 'virgationlaw04.InferCheck', WHERE WHAT IT READS IS OF BULK AT MOST 1048576: true; the input reads as it did. -/
def inferCheckUptoRow : OpenClaim := { program := "ytkkfdiidneoelaadoor", sum := "372146b919e251454083cace2432f6c9cf81b150eed258d8797fe46cb68c08b4", func := "virgation/virgationlaw04.InferCheck", spec := "inferCheck", inPlace := ["internal/bytealg.IndexByteString", "internal/bytealg.IndexString"], unfollowed := true, recurses := true, named := ["unicode/utf8.first", "unicode/utf8.acceptRanges", "internal/bytealg.MaxLen"], loops := true, apart := false, laid := [("unicode/utf8.acceptRanges", laid_unicode_utf8_acceptRanges), ("unicode/utf8.first", laid_unicode_utf8_first)], narrowed := true }
def InferCheckUptoSaid : Prop := inferCheckUptoRow.holds Tryd.pinned (OpenSpec.upto inferCheckSpec)

/-- 'virgationlaw04.InferSorts', WHERE WHAT IT READS IS OF BULK AT MOST 1048576: true; the input reads as it did. -/
def inferSortsUptoRow : OpenClaim := { program := "ytkkfdiidneoelaadoor", sum := "372146b919e251454083cace2432f6c9cf81b150eed258d8797fe46cb68c08b4", func := "virgation/virgationlaw04.InferSorts", spec := "inferSorts", inPlace := ["internal/bytealg.IndexByteString", "internal/bytealg.IndexString"], unfollowed := true, recurses := true, named := ["unicode/utf8.first", "unicode/utf8.acceptRanges", "internal/bytealg.MaxLen"], loops := true, apart := false, laid := [("unicode/utf8.acceptRanges", laid_unicode_utf8_acceptRanges), ("unicode/utf8.first", laid_unicode_utf8_first)], narrowed := true }
def InferSortsUptoSaid : Prop := inferSortsUptoRow.holds Tryd.pinned (OpenSpec.upto inferSortsSpec)

/-- 'virgationlaw04.InferFinds', WHERE WHAT IT READS IS OF BULK AT MOST 1048576: true; the input reads as it did. -/
def inferFindsUptoRow : OpenClaim := { program := "ytkkfdiidneoelaadoor", sum := "372146b919e251454083cace2432f6c9cf81b150eed258d8797fe46cb68c08b4", func := "virgation/virgationlaw04.InferFinds", spec := "inferFinds", inPlace := ["internal/bytealg.IndexByteString", "internal/bytealg.IndexString"], unfollowed := true, recurses := true, named := ["unicode/utf8.first", "unicode/utf8.acceptRanges", "internal/bytealg.MaxLen"], loops := true, apart := false, laid := [("unicode/utf8.acceptRanges", laid_unicode_utf8_acceptRanges), ("unicode/utf8.first", laid_unicode_utf8_first)], narrowed := true }
def InferFindsUptoSaid : Prop := inferFindsUptoRow.holds Tryd.pinned (OpenSpec.upto inferFindsSpec)

/-- 'virgationlaw04.InferValid', WHERE WHAT IT READS IS OF BULK AT MOST 1048576: true; the input reads as it did. -/
def inferValidUptoRow : OpenClaim := { program := "ytkkfdiidneoelaadoor", sum := "372146b919e251454083cace2432f6c9cf81b150eed258d8797fe46cb68c08b4", func := "virgation/virgationlaw04.InferValid", spec := "inferValid", inPlace := ["internal/bytealg.IndexByteString", "internal/bytealg.IndexString"], unfollowed := true, recurses := true, named := ["unicode/utf8.first", "unicode/utf8.acceptRanges", "internal/bytealg.MaxLen"], loops := true, apart := false, laid := [("unicode/utf8.acceptRanges", laid_unicode_utf8_acceptRanges), ("unicode/utf8.first", laid_unicode_utf8_first)], narrowed := true }
def InferValidUptoSaid : Prop := inferValidUptoRow.holds Tryd.pinned (OpenSpec.upto inferValidSpec)

/-- 'virgationlaw04.InferOwn', WHERE WHAT IT READS IS OF BULK AT MOST 1048576: true; the input reads as it did. -/
def inferOwnUptoRow : OpenClaim := { program := "ytkkfdiidneoelaadoor", sum := "372146b919e251454083cace2432f6c9cf81b150eed258d8797fe46cb68c08b4", func := "virgation/virgationlaw04.InferOwn", spec := "inferOwn", inPlace := ["internal/bytealg.IndexByteString", "internal/bytealg.IndexString"], unfollowed := true, recurses := true, named := ["unicode/utf8.first", "unicode/utf8.acceptRanges", "internal/bytealg.MaxLen"], loops := true, apart := false, laid := [("unicode/utf8.acceptRanges", laid_unicode_utf8_acceptRanges), ("unicode/utf8.first", laid_unicode_utf8_first)], narrowed := true }
def InferOwnUptoSaid : Prop := inferOwnUptoRow.holds Tryd.pinned (OpenSpec.upto inferOwnSpec)

end Rows
end Go.Proofs.YtkkfdiidneoelaaDoor
