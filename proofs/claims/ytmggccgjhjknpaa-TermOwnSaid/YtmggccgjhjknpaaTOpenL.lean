/-
  A list of terms that can be read as data is a list of terms in memory.
-/
import Derived.Test.YtmggccgjhjknpaaTOpen
namespace Go.Proofs.Ytmggccgjhjknpaa
open Go.RowKit Go.ChangeShapes Go.WideShapes Go.ChangeAt Go.Deep

section
variable {H : Type} {enc : TypeId × Value → H} {w : World} {base : Nat} {sp : Nat → Bool} {hd : Bool}
theorem open_terms {v : Value} {d : DataW H} {ps : List MemPlace} (hok : ∃ a n c, v = .slice a n c) (h : DataW.Trod enc Try.prog w base sp hd 33 v d ps) :
    ∃ l : List T, T.InL w (fun b => b < w.heap.size) l v := by
  obtain ⟨a, n, c, rfl⟩ := hok
  obtain ⟨fuel, hf⟩ := h
  obtain ⟨l, u, hcs, hin⟩ := open_terms_of (open_term_at (SizeOf.sizeOf d)) d (by omega) fuel _ ps hf
  have : (Value.slice a n c) = u := by simpa [Value.cells] using hcs
  subst this
  exact ⟨l, hin⟩
end
end Go.Proofs.Ytmggccgjhjknpaa
