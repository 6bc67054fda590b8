/-
  How long a list of terms can be that fits into memory.
-/
import Derived.Test.YtmggccgjhjknpaaTOpenL
import Derived.Test.YtmggccgjhjknpaaTSubst
import Derived.SizedLaws
namespace Go.Proofs.Ytmggccgjhjknpaa
open Go.RowKit Go.ChangeShapes Go.WideShapes Go.ChangeAt Go.Deep

theorem bytes_term : Try.prog.bytesOf 35 = 40 := by kernel_rfl
set_option maxRecDepth 100000 in
theorem terms_len {H : Type} {enc : TypeId × Value → H} {w : World} {base : Nat} {sp : Nat → Bool} {hd : Bool} {ts : List TypeId} {ds : List (DataW H)} (hs : (DataW.weightsEach Try.prog ts ds).all (· ≤ reachBytes) = true) {j : Nat} {d : DataW H}
    (ht : ts[j]? = some 33) (hj : ds[j]? = some d) {v : Value} {ps : List MemPlace} (h : DataW.Trod enc Try.prog w base sp hd 33 v d ps) {l : List T} {Q : Nat → Prop} (hin : T.InL w Q l v) : l.length ≤ 3600000000000 := by
  obtain ⟨A, n, c, rfl⟩ := T.In.form hin
  have hn := T.InL.len hin
  obtain ⟨fuel, hf⟩ := h
  have hr := reachBytes_lt
  have hf' : DataW.trod enc Try.prog w base sp hd fuel 33 [.slice A n c] = some (d, ps) := by simpa [Value.cells] using hf
  rcases open_slice Try.underlying33 hf' with ⟨hv, _⟩ | ⟨a, len, cap, m, n', D, Pl, hv, _, hlc, hcm, hm, hy, hel⟩
  · simp only [List.cons.injEq, Value.slice.injEq, and_true] at hv
    omega
  · simp only [List.cons.injEq, Value.slice.injEq, and_true] at hv
    simp only [Prod.mk.injEq] at hy
    obtain ⟨rfl, rfl⟩ := hy
    have := sized_slice hs ht hj Try.underlying33
    rw [bytes_term] at this
    simp only [List.length_map, List.length_range] at this
    have h2 : (2 : Nat) ^ 47 = 140737488355328 := by decide
    omega
end Go.Proofs.Ytmggccgjhjknpaa
