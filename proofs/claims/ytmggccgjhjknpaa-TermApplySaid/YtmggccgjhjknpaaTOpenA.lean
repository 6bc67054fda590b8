/-
  How long a list of terms can be that fits into memory, a term's own arguments, too.
-/
import Derived.Test.YtmggccgjhjknpaaTOpenN
namespace Go.Proofs.Ytmggccgjhjknpaa
open Go.RowKit Go.ChangeShapes Go.WideShapes Go.ChangeAt Go.Deep

set_option maxRecDepth 100000 in
theorem terms_len2 {H : Type} {enc : TypeId × Value → H} {w : World} {base : Nat} {sp : Nat → Bool} {hd : Bool} {ts : List TypeId} {ds : List (DataW H)} (hs : (DataW.weightsEach Try.prog ts ds).all (· ≤ reachBytes) = true) {j : Nat} {d : DataW H}
    (ht : ts[j]? = some 33) (hj : ds[j]? = some d) {v : Value} {ps : List MemPlace} (h : DataW.Trod enc Try.prog w base sp hd 33 v d ps) {l : List T} {Q : Nat → Prop} (hin : T.InL w Q l v) : l.length ≤ 3518437208883 := by
  obtain ⟨A, n, c, rfl⟩ := T.In.form hin
  have hn := T.InL.len hin
  obtain ⟨fuel, hf⟩ := h
  have hr := reachBytes_lt
  have hf' : DataW.trod enc Try.prog w base sp hd fuel 33 [.slice A n c] = some (d, ps) := by simpa [Value.cells] using hf
  rcases open_slice Try.underlying33 hf' with ⟨hv, _⟩ | ⟨a, len, cap, m, n', D, Pl, hv, _, hlc, hcm, hm, hy, hel⟩
  · simp only [List.cons.injEq, Value.slice.injEq, and_true] at hv
    omega
  · simp only [List.cons.injEq, Value.slice.injEq, and_true] at hv
    simp only [Prod.mk.injEq] at hy
    obtain ⟨rfl, rfl⟩ := hy
    have := sized_slice hs ht hj Try.underlying33
    rw [bytes_term] at this
    simp only [List.length_map, List.length_range] at this
    have h2 : (2 : Nat) ^ 47 = 140737488355328 := by decide
    omega
set_option maxRecDepth 100000 in
theorem term_len {H : Type} {enc : TypeId × Value → H} {w : World} {base : Nat} {sp : Nat → Bool} {hd : Bool} {ts : List TypeId} {ds : List (DataW H)} (hs : (DataW.weightsEach Try.prog ts ds).all (· ≤ reachBytes) = true) {j : Nat} {d : DataW H}
    (ht : ts[j]? = some 35) (hj : ds[j]? = some d) {s : T} {u : Value} {ps : List MemPlace} (h : DataW.Trod enc Try.prog w base sp hd 35 (.agg #[.int .i64 s.kind, .int .i64 s.num, u]) d ps) {Q : Nat → Prop} (hin : s.In w Q u) : s.args.length ≤ 3518437208883 := by
  obtain ⟨A, n, c, rfl⟩ := hin.form
  obtain ⟨kd, nm, l⟩ := s
  have hn := T.InL.len (T.InL.of hin)
  obtain ⟨fuel, hf⟩ := h
  have hr := reachBytes_lt
  have hf' : DataW.trod enc Try.prog w base sp hd fuel 35 [.int .i64 kd, .int .i64 nm, .slice A n c] = some (d, ps) := by simpa [Value.cells, T.kind, T.num] using hf
  obtain ⟨xs, n1, _, hx, hl, hlen, hfs⟩ := DataW.trod_struct Try.underlying35 hf'
  match xs, hlen with
  | [y0, y1, y2], _ =>
    have f2 := hfs 2 _ rfl
    have f2' : DataW.trod enc Try.prog w base sp hd n1 33 [.slice A n c] = some y2 := f2
    simp only [Prod.mk.injEq, List.map_cons, List.map_nil] at hx
    obtain ⟨rfl, _⟩ := hx
    rcases open_slice Try.underlying33 f2' with ⟨hv, _⟩ | ⟨a, len, cap, m, n', D, Pl, hv, _, hlc, hcm, hm, hy, hel⟩
    · simp only [List.cons.injEq, Value.slice.injEq, and_true] at hv
      simp only [T.args]
      omega
    · simp only [List.cons.injEq, Value.slice.injEq, and_true] at hv
      subst hy
      have hmem : (len + (m - len)) * 40 ∈ (DataW.agg [y0.1, y1.1, DataW.slice ((List.range len).map D) ((List.range (m - len)).map fun i => D (len + i))]).weights Try.prog 35 := by
        simp [DataW.weights, DataW.weightsEach, Try.underlying35, Try.underlying33, bytes_term]
      have := List.all_eq_true.1 hs _ (DataW.weights_mem_each ht hj _ hmem)
      have h2 : (2 : Nat) ^ 47 = 140737488355328 := by decide
      simp only [T.args]
      simp only [decide_eq_true_eq] at this
      omega
end Go.Proofs.Ytmggccgjhjknpaa
