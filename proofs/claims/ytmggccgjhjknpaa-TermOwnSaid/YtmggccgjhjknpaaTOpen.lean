/-
  A term that can be read as data is a term in memory.
-/
import Derived.Test.YtmggccgjhjknpaaOpen
import Derived.Test.YtmggccgjhjknpaaTMem
namespace Go.Proofs.Ytmggccgjhjknpaa
open Go.RowKit Go.ChangeShapes Go.WideShapes Go.ChangeAt Go.Deep

theorem cells_term : Try.prog.cellsOf 35 = 3 := by kernel_rfl
instance : Inhabited T := ⟨.mk 0 0 []⟩

/-- Terms that lie one behind another. -/
theorem row_of {w : World} {P : Nat → Prop} {a : Addr} {f : Nat → T × Value} : ∀ (n : Nat), (∀ i, i < n → (f i).1.In w P (f i).2 ∧ w.cell? (a.add (i * 3)) = some (.int .i64 (f i).1.kind) ∧ w.cell? (a.add (i * 3 + 1)) = some (.int .i64 (f i).1.num) ∧ w.cell? (a.add (i * 3 + 2)) = some (f i).2) →
    ∃ us : List Value, us.length = n * 3 ∧ T.Row w P ((List.range n).map fun i => (f i).1) us ∧ ∀ j u, us[j]? = some u → w.cell? (a.add j) = some u
  | 0, _ => ⟨[], rfl, by simp [T.Row], by simp⟩
  | n + 1, h => by
    obtain ⟨us, hl, hr, hc⟩ := row_of n (fun i hi => h i (by omega))
    obtain ⟨h1, h2, h3, h4⟩ := h n (by omega)
    refine ⟨us ++ [.int .i64 (f n).1.kind, .int .i64 (f n).1.num, (f n).2], by simp [hl]; omega, ?_, fun j u hj => ?_⟩
    · rw [List.range_succ, List.map_append]
      exact hr.snoc h1
    · rcases Nat.lt_or_ge j us.length with hlt | hge
      · rw [List.getElem?_append_left hlt] at hj
        exact hc j u hj
      · rw [List.getElem?_append_right hge] at hj
        obtain ⟨r, rfl⟩ : ∃ r, j = us.length + r := ⟨j - us.length, by omega⟩
        rw [hl] at hj ⊢
        rw [Nat.add_sub_cancel_left] at hj
        match r, hj with
        | 0, hj => simp at hj; subst hj; exact h2
        | 1, hj => simp at hj; subst hj; exact h3
        | 2, hj => simp at hj; subst hj; exact h4

section
variable {H : Type} {enc : TypeId × Value → H} {w : World} {base : Nat} {sp : Nat → Bool} {hd : Bool}
set_option maxRecDepth 100000 in
/-- A list of terms, where each shorter reading is a term. -/
theorem open_terms_of {k : Nat} (ih : ∀ (d : DataW H), SizeOf.sizeOf d ≤ k → ∀ (fuel : Nat) (cs : List Value) (ps : List MemPlace), DataW.trod enc Try.prog w base sp hd fuel 35 cs = some (d, ps) →
    ∃ (s : T) (v : Value), cs = [.int .i64 s.kind, .int .i64 s.num, v] ∧ s.In w (fun b => b < w.heap.size) v) (d : DataW H) (hk : SizeOf.sizeOf d ≤ k + 1) (fuel : Nat) (cs : List Value) (ps : List MemPlace)
    (h : DataW.trod enc Try.prog w base sp hd fuel 33 cs = some (d, ps)) : ∃ (l : List T) (v : Value), cs = [v] ∧ T.InL w (fun b => b < w.heap.size) l v := by
  rcases open_slice Try.underlying33 h with ⟨hv, _⟩ | ⟨a, len, cap, m, n', D, Pl, hv, _, hlc, hcm, hm, hy, hel⟩
  · subst hv
    exact ⟨[], _, rfl, T.In.mk_ rfl (Nat.le_refl _) (by omega) (.inl rfl) (by simp [T.Row])⟩
  · have hlm : len ≤ m := by rw [hm]; split <;> omega
    simp only [Prod.mk.injEq] at hy
    obtain ⟨rfl, rfl⟩ := hy
    have hsz : ∀ i, i < len → SizeOf.sizeOf (D i) ≤ k := by
      intro i hi
      have h1 : D i ∈ (List.range len).map D := List.mem_map.2 ⟨i, List.mem_range.2 hi, rfl⟩
      have h2 := List.sizeOf_lt_of_mem h1
      simp at hk
      omega
    obtain ⟨f, hf⟩ := choose_lt (α := T × Value) (n := len) (p := fun i s => s.1.In w (fun b => b < w.heap.size) s.2 ∧ w.cell? (a.add (i * 3)) = some (.int .i64 s.1.kind) ∧ w.cell? (a.add (i * 3 + 1)) = some (.int .i64 s.1.num) ∧ w.cell? (a.add (i * 3 + 2)) = some s.2) (fun i hi => by
      obtain ⟨cs', hc, ht⟩ := hel i (by omega)
      rw [cells_term] at hc
      obtain ⟨s, v, rfl, hin⟩ := ih (D i) (hsz i hi) n' cs' (Pl i) ht
      obtain ⟨_, _, hat⟩ := World.cells?_some hc
      have c0 := hat 0 (by omega)
      have c1 := hat 1 (by omega)
      have c2 := hat 2 (by omega)
      rw [add_add] at c0 c1 c2
      exact ⟨(s, v), hin, c0, c1, c2⟩)
    obtain ⟨us, hul, hrow, hcell⟩ := row_of len hf
    subst hv
    refine ⟨_, _, rfl, T.In.mk_ (us := us) (by simp) hlc (by simpa [maxLen] using hcm) ?_ hrow⟩
    rcases Nat.eq_zero_or_pos len with h0 | h0
    · left
      exact List.length_eq_zero_iff.1 (by rw [hul, h0])
    · right
      refine ⟨a, rfl, ?_, hcell⟩
      have hlt := World.block_lt_of_cell? w _ (hf 0 h0).2.1
      rwa [block_of_add] at hlt
set_option maxRecDepth 100000 in
theorem open_term_at : ∀ (k : Nat) (d : DataW H), SizeOf.sizeOf d ≤ k → ∀ (fuel : Nat) (cs : List Value) (ps : List MemPlace), DataW.trod enc Try.prog w base sp hd fuel 35 cs = some (d, ps) →
    ∃ (s : T) (v : Value), cs = [.int .i64 s.kind, .int .i64 s.num, v] ∧ s.In w (fun b => b < w.heap.size) v := by
  intro k
  induction k with
  | zero => intro d hd'; cases d <;> simp at hd'
  | succ k ih =>
    intro d hk fuel cs ps h
    obtain ⟨xs, n, _, hx, hl, hlen, hf⟩ := DataW.trod_struct Try.underlying35 h
    rw [cells_term] at hl
    match cs, hl, xs, hlen with
    | [a, b, c], _, [y0, y1, y2], _ =>
      have f0 := hf 0 _ rfl
      have f1 := hf 1 _ rfl
      have f2 := hf 2 _ rfl
      have f0' : DataW.trod enc Try.prog w base sp hd n 3 [a] = some y0 := f0
      have f1' : DataW.trod enc Try.prog w base sp hd n 3 [b] = some y1 := f1
      have f2' : DataW.trod enc Try.prog w base sp hd n 33 [c] = some y2 := f2
      obtain ⟨i, hi, _⟩ := DataW.trod_int Try.underlying3 f0'
      obtain ⟨j, hj, _⟩ := DataW.trod_int Try.underlying3 f1'
      simp only [Prod.mk.injEq, List.map_cons, List.map_nil] at hx
      obtain ⟨rfl, _⟩ := hx
      have hk2 : SizeOf.sizeOf y2.1 ≤ k + 1 := by simp at hk; omega
      obtain ⟨l, v, hv, hin⟩ := open_terms_of ih y2.1 hk2 n [c] y2.2 f2'
      simp only [List.cons.injEq, and_true] at hi hj hv
      subst hi hj hv
      exact ⟨.mk i j l, c, rfl, T.InL.to hin⟩

set_option maxRecDepth 100000 in
theorem open_term {v : Value} {d : DataW H} {ps : List MemPlace} (hok : ∃ cs, v = .agg cs) (h : DataW.Trod enc Try.prog w base sp hd 35 v d ps) :
    ∃ (s : T) (u : Value), v = .agg #[.int .i64 s.kind, .int .i64 s.num, u] ∧ s.In w (fun b => b < w.heap.size) u := by
  obtain ⟨cs, rfl⟩ := hok
  obtain ⟨fuel, hf⟩ := h
  obtain ⟨s, u, hcs, hin⟩ := open_term_at _ d (Nat.le_refl _) fuel _ ps hf
  refine ⟨s, u, ?_, hin⟩
  congr 1
  apply Array.toList_inj.1
  simpa [Value.cells] using hcs
end
end Go.Proofs.Ytmggccgjhjknpaa
