/-
  A place that can be read as data is a place in memory.
-/
import Derived.Test.YtmggccgjhjknpaaTOpen
import Derived.Test.YtmggccgjhjknpaaChecks
namespace Go.Proofs.Ytmggccgjhjknpaa
open Go.RowKit Go.ChangeShapes Go.WideShapes Go.ChangeAt Go.Deep

theorem cells_symbol : Try.prog.cellsOf 66 = 2 := by kernel_rfl
theorem cells_place : Try.prog.cellsOf 25 = 3 := by kernel_rfl
instance : Inhabited Sy := ⟨⟨⟨#[]⟩, 0⟩⟩
theorem syCells_snoc (x : Sy) : ∀ l : List Sy, syCells (l ++ [x]) = syCells l ++ [.string x.name, .int .i64 x.rank]
  | [] => rfl
  | y :: r => by simp [syCells, syCells_snoc x r]
theorem syCells_length : ∀ l : List Sy, (syCells l).length = l.length * 2
  | [] => rfl
  | y :: r => by simp [syCells, syCells_length r]; omega
/-- Symbols that lie one behind another. -/
theorem syms_of {w : World} {a : Addr} {f : Nat → Sy} : ∀ (n : Nat), (∀ i, i < n → w.cell? (a.add (i * 2)) = some (.string (f i).name) ∧ w.cell? (a.add (i * 2 + 1)) = some (.int .i64 (f i).rank)) →
    ∀ j u, (syCells ((List.range n).map f))[j]? = some u → w.cell? (a.add j) = some u
  | 0, _ => by simp [syCells]
  | n + 1, h => by
    have hc := syms_of (f := f) n (fun i hi => h i (by omega))
    obtain ⟨h1, h2⟩ := h n (by omega)
    intro j u hj
    rw [List.range_succ, List.map_append, List.map_cons, List.map_nil, syCells_snoc] at hj
    have hl : (syCells ((List.range n).map f)).length = n * 2 := by rw [syCells_length]; simp
    rcases Nat.lt_or_ge j (n * 2) with hlt | hge
    · rw [List.getElem?_append_left (by omega)] at hj
      exact hc j u hj
    · rw [List.getElem?_append_right (by omega), hl] at hj
      obtain ⟨r, rfl⟩ : ∃ r, j = n * 2 + r := ⟨j - n * 2, by omega⟩
      rw [Nat.add_sub_cancel_left] at hj
      match r, hj with
      | 0, hj => simp at hj; subst hj; exact h1
      | 1, hj => simp at hj; subst hj; exact h2

section
variable {H : Type} {enc : TypeId × Value → H} {w : World} {base : Nat} {sp : Nat → Bool} {hd : Bool}
set_option maxRecDepth 100000 in
theorem open_symbol (d : DataW H) (fuel : Nat) (cs : List Value) (ps : List MemPlace) (h : DataW.trod enc Try.prog w base sp hd fuel 66 cs = some (d, ps)) :
    ∃ x : Sy, cs = [.string x.name, .int .i64 x.rank] ∧ x.name.size ≤ maxLen := by
  obtain ⟨xs, n, _, hx, hl, hlen, hf⟩ := DataW.trod_struct Try.underlying66 h
  rw [cells_symbol] at hl
  match cs, hl, xs, hlen with
  | [a, b], _, [y0, y1], _ =>
    have f0 := hf 0 _ rfl
    have f1 := hf 1 _ rfl
    have f0' : DataW.trod enc Try.prog w base sp hd n 9 [a] = some y0 := f0
    have f1' : DataW.trod enc Try.prog w base sp hd n 3 [b] = some y1 := f1
    obtain ⟨s, hs, _, hz⟩ := DataW.trod_string Try.underlying9 f0'
    obtain ⟨j, hj, _⟩ := DataW.trod_int Try.underlying3 f1'
    simp only [List.cons.injEq, and_true] at hs hj
    subst hs hj
    exact ⟨⟨s, j⟩, rfl, hz⟩
set_option maxRecDepth 100000 in
theorem open_symbols (d : DataW H) (fuel : Nat) (cs : List Value) (ps : List MemPlace) (h : DataW.trod enc Try.prog w base sp hd fuel 22 cs = some (d, ps)) :
    ∃ (l : List Sy) (v : Value), cs = [v] ∧ SyIn w (fun b => b < w.heap.size) l v := by
  rcases open_slice Try.underlying22 h with ⟨hv, _⟩ | ⟨a, len, cap, m, n', D, Pl, hv, _, hlc, hcm, hm, hy, hel⟩
  · subst hv
    exact ⟨[], _, rfl, _, _, _, rfl, rfl, Nat.le_refl _, by omega, .inl rfl, by simp⟩
  · have hlm : len ≤ m := by rw [hm]; split <;> omega
    obtain ⟨f, hf⟩ := choose_lt (α := Sy) (n := len) (p := fun i s => (w.cell? (a.add (i * 2)) = some (.string s.name) ∧ w.cell? (a.add (i * 2 + 1)) = some (.int .i64 s.rank)) ∧ s.name.size ≤ maxLen) (fun i hi => by
      obtain ⟨cs', hc, ht⟩ := hel i (by omega)
      rw [cells_symbol] at hc
      obtain ⟨s, rfl, hz⟩ := open_symbol (D i) n' cs' (Pl i) ht
      obtain ⟨_, _, hat⟩ := World.cells?_some hc
      have c0 := hat 0 (by omega)
      have c1 := hat 1 (by omega)
      rw [add_add] at c0 c1
      exact ⟨s, ⟨c0, c1⟩, hz⟩)
    subst hv
    refine ⟨(List.range len).map f, _, rfl, _, _, _, rfl, by simp, hlc, by simpa [maxLen] using hcm, ?_, fun x hx => ?_⟩
    · rcases Nat.eq_zero_or_pos len with h0 | h0
      · left
        subst h0
        rfl
      · right
        refine ⟨a, rfl, ?_, syms_of len (fun i hi => (hf i hi).1)⟩
        have hlt := World.block_lt_of_cell? w _ (hf 0 h0).1.1
        rwa [block_of_add] at hlt
    · obtain ⟨i, hi, rfl⟩ := List.mem_map.1 hx
      exact (hf i (List.mem_range.1 hi)).2
set_option maxRecDepth 100000 in
theorem open_sorts (d : DataW H) (fuel : Nat) (v : Value) (ps : List MemPlace) (h : DataW.trod enc Try.prog w base sp hd fuel 23 [v] = some (d, ps)) :
    ∃ l : List S, (S.mk l).In w 0 w.heap.size v := by
  have h1 := trod_struct1_mk (cs := [v]) Try.underlying40 (by rw [cells_sort]; rfl) h
  obtain ⟨s, v', hv, hin⟩ := open_sort_at _ _ (Nat.le_refl _) _ _ _ h1
  simp only [List.cons.injEq, and_true] at hv
  subst hv
  exact ⟨s.args, by cases s; exact hin⟩
set_option maxRecDepth 100000 in
theorem open_place_at (d : DataW H) (fuel : Nat) (cs : List Value) (ps : List MemPlace) (h : DataW.trod enc Try.prog w base sp hd fuel 25 cs = some (d, ps)) :
    ∃ (p : Pl) (v0 v1 v2 : Value), cs = [v0, v1, v2] ∧ PlIn w 0 w.heap.size p v0 v1 v2 := by
  obtain ⟨xs, n, _, hx, hl, hlen, hff⟩ := DataW.trod_struct Try.underlying25 h
  rw [cells_place] at hl
  match cs, hl, xs, hlen with
  | [a, b, c], _, [y0, y1, y2], _ =>
    have f0 := hff 0 _ rfl
    have f1 := hff 1 _ rfl
    have f2 := hff 2 _ rfl
    have f0' : DataW.trod enc Try.prog w base sp hd n 22 [a] = some y0 := f0
    have f1' : DataW.trod enc Try.prog w base sp hd n 23 [b] = some y1 := f1
    have f2' : DataW.trod enc Try.prog w base sp hd n 23 [c] = some y2 := f2
    obtain ⟨ls, v0, hv0, hi0⟩ := open_symbols y0.1 n [a] y0.2 f0'
    obtain ⟨lf, hi1⟩ := open_sorts y1.1 n b y1.2 f1'
    obtain ⟨lp, hi2⟩ := open_sorts y2.1 n c y2.2 f2'
    simp only [List.cons.injEq, and_true] at hv0
    subst hv0
    exact ⟨⟨ls, lf, lp⟩, a, b, c, rfl, hi0, hi1, hi2⟩
theorem open_place {v : Value} {d : DataW H} {ps : List MemPlace} (hok : ∃ cs, v = .agg cs) (h : DataW.Trod enc Try.prog w base sp hd 25 v d ps) :
    ∃ (p : Pl) (v0 v1 v2 : Value), v = .agg #[v0, v1, v2] ∧ PlIn w 0 w.heap.size p v0 v1 v2 := by
  obtain ⟨cs, rfl⟩ := hok
  obtain ⟨fuel, hf⟩ := h
  obtain ⟨p, v0, v1, v2, hcs, hin⟩ := open_place_at d fuel _ ps hf
  refine ⟨p, v0, v1, v2, ?_, hin⟩
  congr 1
  apply Array.toList_inj.1
  simpa [Value.cells] using hcs
end
end Go.Proofs.Ytmggccgjhjknpaa
