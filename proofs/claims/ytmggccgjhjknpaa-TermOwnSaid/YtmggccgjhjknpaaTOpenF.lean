/-
  A term that can be read as data has kinds and numbers of 64 bits.
-/
import Derived.Test.YtmggccgjhjknpaaTOpen
namespace Go.Proofs.Ytmggccgjhjknpaa
open Go.RowKit Go.ChangeShapes Go.WideShapes Go.ChangeAt Go.Deep

mutual
def T.wf : T → Prop
  | .mk k n l => ((Lit.int .i64 k).wf = true ∧ (Lit.int .i64 n).wf = true) ∧ T.wfL l
def T.wfL : List T → Prop
  | [] => True
  | x :: r => x.wf ∧ T.wfL r
end
theorem T.wfL_mem : ∀ {l : List T}, T.wfL l ↔ ∀ x ∈ l, x.wf
  | [] => by simp [T.wfL]
  | a :: r => by simp [T.wfL, T.wfL_mem (l := r)]
theorem T.wfL_at {l : List T} (h : T.wfL l) {k : Nat} {x : T} (hx : l[k]? = some x) : x.wf := T.wfL_mem.1 h x (List.mem_of_getElem? hx)
theorem T.wf_num {t : T} (h : t.wf) : (Lit.int .i64 t.num).wf = true := by cases t; simp only [T.wf] at h; exact h.1.2

section
variable {H : Type} {enc : TypeId × Value → H} {w : World} {base : Nat} {sp : Nat → Bool} {hd : Bool}
set_option maxRecDepth 100000 in
/-- What is read as a term is of 64 bits, whatever plain term it is. -/
theorem wf_at : ∀ (k : Nat) (d : DataW H), SizeOf.sizeOf d ≤ k → ∀ (fuel : Nat) (s : T) (v : Value) (Q : Nat → Prop) (ps : List MemPlace), DataW.trod enc Try.prog w base sp hd fuel 35 [.int .i64 s.kind, .int .i64 s.num, v] = some (d, ps) → s.In w Q v → s.wf := by
  intro k
  induction k with
  | zero => intro d hd'; cases d <;> simp at hd'
  | succ k ih =>
    intro d hk fuel s v Q ps h hin
    obtain ⟨kd, nm, l⟩ := s
    obtain ⟨xs, n, _, hx, hl, hlen, hf⟩ := DataW.trod_struct Try.underlying35 h
    match xs, hlen with
    | [y0, y1, y2], _ =>
      have f0 := hf 0 _ rfl
      have f1 := hf 1 _ rfl
      have f2 := hf 2 _ rfl
      have f0' : DataW.trod enc Try.prog w base sp hd n 3 [.int .i64 kd] = some y0 := f0
      have f1' : DataW.trod enc Try.prog w base sp hd n 3 [.int .i64 nm] = some y1 := f1
      have f2' : DataW.trod enc Try.prog w base sp hd n 33 [v] = some y2 := f2
      obtain ⟨i, hi, _, wi⟩ := DataW.trod_int Try.underlying3 f0'
      obtain ⟨j, hj, _, wj⟩ := DataW.trod_int Try.underlying3 f1'
      simp only [List.cons.injEq, Value.int.injEq, true_and, and_true] at hi hj
      subst hi hj
      simp only [Prod.mk.injEq, List.map_cons, List.map_nil] at hx
      obtain ⟨rfl, _⟩ := hx
      have hk2 : SizeOf.sizeOf y2.1 ≤ k + 1 := by simp at hk; omega
      refine ⟨⟨wi, wj⟩, T.wfL_mem.2 (fun x hx => ?_)⟩
      obtain ⟨j, hj⟩ := List.getElem?_of_mem hx
      simp only [T.In] at hin
      obtain ⟨A, m, c, us, rfl, hlm, hnc, hc, hrd, hrow⟩ := hin
      obtain ⟨ad, u, rfl, hP, hel, hinx⟩ := T.In.el hrd hrow hj
      have hjl : j < l.length := (List.getElem?_eq_some_iff.1 hj).1
      rcases open_slice Try.underlying33 f2' with ⟨hv, _⟩ | ⟨a, len, cap, m', n', D, Pl, hv, _, hlc, hcm, hm', hy, hel'⟩
      · simp at hv
      · have hlm' : len ≤ m' := by rw [hm']; split <;> omega
        simp only [List.cons.injEq, Value.slice.injEq, and_true, Option.some.injEq] at hv
        obtain ⟨rfl, rfl, rfl⟩ := hv
        subst hy
        obtain ⟨cs', hcs, ht⟩ := hel' j (by omega)
        rw [cells_term] at hcs
        obtain ⟨_, hl3, hat⟩ := World.cells?_some hcs
        have hsz : SizeOf.sizeOf (D j) ≤ k := by
          have h1 : D j ∈ (List.range m).map D := List.mem_map.2 ⟨j, List.mem_range.2 (by omega), rfl⟩
          have h2 := List.sizeOf_lt_of_mem h1
          simp at hk2
          omega
        have c0 := hat 0 (by omega)
        have c1 := hat 1 (by omega)
        have c2 := hat 2 (by omega)
        rw [add_add] at c0 c1 c2
        match cs', hl3 with
        | [q0, q1, q2], _ =>
          obtain ⟨e0, e1, e2⟩ := hel
          rw [← add_one_more ad (j * 3) 0] at e1
          rw [← add_one_more ad (j * 3) 1] at e2
          simp only [Nat.zero_add] at e1 e2
          have d0 : q0 = .int .i64 x.kind := by have := c0.symm.trans e0; simpa using this
          have d1 : q1 = .int .i64 x.num := by have := c1.symm.trans e1; simpa using this
          have d2 : q2 = u := by have := c2.symm.trans e2; simpa using this
          subst d0 d1 d2
          exact ih (D j) hsz n' x _ Q _ ht hinx
set_option maxRecDepth 100000 in
theorem term_wf {s : T} {u : Value} {d : DataW H} {ps : List MemPlace} (h : DataW.Trod enc Try.prog w base sp hd 35 (.agg #[.int .i64 s.kind, .int .i64 s.num, u]) d ps) {Q : Nat → Prop} (hin : s.In w Q u) : s.wf := by
  obtain ⟨fuel, hf⟩ := h
  exact wf_at _ d (Nat.le_refl _) fuel s u Q ps (by simpa [Value.cells] using hf) hin
end
end Go.Proofs.Ytmggccgjhjknpaa
