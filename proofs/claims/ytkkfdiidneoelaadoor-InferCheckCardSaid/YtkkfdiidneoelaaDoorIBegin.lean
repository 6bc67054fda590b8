/-
  The nodes of heads: symbols and functions, one after another.
-/
import Derived.Test.YtkkfdiidneoelaaDoorISolve
namespace Go.Proofs.YtkkfdiidneoelaaDoor

/-- New nodes of a sort of k arguments: undetermined ones, or o. -/
structure FnExt (G G' : Gr) (free : Bool) (k top : Nat) : Prop where
  good : Good G'
  len : G.length ≤ G'.length
  lt : top < G'.length
  back : ∀ v, Sol G' v → Sol G v ∧ ∃ ds : List D, ds.length = k ∧ v top = chainD ds D.o ∧ (free = false → ∀ x ∈ ds, x = D.o)
  on : ∀ (v : Nat → D) (ds : List D), Sol G v → ds.length = k → (free = false → ∀ x ∈ ds, x = D.o) → (∀ x ∈ ds, x.fin) → ∃ v', On G G' v v' ∧ v' top = chainD ds D.o
theorem On.one {G : Gr} (hG : Good G) {d : Nd} {v : Nat → D} (hv : Sol G v) (z : D) (hz : d.says (fun y => if y = G.length then z else v y) G.length) (hf : (∀ x, x < G.length → (v x).fin) → z.fin) : On G (G ++ [d]) v (fun y => if y = G.length then z else v y) := by
  have q : ∀ y, y < G.length → (fun y => if y = G.length then z else v y) y = v y := fun y hy => if_neg (by omega)
  refine ⟨Sol.more.2 ⟨hv.congr hG q, hz⟩, q, fun hfi x hx => ?_⟩
  simp at hx
  show (if x = G.length then z else v x).fin
  rcases Nat.lt_or_ge x G.length with hlt | hge
  · rw [if_neg (by omega)]; exact hfi x hlt
  · rw [if_pos (by omega)]; exact hf hfi
theorem chain_fin {ds : List D} (h : ∀ x ∈ ds, x.fin) : (chainD ds D.o).fin := by
  induction ds with
  | nil => exact D.fin_o
  | cons a r ih => exact D.fin_arr (h a (by simp)) (ih fun x hx => h x (by simp [hx]))
theorem FnExt.start {G : Gr} (hG : Good G) (free : Bool) : FnExt G (G ++ [.tree]) free 0 G.length := by
  refine ⟨hG.more rfl (fun _ _ h => by cases h), by simp, by simp, fun v hv => ?_, fun v ds hv hl _ _ => ?_⟩
  · obtain ⟨h1, h2⟩ := Sol.more.1 hv
    exact ⟨h1, [], rfl, h2, fun _ x hx => by simp at hx⟩
  · have : ds = [] := List.eq_nil_of_length_eq_zero hl
    subst this
    exact ⟨_, On.one hG hv D.o (if_pos rfl) (fun _ => D.fin_o), if_pos rfl⟩
/-- The node of an argument. -/
def argNd (free : Bool) : Nd := if free = true then .open_ else .tree
theorem argNd_root (free : Bool) : (argNd free).root = true := by cases free <;> rfl
theorem FnExt.step {G G1 : Gr} {free : Bool} {k top : Nat} (h : FnExt G G1 free k top) : FnExt G ((G1 ++ [argNd free]) ++ [.arrow G1.length top]) free (k + 1) (G1.length + 1) := by
  have hl := h.len
  have hlt := h.lt
  have hg2 : Good (G1 ++ [argNd free]) := h.good.more (argNd_root free) (fun _ _ e => by cases free <;> cases e)
  refine ⟨hg2.more rfl (fun a b e => ?_), by simp; omega, by simp, fun v hv => ?_, fun v ds hv hds hfr hfi => ?_⟩
  · cases e; simp; omega
  · obtain ⟨h1, h2⟩ := Sol.more.1 hv
    obtain ⟨h3, h4⟩ := Sol.more.1 h1
    obtain ⟨h5, ds, e1, e2, e3⟩ := h.back v h3
    have h2' : v (G1.length + 1) = D.arr (v G1.length) (v top) := by simpa [Nd.says] using h2
    refine ⟨h5, v G1.length :: ds, by simp [e1], by rw [h2', e2]; rfl, fun hf x hx => ?_⟩
    rcases List.mem_cons.1 hx with rfl | hx
    · subst hf; exact h4
    · exact e3 hf x hx
  · cases ds with
    | nil => simp at hds
    | cons a t =>
      obtain ⟨v1, o1, e1⟩ := h.on v t hv (by simpa using hds) (fun hf x hx => hfr hf x (by simp [hx])) (fun x hx => hfi x (by simp [hx]))
      have o2 := On.one h.good (d := argNd free) o1.sol a (by
        cases free with
        | true => trivial
        | false => exact (if_pos rfl).trans (hfr rfl a (by simp))) (fun _ => hfi a (by simp))
      have e2 : (fun y => if y = G1.length then a else v1 y) top = chainD t D.o := (if_neg (by omega)).trans e1
      generalize hv2 : (fun y => if y = G1.length then a else v1 y) = v2 at *
      have e3 : v2 G1.length = a := by rw [← hv2]; exact if_pos rfl
      have hl2 : (G1 ++ [argNd free]).length = G1.length + 1 := by simp
      have o3 := On.one hg2 (d := .arrow G1.length top) o2.sol (D.arr a (chainD t D.o)) (by
        show (if _ then _ else _) = D.arr (if _ then _ else _) (if _ then _ else _)
        rw [if_pos rfl, hl2, if_neg (by omega), if_neg (by omega), e3, e2]) (fun _ => chain_fin (ds := a :: t) hfi)
      refine ⟨_, (o1.trans hl (o2.trans (by simp) o3)), ?_⟩
      show (if _ then _ else _) = _
      rw [hl2, if_pos rfl]
      rfl
theorem getElem?_snoc {α : Type} {l : List α} {a b : α} {j : Nat} (h : (l ++ [a])[j]? = some b) : l[j]? = some b ∨ (j = l.length ∧ a = b) := by
  rcases Nat.lt_or_ge j l.length with hlt | hge
  · rw [List.getElem?_append_left hlt] at h
    exact .inl h
  · have h1 := (List.getElem?_eq_some_iff.1 h).1
    simp at h1
    have : j = l.length := by omega
    subst this
    simp at h
    exact .inr ⟨rfl, h⟩
theorem chain_rank (ds : List D) (h : ∀ x ∈ ds, x = D.o) : chainD ds D.o = (rankS ds.length).emb := by
  unfold rankS
  rw [emb_chain]
  congr 1
  induction ds with
  | nil => rfl
  | cons a r ih =>
    rw [List.length_cons, List.replicate_succ, List.map_cons, ← ih fun x hx => h x (by simp [hx]), h a (by simp)]
    simp [S.emb, S.embL]
theorem Begun.nil : Begun [] [] [] [] [] :=
  ⟨Good.nil, rfl, rfl, fun x h => by simp at h, fun x h => by simp at h, fun v _ j x r h => by simp at h, fun v _ j f l h => by simp at h,
    fun a _ _ => ⟨fun _ => D.o, Sol.nil, fun j f s h => by simp at h, fun x h => by simp at h⟩⟩
theorem Begun.sym {ls : List Lo} {rs fs ss : List Nat} {G G' : Gr} {r top : Nat} (h : Begun ls rs fs ss G) (e : FnExt G G' false r top) : Begun ls (rs ++ [r]) fs (ss ++ [top]) G' := by
  have hl := e.len
  refine ⟨e.good, h.lf, by simp [h.ls_], fun x hx => by have := h.ltf x hx; omega, fun x hx => ?_, fun v hv j x r' hx hr => ?_, fun v hv => h.funs v (e.back v hv).1, fun a h1 h2 => ?_⟩
  · simp at hx
    rcases hx with hx | rfl
    · have := h.lts x hx; omega
    · exact e.lt
  · obtain ⟨h1, ds, h2, h3, h4⟩ := e.back v hv
    rcases getElem?_snoc hx with hx | ⟨hj, rfl⟩
    · rcases getElem?_snoc hr with hr | ⟨hj2, rfl⟩
      · exact h.syms v h1 j x r' hx hr
      · have := (List.getElem?_eq_some_iff.1 hx).1
        have := h.ls_
        omega
    · rcases getElem?_snoc hr with hr | ⟨hj2, rfl⟩
      · have := (List.getElem?_eq_some_iff.1 hr).1
        have := h.ls_
        omega
      · rw [h3, chain_rank ds (h4 rfl), h2]
  · obtain ⟨v, g1, g2, g3⟩ := h.on a h1 h2
    obtain ⟨v', o, _⟩ := e.on v (List.replicate r D.o) g1 (by simp) (fun _ x hx => (List.mem_replicate.1 hx).2) (fun x hx => by rw [(List.mem_replicate.1 hx).2]; exact D.fin_o)
    exact ⟨v', o.sol, fun j f s hf hs => (o.old f (h.ltf f (List.mem_of_getElem? hf))).trans (g2 j f s hf hs), o.fin g3⟩
theorem Begun.fun_ {ls : List Lo} {rs fs ss : List Nat} {G G' : Gr} {l : Lo} {top : Nat} (h : Begun ls rs fs ss G) (e : FnExt G G' true l.1 top) : Begun (ls ++ [l]) rs (fs ++ [top]) ss G' := by
  have hl := e.len
  refine ⟨e.good, by simp [h.lf], h.ls_, fun x hx => ?_, fun x hx => by have := h.lts x hx; omega, fun v hv => h.syms v (e.back v hv).1, fun v hv j f l' hf hl' => ?_, fun a h1 h2 => ?_⟩
  · simp at hx
    rcases hx with hx | rfl
    · have := h.ltf x hx; omega
    · exact e.lt
  · obtain ⟨h1, ds, h2, h3, _⟩ := e.back v hv
    rcases getElem?_snoc hf with hf | ⟨hj, rfl⟩
    · rcases getElem?_snoc hl' with hl' | ⟨hj2, rfl⟩
      · exact h.funs v h1 j f l' hf hl'
      · have := (List.getElem?_eq_some_iff.1 hf).1
        have := h.lf
        omega
    · rcases getElem?_snoc hl' with hl' | ⟨hj2, rfl⟩
      · have := (List.getElem?_eq_some_iff.1 hl').1
        have := h.lf
        omega
      · exact ⟨ds, h2, h3⟩
  · have hal : a.length = ls.length + 1 := by simpa using h1
    have h0 : (a.take ls.length).length = ls.length := by simp; omega
    obtain ⟨v, g1, g2, g3⟩ := h.on (a.take ls.length) h0 (fun j s l' hs hl' => by
      have hj := (List.getElem?_eq_some_iff.1 hl').1
      rw [List.getElem?_take_of_lt hj] at hs
      exact h2 j s l' hs (by rw [List.getElem?_append_left hj]; exact hl'))
    have hlast : a[ls.length]? = some (a[ls.length]'(by omega)) := List.getElem?_eq_getElem _
    have hk := h2 ls.length _ l hlast (by simp)
    obtain ⟨v', o, e1⟩ := e.on v ((a[ls.length]'(by omega)).args.map S.emb) g1 (by simp [hk]) (fun h => by cases h) (fun x hx => by
      obtain ⟨s, _, rfl⟩ := List.mem_map.1 hx
      exact ⟨s, rfl⟩)
    refine ⟨v', o.sol, fun j f s hf hs => ?_, o.fin g3⟩
    rcases getElem?_snoc hf with hf | ⟨hj, rfl⟩
    · have hj : j < ls.length := by rw [← h.lf]; exact (List.getElem?_eq_some_iff.1 hf).1
      exact (o.old f (h.ltf f (List.mem_of_getElem? hf))).trans (g2 j f s hf (by rw [List.getElem?_take_of_lt hj]; exact hs))
    · rw [h.lf] at hj
      subst hj
      rw [hlast] at hs
      cases hs
      rw [e1, ← emb_chain, S.eta]
end Go.Proofs.YtkkfdiidneoelaaDoor
