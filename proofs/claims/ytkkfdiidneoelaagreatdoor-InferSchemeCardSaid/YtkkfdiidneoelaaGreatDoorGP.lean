/-
  Sorts as trees of arrows that may be endless, and their order: what inference of sorts is told by.
  What is known of sorts, as a graph of nodes, and what makes two nodes the same: no program is named here.
  What the search for sorts comes to: the smallest assignment, or that there is none.
  The nodes of heads: symbols and functions, one after another.
-/
import Derived.Test.YtkkfdiidneoelaaGreatDoorGJ
namespace Go.Proofs.YtkkfdiidneoelaaGreatDoor

/-- A tree of arrows, maybe endless: whether there is an arrow at the end of a path. -/
abbrev D := List Bool → Bool
def D.o : D := fun _ => false
def D.arr (a b : D) : D
  | [] => true
  | false :: q => a q
  | true :: q => b q
theorem D.arr_inj {a b c d : D} (h : D.arr a b = D.arr c d) : a = c ∧ b = d :=
  ⟨funext fun q => congrFun h (false :: q), funext fun q => congrFun h (true :: q)⟩
theorem D.arr_ne {a b : D} (h : D.arr a b = D.o) : False := by
  have := congrFun h []
  simp [D.arr, D.o] at this
mutual
/-- A sort as such a tree. -/
def S.emb : S → D
  | .mk l => S.embL l
def S.embL : List S → D
  | [] => D.o
  | s :: r => D.arr s.emb (S.embL r)
end
mutual
theorem S.emb_inj : ∀ {s t : S}, s.emb = t.emb → s = t
  | .mk l, .mk m, h => by simp only [S.emb] at h; rw [S.embL_inj h]
theorem S.embL_inj : ∀ {l m : List S}, S.embL l = S.embL m → l = m
  | [], [], _ => rfl
  | [], y :: q, h => by simp only [S.embL] at h; exact (D.arr_ne h.symm).elim
  | x :: r, [], h => by simp only [S.embL] at h; exact (D.arr_ne h).elim
  | x :: r, y :: q, h => by
    simp only [S.embL] at h
    obtain ⟨h1, h2⟩ := D.arr_inj h
    rw [S.emb_inj h1, S.embL_inj h2]
end
theorem S.emb_args (s : S) : s.emb = S.embL s.args := by cases s; rfl
theorem S.emb_o {s : S} (h : s.emb = D.o) : s = .mk [] := S.emb_inj (t := .mk []) (by rw [h]; simp [S.emb, S.embL])
theorem S.emb_arr {s : S} {a b : D} (h : s.emb = D.arr a b) : ∃ x r, s = .mk (x :: r) ∧ a = x.emb ∧ b = (S.mk r).emb := by
  obtain ⟨l⟩ := s
  cases l with
  | nil => simp only [S.emb, S.embL] at h; exact (D.arr_ne h.symm).elim
  | cons x r =>
    simp only [S.emb, S.embL] at h
    obtain ⟨h1, h2⟩ := D.arr_inj h
    exact ⟨x, r, rfl, h1.symm, by simp only [S.emb]; exact h2.symm⟩
/-- It is a sort's tree. -/
def D.fin (d : D) : Prop := ∃ s : S, d = s.emb
theorem D.fin_o : D.fin D.o := ⟨.mk [], by simp [S.emb, S.embL]⟩
theorem D.fin_arr {a b : D} (ha : a.fin) (hb : b.fin) : (D.arr a b).fin := by
  obtain ⟨s, rfl⟩ := ha
  obtain ⟨⟨l⟩, rfl⟩ := hb
  exact ⟨.mk (s :: l), by simp [S.emb, S.embL]⟩
theorem D.fin_parts {a b : D} (h : (D.arr a b).fin) : a.fin ∧ b.fin := by
  obtain ⟨s, hs⟩ := h
  obtain ⟨x, r, _, h1, h2⟩ := S.emb_arr hs.symm
  exact ⟨⟨x, h1⟩, ⟨_, h2⟩⟩
/-- A part of a tree, other than itself. -/
inductive D.Part : D → D → Prop where
  | left (a b : D) : D.Part a (D.arr a b)
  | right (a b : D) : D.Part b (D.arr a b)
  | left' {a b d : D} : D.Part d a → D.Part d (D.arr a b)
  | right' {a b d : D} : D.Part d b → D.Part d (D.arr a b)
theorem D.Part.trans {a b c : D} (h : D.Part a b) (k : D.Part b c) : D.Part a c := by
  induction k with
  | left _ _ => exact .left' h
  | right _ _ => exact .right' h
  | left' _ ih => exact .left' (ih h)
  | right' _ ih => exact .right' (ih h)
theorem D.Part.small {a b : D} (h : D.Part a b) : ∀ s : S, b = s.emb → ∃ t : S, a = t.emb ∧ t.count < s.count := by
  induction h with
  | left a b =>
    intro s hs
    obtain ⟨x, r, rfl, h1, h2⟩ := S.emb_arr hs.symm
    exact ⟨x, h1, by simp only [S.count, S.countL]; omega⟩
  | right a b =>
    intro s hs
    obtain ⟨x, r, rfl, h1, h2⟩ := S.emb_arr hs.symm
    exact ⟨.mk r, h2, by have := x.count_pos; simp only [S.count, S.countL]; omega⟩
  | left' _ ih =>
    intro s hs
    obtain ⟨x, r, rfl, h1, h2⟩ := S.emb_arr hs.symm
    obtain ⟨t, ht, hl⟩ := ih x h1
    exact ⟨t, ht, by simp only [S.count, S.countL]; omega⟩
  | right' _ ih =>
    intro s hs
    obtain ⟨x, r, rfl, h1, h2⟩ := S.emb_arr hs.symm
    obtain ⟨t, ht, hl⟩ := ih _ h2
    exact ⟨t, ht, by have := x.count_pos; simp only [S.count, S.countL] at hl ⊢; omega⟩
theorem D.Part.inf {a : D} (h : D.Part a a) : ¬ a.fin := by
  have key : ∀ n (s : S), s.count ≤ n → a = s.emb → False := by
    intro n
    induction n with
    | zero => intro s hs; have := s.count_pos; omega
    | succ n ih =>
      intro s hs ha
      obtain ⟨t, ht, hl⟩ := h.small s ha
      exact ih t (by omega) ht
  rintro ⟨s, hs⟩
  exact key s.count s (Nat.le_refl _) hs
theorem D.Part.fin {a b : D} (h : D.Part a b) (hb : b.fin) : a.fin := by
  obtain ⟨s, hs⟩ := hb
  obtain ⟨t, ht, _⟩ := h.small s hs
  exact ⟨t, ht⟩

/-- The first tree asks no more than the second one. -/
def D.le (a b : D) : Prop := ∀ p, a p = true → b p = true
theorem D.le_antisymm {a b : D} (h : a.le b) (k : b.le a) : a = b := funext fun p => by
  cases ha : a p with
  | true => exact (h p ha).symm
  | false =>
    cases hb : b p with
    | false => rfl
    | true => have := k p hb; rw [ha] at this; cases this
theorem D.le_arr {a b d : D} (h : (D.arr a b).le d) {c e : D} (hd : d = D.arr c e) : a.le c ∧ b.le e := by
  subst hd
  exact ⟨fun p hp => h (false :: p) hp, fun p hp => h (true :: p) hp⟩
mutual
theorem S.le_count : ∀ {s t : S}, s.emb.le t.emb → s.count ≤ t.count
  | .mk l, .mk m, h => by have := S.le_countL (l := l) (m := m) (by simpa only [S.emb] using h); simp only [S.count]; omega
theorem S.le_countL : ∀ {l m : List S}, (S.embL l).le (S.embL m) → S.countL l ≤ S.countL m
  | [], m, _ => by simp [S.countL]
  | x :: r, [], h => by
    have := h [] (by simp [S.embL, D.arr])
    simp [S.embL, D.o] at this
  | x :: r, y :: q, h => by
    simp only [S.embL] at h
    obtain ⟨h1, h2⟩ := D.le_arr h rfl
    have := S.le_count h1
    have := S.le_countL h2
    simp only [S.countL]; omega
end
mutual
theorem S.le_deep : ∀ {s t : S}, s.emb.le t.emb → s.deep ≤ t.deep
  | .mk l, .mk m, h => by have := S.le_deepL (l := l) (m := m) (by simpa only [S.emb] using h); simp only [S.deep]; omega
theorem S.le_deepL : ∀ {l m : List S}, (S.embL l).le (S.embL m) → S.deepL l ≤ S.deepL m
  | [], m, _ => by simp [S.deepL]
  | x :: r, [], h => by
    have := h [] (by simp [S.embL, D.arr])
    simp [S.embL, D.o] at this
  | x :: r, y :: q, h => by
    simp only [S.embL] at h
    obtain ⟨h1, h2⟩ := D.le_arr h rfl
    have := S.le_deep h1
    have := S.le_deepL h2
    simp only [S.deepL]; omega
end
mutual
theorem S.le_ord : ∀ {s t : S}, s.emb.le t.emb → s.ord ≤ t.ord
  | .mk l, .mk m, h => by have := S.le_ordL (l := l) (m := m) (by simpa only [S.emb] using h); simp only [S.ord]; omega
theorem S.le_ordL : ∀ {l m : List S}, (S.embL l).le (S.embL m) → S.ordL l ≤ S.ordL m
  | [], m, _ => by simp [S.ordL]
  | x :: r, [], h => by
    have := h [] (by simp [S.embL, D.arr])
    simp [S.embL, D.o] at this
  | x :: r, y :: q, h => by
    simp only [S.embL] at h
    obtain ⟨h1, h2⟩ := D.le_arr h rfl
    have := S.le_ord h1
    have := S.le_ordL h2
    simp only [S.ordL]; omega
end
theorem S.le_len : ∀ {l m : List S}, (S.embL l).le (S.embL m) → l.length ≤ m.length
  | [], m, _ => by simp
  | x :: r, [], h => by
    have := h [] (by simp [S.embL, D.arr])
    simp [S.embL, D.o] at this
  | x :: r, y :: q, h => by
    simp only [S.embL] at h
    have := S.le_len (D.le_arr h rfl).2
    simp; omega
mutual
theorem S.le_few : ∀ {s t : S}, s.emb.le t.emb → t.few = true → s.few = true
  | .mk l, .mk m, h, hf => by
    have h' : (S.embL l).le (S.embL m) := by simpa only [S.emb] using h
    have h1 := S.le_len h'
    simp only [S.few, Bool.and_eq_true, decide_eq_true_eq] at hf ⊢
    exact ⟨S.le_fewL h' hf.1, by omega⟩
theorem S.le_fewL : ∀ {l m : List S}, (S.embL l).le (S.embL m) → S.fewL m = true → S.fewL l = true
  | [], m, _, _ => by simp [S.fewL]
  | x :: r, [], h, _ => by
    have := h [] (by simp [S.embL, D.arr])
    simp [S.embL, D.o] at this
  | x :: r, y :: q, h, hf => by
    simp only [S.embL] at h
    obtain ⟨h1, h2⟩ := D.le_arr h rfl
    simp only [S.fewL, Bool.and_eq_true] at hf ⊢
    exact ⟨S.le_few h1 hf.1, S.le_fewL h2 hf.2⟩
end
theorem S.le_ok {s t : S} (h : s.emb.le t.emb) (ht : t.ok = true) : s.ok = true := by
  simp only [S.ok, Bool.and_eq_true, decide_eq_true_eq] at ht ⊢
  have := S.le_count h
  have := S.le_deep h
  exact ⟨⟨by omega, by omega⟩, S.le_few h ht.2⟩

/-- Arrows from some trees, in order, to another one. -/
def chainD : List D → D → D
  | [], d => d
  | a :: r, d => D.arr a (chainD r d)
theorem chainD_append (l m : List D) (d : D) : chainD (l ++ m) d = chainD l (chainD m d) := by
  induction l with
  | nil => rfl
  | cons a r ih => simp only [List.cons_append, chainD, ih]
theorem chainD_inj : ∀ {l m : List D} {d e : D}, l.length = m.length → chainD l d = chainD m e → l = m ∧ d = e
  | [], [], d, e, _, h => ⟨rfl, h⟩
  | [], y :: q, d, e, h, _ => by simp at h
  | x :: r, [], d, e, h, _ => by simp at h
  | x :: r, y :: q, d, e, hl, h => by
    simp only [chainD] at h
    obtain ⟨h1, h2⟩ := D.arr_inj h
    obtain ⟨h3, h4⟩ := chainD_inj (by simpa using hl) h2
    exact ⟨by rw [h1, h3], h4⟩
theorem chainD_len : ∀ {l m : List D}, chainD l D.o = chainD m D.o → l.length = m.length
  | [], [], _ => rfl
  | [], y :: q, h => (D.arr_ne h.symm).elim
  | x :: r, [], h => (D.arr_ne h).elim
  | x :: r, y :: q, h => by
    simp only [chainD] at h
    simp [chainD_len (D.arr_inj h).2]
theorem embL_chain (l : List S) : S.embL l = chainD (l.map S.emb) D.o := by
  induction l with
  | nil => rfl
  | cons a r ih => simp only [S.embL, List.map_cons, chainD, ih]
theorem emb_chain (l : List S) : (S.mk l).emb = chainD (l.map S.emb) D.o := by simp only [S.emb, embL_chain]
theorem chain_emb {ds : List D} {s : S} (h : chainD ds D.o = s.emb) : ds = s.args.map S.emb := by
  obtain ⟨l⟩ := s
  rw [emb_chain] at h
  exact (chainD_inj (chainD_len h) h).1

mutual
/-- A term has a tree, where its heads have some. -/
def T.has (hv : Int → Int → Option D) : T → D → Prop
  | .mk k n l, r => ∃ d, hv k n = some d ∧ T.hasL hv l d r
def T.hasL (hv : Int → Int → Option D) : List T → D → D → Prop
  | [], d, r => d = r
  | x :: xs, d, r => ∃ a b, x.has hv a ∧ d = D.arr a b ∧ T.hasL hv xs b r
end
theorem T.hasL_append {hv : Int → Int → Option D} : ∀ {l m : List T} {d r : D}, T.hasL hv (l ++ m) d r ↔ ∃ e, T.hasL hv l d e ∧ T.hasL hv m e r
  | [], m, d, r => by simp [T.hasL]
  | x :: xs, m, d, r => by
    simp only [List.cons_append, T.hasL, T.hasL_append (l := xs)]
    constructor
    · rintro ⟨a, b, h1, h2, e, h3, h4⟩
      exact ⟨e, ⟨a, b, h1, h2, h3⟩, h4⟩
    · rintro ⟨e, ⟨a, b, h1, h2, h3⟩, h4⟩
      exact ⟨a, b, h1, h2, e, h3, h4⟩
theorem T.hasL_one {hv : Int → Int → Option D} {x : T} {d r : D} : T.hasL hv [x] d r ↔ ∃ a, x.has hv a ∧ d = D.arr a r := by
  simp only [T.hasL]
  constructor
  · rintro ⟨a, b, h1, h2, rfl⟩; exact ⟨a, h1, h2⟩
  · rintro ⟨a, h1, h2⟩; exact ⟨a, r, h1, h2, rfl⟩
mutual
theorem T.has_ty {hv : Int → Int → Option D} {pick : Int → Int → Option S} (hp : ∀ k n, hv k n = (pick k n).map S.emb) : ∀ {t : T} {d : D}, t.has hv d ↔ ∃ s, t.ty pick = some s ∧ d = s.emb
  | .mk k n l, d => by
    simp only [T.has, T.ty, hp]
    cases pick k n with
    | none => simp
    | some s =>
      have hl := T.hasL_ty hp (l := l) (q := s.args) (r := d)
      simp only [Option.map_some, Option.some.injEq]
      constructor
      · rintro ⟨_, rfl, h⟩
        rw [S.emb_args] at h
        obtain ⟨h1, h2⟩ := hl.1 h
        exact ⟨_, if_pos h1, h2⟩
      · rintro ⟨y, h, rfl⟩
        cases ht : T.tyL pick l s.args with
        | false => rw [ht] at h; cases h
        | true =>
          rw [ht] at h
          cases h
          exact ⟨_, rfl, by rw [S.emb_args]; exact hl.2 ⟨ht, rfl⟩⟩
theorem T.hasL_ty {hv : Int → Int → Option D} {pick : Int → Int → Option S} (hp : ∀ k n, hv k n = (pick k n).map S.emb) : ∀ {l : List T} {q : List S} {r : D}, T.hasL hv l (S.embL q) r ↔ T.tyL pick l q = true ∧ r = (S.mk (q.drop l.length)).emb
  | [], q, r => by simp [T.hasL, T.tyL, S.emb, eq_comm]
  | x :: xs, [], r => by
    simp only [T.hasL, T.tyL, S.embL]
    constructor
    · rintro ⟨a, b, _, h, _⟩; exact (D.arr_ne h.symm).elim
    · rintro ⟨h, _⟩; cases h
  | x :: xs, a :: q, r => by
    simp only [T.hasL, T.tyL, S.embL, Bool.and_eq_true, List.length_cons, List.drop_succ_cons]
    constructor
    · rintro ⟨d, b, h1, h2, h3⟩
      obtain ⟨rfl, rfl⟩ := D.arr_inj h2
      obtain ⟨s, h4, h5⟩ := (T.has_ty hp).1 h1
      have := S.emb_inj h5
      subst this
      obtain ⟨h6, h7⟩ := (T.hasL_ty hp).1 h3
      exact ⟨⟨by rw [h4]; exact (S.eqb_iff _ _).2 rfl, h6⟩, h7⟩
    · rintro ⟨⟨h1, h2⟩, h3⟩
      cases hx : x.ty pick with
      | none => rw [hx] at h1; cases h1
      | some y =>
        rw [hx] at h1
        have : y = a := (S.eqb_iff _ _).1 h1
        subst this
        exact ⟨_, _, (T.has_ty hp).2 ⟨y, hx, rfl⟩, rfl, (T.hasL_ty hp).2 ⟨h2, h3⟩⟩
end
end Go.Proofs.YtkkfdiidneoelaaGreatDoor

namespace Go.Proofs.YtkkfdiidneoelaaGreatDoor

/-- A node: nothing is known; o; an arrow; the same as another one. -/
inductive Nd where
  | open_
  | tree
  | arrow (a b : Nat)
  | link (a : Nat)
def Nd.root : Nd → Bool
  | .link _ => false
  | _ => true
abbrev Gr := List Nd

/-- From a node on, so many steps along links, there is a root. -/
inductive Ends (G : Gr) : Nat → Nat → Nat → Prop where
  | here {x : Nat} {d : Nd} : G[x]? = some d → d.root = true → Ends G x x 0
  | step {x y r k : Nat} : G[x]? = some (.link y) → Ends G y r k → Ends G x r (k + 1)
theorem Ends.at_ {G : Gr} {x r k : Nat} (h : Ends G x r k) : ∃ d, G[r]? = some d ∧ d.root = true := by
  induction h with
  | here h1 h2 => exact ⟨_, h1, h2⟩
  | step _ _ ih => exact ih
theorem Ends.lt {G : Gr} {x r k : Nat} (h : Ends G x r k) : x < G.length ∧ r < G.length := by
  induction h with
  | here h1 _ => exact ⟨(List.getElem?_eq_some_iff.1 h1).1, (List.getElem?_eq_some_iff.1 h1).1⟩
  | step h1 _ ih => exact ⟨(List.getElem?_eq_some_iff.1 h1).1, ih.2⟩
theorem Ends.same {G : Gr} {x r k : Nat} (h : Ends G x r k) : ∀ {r' k' : Nat}, Ends G x r' k' → r = r' ∧ k = k' := by
  induction h with
  | here h1 h2 =>
    intro r' k' h'
    cases h' with
    | here _ _ => exact ⟨rfl, rfl⟩
    | step h3 _ => rw [h1] at h3; cases h3; cases h2
  | step h1 _ ih =>
    intro r' k' h'
    cases h' with
    | here h3 h4 => rw [h1] at h3; cases h3; cases h4
    | step h3 h4 =>
      rw [h1] at h3
      cases h3
      obtain ⟨e1, e2⟩ := ih h4
      exact ⟨e1, by omega⟩
theorem Ends.root_self {G : Gr} {x r k : Nat} (h : Ends G x r k) : Ends G r r 0 := by
  obtain ⟨d, h1, h2⟩ := h.at_
  exact .here h1 h2

/-- Each node has a root, and arrows are between nodes. -/
structure Good (G : Gr) : Prop where
  ends : ∀ x, x < G.length → ∃ r k, Ends G x r k
  arrow : ∀ (x a b : Nat), G[x]? = some (Nd.arrow a b) → a < G.length ∧ b < G.length
theorem Good.link {G : Gr} (h : Good G) {x y : Nat} (hx : G[x]? = some (.link y)) : y < G.length ∧ y ≠ x := by
  obtain ⟨r, k, hk⟩ := h.ends x (List.getElem?_eq_some_iff.1 hx).1
  cases hk with
  | here h1 h2 => rw [hx] at h1; cases h1; cases h2
  | step h1 h2 =>
    rw [hx] at h1
    cases h1
    refine ⟨h2.lt.1, ?_⟩
    rintro rfl
    have := h2.same (.step hx h2)
    omega
theorem Good.nil : Good [] := ⟨fun x h => by simp at h, fun x a b h => by simp at h⟩

/-- What a node asks of the trees of nodes. -/
def Nd.says (v : Nat → D) (x : Nat) : Nd → Prop
  | .open_ => True
  | .tree => v x = D.o
  | .arrow a b => v x = D.arr (v a) (v b)
  | .link y => v x = v y
/-- Trees of nodes that are as the graph says. -/
def Sol (G : Gr) (v : Nat → D) : Prop := ∀ (x : Nat) (d : Nd), G[x]? = some d → d.says v x
theorem Sol.ends {G : Gr} {v : Nat → D} (hv : Sol G v) {x r k : Nat} (h : Ends G x r k) : v x = v r := by
  induction h with
  | here _ _ => rfl
  | step h1 _ ih => exact (hv _ _ h1).trans ih
theorem Sol.nil {v : Nat → D} : Sol [] v := fun x d h => by simp at h

/-- The roots. -/
def roots (G : Gr) : Nat := G.countP Nd.root
theorem roots_set {G : Gr} : ∀ {x : Nat} {d e : Nd}, G[x]? = some d → roots (G.set x e) + (if d.root = true then 1 else 0) = roots G + (if e.root = true then 1 else 0) := by
  unfold roots
  induction G with
  | nil => intro x d e h; simp at h
  | cons a r ih =>
    intro x d e h
    cases x with
    | zero =>
      simp at h; subst h
      simp only [List.set_cons_zero, List.countP_cons]
      omega
    | succ x =>
      simp at h
      have := ih (e := e) h
      simp only [List.set_cons_succ, List.countP_cons]
      omega
theorem get_set {G : Gr} {x y : Nat} {d : Nd} : (G.set x d)[y]? = if x = y then (if y < G.length then some d else none) else G[y]? := by
  rw [List.getElem?_set]
  split
  · rename_i h; subst h; rfl
  · rfl
theorem get_set_ne {G : Gr} {x y : Nat} {d : Nd} (h : x ≠ y) : (G.set x d)[y]? = G[y]? := by rw [List.getElem?_set_ne h]
theorem get_set_eq {G : Gr} {x : Nat} {d e : Nd} (h : G[x]? = some e) : (G.set x d)[x]? = some d := by
  rw [List.getElem?_set_self (List.getElem?_eq_some_iff.1 h).1]

section
variable {G : Gr} {a b : Nat} {d e : Nd}
/-- A root becomes the same as another one. -/
theorem Ends.linked (ha : G[a]? = some d) (hd : d.root = true) (hb : G[b]? = some e) (he : e.root = true) (hab : a ≠ b) {x r k : Nat} (h : Ends G x r k) :
    ∃ k', Ends (G.set a (.link b)) x (if r = a then b else r) k' := by
  have hb' : Ends (G.set a (.link b)) b b 0 := .here (by rw [get_set_ne hab]; exact hb) he
  induction h with
  | @here x' d' h1 h2 =>
    by_cases hx : x' = a
    · subst hx
      rw [if_pos rfl]
      exact ⟨1, .step (get_set_eq ha) hb'⟩
    · rw [if_neg hx]
      exact ⟨0, .here (by rw [get_set_ne (Ne.symm hx)]; exact h1) h2⟩
  | @step x' y' r' k' h1 _ ih =>
    obtain ⟨k2, h2⟩ := ih
    have hx : x' ≠ a := by rintro rfl; rw [ha] at h1; cases h1; cases hd
    exact ⟨k2 + 1, .step (by rw [get_set_ne (Ne.symm hx)]; exact h1) h2⟩
theorem Good.linked (hg : Good G) (ha : G[a]? = some d) (hd : d.root = true) (hb : G[b]? = some e) (he : e.root = true) (hab : a ≠ b) : Good (G.set a (.link b)) := by
  refine ⟨fun x hx => ?_, fun x p q h => ?_⟩
  · obtain ⟨r, k, h⟩ := hg.ends x (by simpa using hx)
    obtain ⟨k', h'⟩ := Ends.linked ha hd hb he hab h
    exact ⟨_, _, h'⟩
  · rw [get_set] at h
    split at h
    · split at h <;> simp at h
    · simpa using hg.arrow x p q h
/-- A longer way to a root becomes shorter. -/
theorem Ends.short {x y z : Nat} (hx : G[x]? = some (.link y)) (hy : G[y]? = some (.link z)) : ∀ {k u r : Nat}, Ends G u r k → ∃ k', k' ≤ k ∧ Ends (G.set x (.link z)) u r k' := by
  intro k
  induction k using Nat.strongRecOn with
  | _ k ih =>
    intro u r h
    cases h with
    | here h1 h2 =>
      have hu : x ≠ u := by rintro rfl; rw [hx] at h1; cases h1; cases h2
      exact ⟨0, Nat.le_refl _, .here (by rw [get_set_ne hu]; exact h1) h2⟩
    | step h1 h2 =>
      rename_i y' k1
      by_cases hu : x = u
      · subst hu
        rw [hx] at h1
        cases h1
        cases h2 with
        | here h3 h4 => rw [hy] at h3; cases h3; cases h4
        | step h3 h4 =>
          rename_i z' k2
          rw [hy] at h3
          cases h3
          obtain ⟨k', hk', hh⟩ := ih k2 (by omega) h4
          exact ⟨k' + 1, by omega, .step (get_set_eq hx) hh⟩
      · obtain ⟨k', hk', hh⟩ := ih k1 (by omega) h2
        exact ⟨k' + 1, by omega, .step (by rw [get_set_ne hu]; exact h1) hh⟩
theorem Good.short {x y z : Nat} (hx : G[x]? = some (.link y)) (hy : G[y]? = some (.link z)) (hg : Good G) : Good (G.set x (.link z)) := by
  refine ⟨fun u hu => ?_, fun u p q h => ?_⟩
  · obtain ⟨r, k, h⟩ := hg.ends u (by simpa using hu)
    obtain ⟨k', _, h'⟩ := Ends.short hx hy h
    exact ⟨_, _, h'⟩
  · rw [get_set] at h
    split at h
    · split at h <;> simp at h
    · simpa using hg.arrow u p q h
theorem Sol.short {x y z : Nat} (hx : G[x]? = some (.link y)) (hy : G[y]? = some (.link z)) (hyx : y ≠ x) {v : Nat → D} : Sol (G.set x (.link z)) v ↔ Sol G v := by
  constructor
  · intro h u d hu
    by_cases hux : x = u
    · subst hux
      rw [hx] at hu
      cases hu
      have h1 : v x = v z := h x (.link z) (get_set_eq hx)
      have h2 : v y = v z := h y (.link z) (by rw [get_set_ne (Ne.symm hyx)]; exact hy)
      exact h1.trans h2.symm
    · exact h u d (by rw [get_set_ne hux]; exact hu)
  · intro h u d hu
    rw [get_set] at hu
    split at hu
    · rename_i hux
      subst hux
      split at hu
      · cases hu
        have h1 : v x = v y := h x (.link y) hx
        have h2 : v y = v z := h y (.link z) hy
        exact h1.trans h2
      · cases hu
    · exact h u d hu
/-- What becomes of the trees where a root becomes the same as another one. -/
theorem Sol.linked (ha : G[a]? = some d) {v : Nat → D} : Sol (G.set a (.link b)) v ∧ d.says v a ↔ Sol G v ∧ v a = v b := by
  constructor
  · rintro ⟨h, h'⟩
    refine ⟨fun u e hu => ?_, h a (.link b) (get_set_eq ha)⟩
    by_cases hua : a = u
    · subst hua
      rw [ha] at hu
      cases hu
      exact h'
    · exact h u e (by rw [get_set_ne hua]; exact hu)
  · rintro ⟨h, h'⟩
    refine ⟨fun u e hu => ?_, h a d ha⟩
    rw [get_set] at hu
    split at hu
    · rename_i hua
      subst hua
      split at hu
      · cases hu; exact h'
      · cases hu
    · exact h u e hu
end

/-- What making two nodes the same makes of a graph. -/
structure Joined (G G' : Gr) (g h : Nat) (ok : Bool) : Prop where
  good : Good G'
  len : G'.length = G.length
  roots : roots G' ≤ roots G
  yes : ok = true → ∀ v, Sol G' v ↔ Sol G v ∧ v g = v h
  no : ok = false → ∀ v, Sol G v → v g ≠ v h
/-- Nothing but shorter ways. -/
structure Alike (G G' : Gr) : Prop where
  good : Good G'
  len : G'.length = G.length
  roots : roots G' = roots G
  sol : ∀ v, Sol G' v ↔ Sol G v
  stays : ∀ (x : Nat) (d : Nd), G[x]? = some d → d.root = true → G'[x]? = some d
  back : ∀ (x : Nat) (d : Nd), G'[x]? = some d → d.root = true → G[x]? = some d
theorem Alike.refl {G : Gr} (h : Good G) : Alike G G := ⟨h, rfl, rfl, fun _ => Iff.rfl, fun _ _ h _ => h, fun _ _ h _ => h⟩
theorem Alike.trans {G G' G'' : Gr} (h : Alike G G') (k : Alike G' G'') : Alike G G'' :=
  ⟨k.good, k.len.trans h.len, k.roots.trans h.roots, fun v => (k.sol v).trans (h.sol v), fun x d h1 h2 => k.stays x d (h.stays x d h1 h2) h2, fun x d h1 h2 => h.back x d (k.back x d h1 h2) h2⟩
theorem Alike.short {G : Gr} {x y z : Nat} (hx : G[x]? = some (.link y)) (hy : G[y]? = some (.link z)) (hg : Good G) : Alike G (G.set x (.link z)) := by
  refine ⟨hg.short hx hy, by simp, ?_, fun v => Sol.short hx hy (hg.link hx).2, fun u d h1 h2 => ?_, fun u d h1 h2 => ?_⟩
  · have := roots_set (e := .link z) hx
    simpa [Nd.root] using this
  · have : x ≠ u := by rintro rfl; rw [hx] at h1; cases h1; cases h2
    rw [get_set_ne this]; exact h1
  · rw [get_set] at h1
    split at h1
    · split at h1
      · cases h1; cases h2
      · cases h1
    · exact h1

/-- A root that is open becomes the same as another root. -/
theorem Joined.open_ {G : Gr} {a b : Nat} {e : Nd} (hg : Good G) (ha : G[a]? = some .open_) (hb : G[b]? = some e) (he : e.root = true) (hab : a ≠ b) : Joined G (G.set a (.link b)) a b true := by
  refine ⟨hg.linked ha rfl hb he hab, by simp, ?_, fun _ v => ?_, fun h => by cases h⟩
  · have := roots_set (e := .link b) ha
    simp [Nd.root] at this
    omega
  · have := Sol.linked (b := b) ha (v := v)
    simpa [Nd.says] using this
theorem Joined.tree {G : Gr} {a b : Nat} (hg : Good G) (ha : G[a]? = some .tree) (hb : G[b]? = some .tree) (hab : a ≠ b) : Joined G (G.set a (.link b)) a b true := by
  refine ⟨hg.linked ha rfl hb rfl hab, by simp, ?_, fun _ v => ?_, fun h => by cases h⟩
  · have := roots_set (e := .link b) ha
    simp [Nd.root] at this
    omega
  · have := Sol.linked (b := b) ha (v := v)
    rw [← this]
    refine ⟨fun h => ⟨h, ?_⟩, fun h => h.1⟩
    have h1 : v a = v b := h a (.link b) (get_set_eq ha)
    have h2 : v b = D.o := h b .tree (by rw [get_set_ne hab]; exact hb)
    exact h1.trans h2
theorem Joined.swap {G G' : Gr} {g h : Nat} {ok : Bool} (j : Joined G G' g h ok) : Joined G G' h g ok :=
  ⟨j.good, j.len, j.roots, fun e v => by rw [j.yes e v]; exact and_congr_right fun _ => eq_comm, fun e v hv hh => j.no e v hv hh.symm⟩
theorem Joined.same {G : Gr} (hg : Good G) (g : Nat) : Joined G G g g true := ⟨hg, rfl, Nat.le_refl _, fun _ v => by simp, fun h => by cases h⟩
theorem Joined.differ1 {G : Gr} {a b p q : Nat} (hg : Good G) (ha : G[a]? = some .tree) (hb : G[b]? = some (.arrow p q)) : Joined G G a b false :=
  ⟨hg, rfl, Nat.le_refl _, (fun h => by cases h), fun _ v hv h => D.arr_ne ((hv b (.arrow p q) hb).symm.trans (h.symm.trans (hv a .tree ha)))⟩
/-- Both are arrows: what they are from, and to, becomes the same. -/
theorem Joined.arrows {G G1 G2 : Gr} {a b p q r s : Nat} {ok : Bool} (ha : G[a]? = some (.arrow p q)) (hb : G[b]? = some (.arrow r s)) (hab : a ≠ b)
    (h1 : Joined (G.set a (.link b)) G1 p r true) (h2 : Joined G1 G2 q s ok) : Joined G G2 a b ok := by
  have hr := roots_set (e := .link b) ha
  simp [Nd.root] at hr
  have hl1 := h1.len
  have hl2 := h2.len
  have hr1 := h1.roots
  have hr2 := h2.roots
  simp at hl1
  have key : ∀ v, Sol (G.set a (.link b)) v → v p = v r → v q = v s → v a = D.arr (v p) (v q) := by
    intro v hv e1 e2
    have g1 : v a = v b := hv a (.link b) (get_set_eq ha)
    have g2 : v b = D.arr (v r) (v s) := hv b (.arrow r s) (by rw [get_set_ne hab]; exact hb)
    rw [g1, g2, e1, e2]
  refine ⟨h2.good, by omega, by omega, fun e v => ?_, fun e v hv hh => ?_⟩
  · rw [h2.yes e v, h1.yes rfl v, ← Sol.linked ha]
    constructor
    · rintro ⟨⟨g1, g2⟩, g3⟩
      exact ⟨g1, key v g1 g2 g3⟩
    · rintro ⟨g1, g2⟩
      have g2' : v a = D.arr (v p) (v q) := g2
      have g3 : v a = v b := g1 a (.link b) (get_set_eq ha)
      have g4 : v b = D.arr (v r) (v s) := g1 b (.arrow r s) (by rw [get_set_ne hab]; exact hb)
      obtain ⟨e1, e2⟩ := D.arr_inj (g2'.symm.trans (g3.trans g4))
      exact ⟨⟨g1, e1⟩, e2⟩
  · have g := (Sol.linked (b := b) ha).2 ⟨hv, hh⟩
    have g3 : v a = D.arr (v p) (v q) := hv a (.arrow p q) ha
    have g4 : v b = D.arr (v r) (v s) := hv b (.arrow r s) hb
    obtain ⟨e1, e2⟩ := D.arr_inj (g3.symm.trans (hh.trans g4))
    exact h2.no e v ((h1.yes rfl v).2 ⟨g.1, e1⟩) e2
theorem Joined.arrowsNo {G G1 : Gr} {a b p q r s : Nat} (ha : G[a]? = some (.arrow p q)) (hb : G[b]? = some (.arrow r s)) 
    (h1 : Joined (G.set a (.link b)) G1 p r false) : Joined G G1 a b false := by
  have hr := roots_set (e := .link b) ha
  simp [Nd.root] at hr
  have hl1 := h1.len
  have hr1 := h1.roots
  simp at hl1
  refine ⟨h1.good, by omega, by omega, (fun h => by cases h), fun _ v hv hh => ?_⟩
  have g := (Sol.linked (b := b) ha).2 ⟨hv, hh⟩
  have g3 : v a = D.arr (v p) (v q) := hv a (.arrow p q) ha
  have g4 : v b = D.arr (v r) (v s) := hv b (.arrow r s) hb
  obtain ⟨e1, _⟩ := D.arr_inj (g3.symm.trans (hh.trans g4))
  exact h1.no rfl v g.1 e1
/-- The ways to the two roots, walked first, change nothing. -/
theorem Joined.ahead {G G1 G2 : Gr} {g h a b : Nat} {k l : Nat} {ok : Bool} (hs : Alike G G1) (hg : Ends G g a k) (hh : Ends G h b l) (j : Joined G1 G2 a b ok) : Joined G G2 g h ok := by
  have hl := hs.len
  have hr := hs.roots
  have hl2 := j.len
  have hr2 := j.roots
  refine ⟨j.good, by omega, by omega, fun e v => ?_, fun e v hv hh' => ?_⟩
  · rw [j.yes e v, hs.sol v]
    exact and_congr_right fun hv => by rw [hv.ends hg, hv.ends hh]
  · exact j.no e v ((hs.sol v).2 hv) (by rw [← hv.ends hg, ← hv.ends hh]; exact hh')

/-- New nodes. -/
theorem Ends.more {G M : Gr} {x r k : Nat} (h : Ends G x r k) : Ends (G ++ M) x r k := by
  induction h with
  | here h1 h2 => exact .here (by rw [List.getElem?_append_left (List.getElem?_eq_some_iff.1 h1).1]; exact h1) h2
  | step h1 _ ih => exact .step (by rw [List.getElem?_append_left (List.getElem?_eq_some_iff.1 h1).1]; exact h1) ih
theorem Good.more {G : Gr} (h : Good G) {d : Nd} (hd : d.root = true) (ha : ∀ a b, d = .arrow a b → a ≤ G.length ∧ b ≤ G.length) : Good (G ++ [d]) := by
  refine ⟨fun x hx => ?_, fun x a b hx => ?_⟩
  · simp at hx
    rcases Nat.lt_or_ge x G.length with hlt | hge
    · obtain ⟨r, k, hk⟩ := h.ends x hlt
      exact ⟨r, k, hk.more⟩
    · have : x = G.length := by omega
      subst this
      exact ⟨_, 0, .here (d := d) (by simp) hd⟩
  · simp only [List.length_append, List.length_cons, List.length_nil]
    rcases Nat.lt_or_ge x G.length with hlt | hge
    · rw [List.getElem?_append_left hlt] at hx
      have := h.arrow x a b hx
      omega
    · rw [List.getElem?_append_right hge] at hx
      have hx0 : x - G.length = 0 := by
        have := (List.getElem?_eq_some_iff.1 hx).1
        simp at this; omega
      rw [hx0] at hx
      simp at hx
      have := ha a b hx
      omega
theorem Sol.more {G : Gr} {d : Nd} {v : Nat → D} : Sol (G ++ [d]) v ↔ Sol G v ∧ d.says v G.length := by
  constructor
  · intro h
    exact ⟨fun x e hx => h x e (by rw [List.getElem?_append_left (List.getElem?_eq_some_iff.1 hx).1]; exact hx), h G.length d (by simp)⟩
  · rintro ⟨h1, h2⟩ x e hx
    rcases Nat.lt_or_ge x G.length with hlt | hge
    · rw [List.getElem?_append_left hlt] at hx
      exact h1 x e hx
    · rw [List.getElem?_append_right hge] at hx
      have hx0 : x - G.length = 0 := by
        have := (List.getElem?_eq_some_iff.1 hx).1
        simp at this; omega
      have hx1 : x = G.length := by omega
      subst hx1
      simp at hx
      subst hx
      exact h2
theorem Sol.congr {G : Gr} (hg : Good G) {v u : Nat → D} (h : ∀ x, x < G.length → u x = v x) (hv : Sol G v) : Sol G u := by
  intro x d hx
  have hl := (List.getElem?_eq_some_iff.1 hx).1
  have := hv x d hx
  cases d with
  | open_ => trivial
  | tree => exact (h x hl).trans this
  | arrow a b =>
    obtain ⟨h1, h2⟩ := hg.arrow x a b hx
    show u x = D.arr (u a) (u b)
    rw [h x hl, h a h1, h b h2]
    exact this
  | link y =>
    show u x = u y
    rw [h x hl, h y (hg.link hx).1]
    exact this

/-- The trees where what is not known is o. -/
structure Can (G : Gr) (v : Nat → D) : Prop where
  sol : Sol G v
  open_ : ∀ (x : Nat), G[x]? = some Nd.open_ → v x = D.o
theorem Can.alike {G G' : Gr} {v : Nat → D} (h : Can G v) (ha : Alike G G') : Can G' v :=
  ⟨(ha.sol v).2 h.sol, fun x hx => h.open_ x (ha.back x _ hx rfl)⟩
/-- Whether there is an arrow at the end of a path from a node. -/
def unfoldG (G : Gr) (root : Nat → Nat) : List Bool → Nat → Bool
  | [], x => match G[root x]? with
    | some (.arrow _ _) => true
    | _ => false
  | c :: q, x => match G[root x]? with
    | some (.arrow a b) => unfoldG G root q (match c with | true => b | false => a)
    | _ => false
theorem Can.exists {G : Gr} (hg : Good G) : ∃ v, Can G v := by
  have h : ∀ x : Nat, ∃ r : Nat, x < G.length → ∃ k, Ends G x r k := by
    intro x
    by_cases hx : x < G.length
    · obtain ⟨r, k, h⟩ := hg.ends x hx
      exact ⟨r, fun _ => ⟨k, h⟩⟩
    · exact ⟨0, fun h => absurd h hx⟩
  obtain ⟨root, hroot⟩ := Classical.axiomOfChoice h
  have hself : ∀ (x : Nat) (d : Nd), G[x]? = some d → d.root = true → root x = x := by
    intro x d hx hd
    obtain ⟨k, hk⟩ := hroot x (List.getElem?_eq_some_iff.1 hx).1
    exact (hk.same (.here hx hd)).1
  refine ⟨fun x p => unfoldG G root p x, fun x d hx => ?_, fun x hx => ?_⟩
  · cases d with
    | open_ => trivial
    | tree =>
      funext p
      have e := hself x _ hx rfl
      cases p <;> simp [unfoldG, e, hx, D.o]
    | arrow a b =>
      funext p
      have e := hself x _ hx rfl
      cases p with
      | nil => simp [unfoldG, e, hx, D.arr]
      | cons c q => cases c <;> simp [unfoldG, e, hx, D.arr]
    | link y =>
      obtain ⟨k, hk⟩ := hroot x (List.getElem?_eq_some_iff.1 hx).1
      obtain ⟨k2, hk2⟩ := hroot y (hg.link hx).1
      have e := (hk.same (.step hx hk2)).1
      funext p
      cases p <;> simp [unfoldG, e]
  · funext p
    have e := hself x _ hx rfl
    cases p <;> simp [unfoldG, e, hx, D.o]
theorem Can.le {G : Gr} {v u : Nat → D} (hg : Good G) (hv : Can G v) (hu : Sol G u) : ∀ (p : List Bool) (x : Nat), x < G.length → v x p = true → u x p = true := by
  intro p
  induction p with
  | nil =>
    intro x hx h
    obtain ⟨r, k, hk⟩ := hg.ends x hx
    rw [hv.sol.ends hk] at h
    rw [hu.ends hk]
    obtain ⟨d, h1, h2⟩ := hk.at_
    cases d with
    | open_ => rw [hv.open_ r h1] at h; cases h
    | tree => rw [show v r = D.o from hv.sol r _ h1] at h; cases h
    | arrow a b => rw [show u r = D.arr (u a) (u b) from hu r _ h1]; rfl
    | link y => cases h2
  | cons c q ih =>
    intro x hx h
    obtain ⟨r, k, hk⟩ := hg.ends x hx
    rw [hv.sol.ends hk] at h
    rw [hu.ends hk]
    obtain ⟨d, h1, h2⟩ := hk.at_
    cases d with
    | open_ => rw [hv.open_ r h1] at h; cases h
    | tree => rw [show v r = D.o from hv.sol r _ h1] at h; cases h
    | arrow a b =>
      obtain ⟨ha, hb⟩ := hg.arrow r a b h1
      rw [show u r = D.arr (u a) (u b) from hu r _ h1]
      rw [show v r = D.arr (v a) (v b) from hv.sol r _ h1] at h
      cases c with
      | false => exact ih a ha h
      | true => exact ih b hb h
    | link y => cases h2
theorem Can.root_o {G : Gr} {v : Nat → D} (hv : Can G v) {r : Nat} {d : Nd} (hd : G[r]? = some d) (hr : d.root = true) (h : v r = D.o) : d = .open_ ∨ d = .tree := by
  cases d with
  | open_ => exact .inl rfl
  | tree => exact .inr rfl
  | arrow a b => exact (D.arr_ne ((hv.sol r _ hd).symm.trans h)).elim
  | link y => cases hr
theorem Can.root_arr {G : Gr} {v : Nat → D} (hv : Can G v) {r : Nat} {d : Nd} {p q : D} (hd : G[r]? = some d) (hr : d.root = true) (h : v r = D.arr p q) : ∃ a b, d = .arrow a b ∧ v a = p ∧ v b = q := by
  cases d with
  | open_ => exact (D.arr_ne (h.symm.trans (hv.open_ r hd))).elim
  | tree => exact (D.arr_ne (h.symm.trans (hv.sol r _ hd))).elim
  | arrow a b =>
    obtain ⟨h1, h2⟩ := D.arr_inj ((hv.sol r _ hd).symm.trans h)
    exact ⟨a, b, rfl, h1, h2⟩
  | link y => cases hr
end Go.Proofs.YtkkfdiidneoelaaGreatDoor

namespace Go.Proofs.YtkkfdiidneoelaaGreatDoor

/-- One out of three lists, by kind and number. -/
def pickA {α : Type} (l0 l1 l2 : List α) (k n : Int) : Option α :=
  if n < 0 then none else if k = 0 then l0[n.toNat]? else if k = 1 then l1[n.toNat]? else if k = 2 then l2[n.toNat]? else none
theorem pickA_map {α β : Type} (f : α → β) (l0 l1 l2 : List α) (k n : Int) : pickA (l0.map f) (l1.map f) (l2.map f) k n = (pickA l0 l1 l2 k n).map f := by
  unfold pickA
  repeat' split
  all_goals simp
theorem pickA_H (l0 l1 l2 : List S) (k n : Int) : pickA l0 l1 l2 k n = pickH l0 l1 l2 k n := rfl
theorem pickA_mem {α : Type} {P : α → Prop} {l0 l1 l2 : List α} (h0 : ∀ x ∈ l0, P x) (h1 : ∀ x ∈ l1, P x) (h2 : ∀ x ∈ l2, P x) {k n : Int} {x : α} (h : pickA l0 l1 l2 k n = some x) : P x := by
  unfold pickA at h
  repeat' split at h
  · cases h
  · exact h0 x (List.mem_of_getElem? h)
  · exact h1 x (List.mem_of_getElem? h)
  · exact h2 x (List.mem_of_getElem? h)
  · cases h

/-- The trees of heads, by those of nodes. -/
def hvOf (hs : Int → Int → Option Nat) (v : Nat → D) (k n : Int) : Option D := (hs k n).map v
theorem hvOf_eq {hs : Int → Int → Option Nat} {v u : Nat → D} {m : Nat} (hm : ∀ k n x, hs k n = some x → x < m) (h : ∀ x, x < m → u x = v x) : hvOf hs u = hvOf hs v := by
  funext k n
  unfold hvOf
  cases hk : hs k n with
  | none => rfl
  | some x => simp [h x (hm k n x hk)]

/-- A graph goes on: what is new takes no trees away. -/
structure On (G G' : Gr) (v v' : Nat → D) : Prop where
  sol : Sol G' v'
  old : ∀ x, x < G.length → v' x = v x
  fin : (∀ x, x < G.length → (v x).fin) → ∀ x, x < G'.length → (v' x).fin
theorem On.refl {G : Gr} {v : Nat → D} (h : Sol G v) : On G G v v := ⟨h, fun _ _ => rfl, fun h => h⟩
theorem On.trans {G G1 G2 : Gr} {v v1 v2 : Nat → D} (hl : G.length ≤ G1.length) (h : On G G1 v v1) (k : On G1 G2 v1 v2) : On G G2 v v2 :=
  ⟨k.sol, fun x hx => (k.old x (by omega)).trans (h.old x hx), fun hf => k.fin (h.fin hf)⟩

/-- A term's node. -/
structure Typed (G G' : Gr) (hs : Int → Int → Option Nat) (t : T) (r : Nat) : Prop where
  good : Good G'
  len : G.length ≤ G'.length
  lt : r < G'.length
  back : ∀ v, Sol G' v → Sol G v ∧ t.has (hvOf hs v) (v r)
  on : ∀ v s, Sol G v → t.has (hvOf hs v) s → ∃ v', On G G' v v' ∧ v' r = s
/-- The node behind some arguments. -/
structure TypedL (G G' : Gr) (hs : Int → Int → Option Nat) (l : List T) (g r : Nat) : Prop where
  good : Good G'
  len : G.length ≤ G'.length
  lt : r < G'.length
  back : ∀ v, Sol G' v → Sol G v ∧ T.hasL (hvOf hs v) l (v g) (v r)
  on : ∀ v s, Sol G v → T.hasL (hvOf hs v) l (v g) s → ∃ v', On G G' v v' ∧ v' r = s
theorem TypedL.nil {G : Gr} (hg : Good G) {hs : Int → Int → Option Nat} {g : Nat} (h : g < G.length) : TypedL G G hs [] g g :=
  ⟨hg, Nat.le_refl _, h, fun _ hv => ⟨hv, rfl⟩, fun v _ hv hs => ⟨v, .refl hv, hs⟩⟩
theorem TypedL.typed {G G' : Gr} {hs : Int → Int → Option Nat} {k n : Int} {l : List T} {g r : Nat} (hk : hs k n = some g) (h : TypedL G G' hs l g r) : Typed G G' hs (.mk k n l) r := by
  refine ⟨h.good, h.len, h.lt, fun v hv => ⟨(h.back v hv).1, ?_⟩, fun v s hv ht => ?_⟩
  · simp only [T.has]
    exact ⟨v g, by simp [hvOf, hk], (h.back v hv).2⟩
  · simp only [T.has] at ht
    obtain ⟨d, h1, h2⟩ := ht
    simp [hvOf, hk] at h1
    subst h1
    exact h.on v s hv h2
/-- A term of no tree. -/
def NoTy (G : Gr) (hs : Int → Int → Option Nat) (t : T) : Prop := ∀ v s, Sol G v → ¬ t.has (hvOf hs v) s
def NoTyL (G : Gr) (hs : Int → Int → Option Nat) (l : List T) (g : Nat) : Prop := ∀ v s, Sol G v → ¬ T.hasL (hvOf hs v) l (v g) s
theorem NoTyL.no {G : Gr} {hs : Int → Int → Option Nat} {k n : Int} {l : List T} {g : Nat} (hk : hs k n = some g) (h : NoTyL G hs l g) : NoTy G hs (.mk k n l) := by
  intro v s hv ht
  simp only [T.has] at ht
  obtain ⟨d, h1, h2⟩ := ht
  simp [hvOf, hk] at h1
  subst h1
  exact h v s hv h2
section
variable {G G1 G2 G3 : Gr} {hs : Int → Int → Option Nat} {l : List T} {x : T} {g r a : Nat}
/-- The two nodes of an argument. -/
def withArg (G : Gr) (a : Nat) : Gr := (G ++ [.open_]) ++ [.arrow a G.length]
theorem withArg_len (G : Gr) (a : Nat) : (withArg G a).length = G.length + 2 := by simp [withArg]
theorem withArg_good (h : Good G) (ha : a < G.length) : Good (withArg G a) := by
  refine (h.more (d := .open_) rfl fun _ _ h => by cases h).more rfl fun p q h => ?_
  cases h
  simp
  omega
theorem withArg_sol {v : Nat → D} : Sol (withArg G a) v ↔ Sol G v ∧ v (G.length + 1) = D.arr (v a) (v G.length) := by
  unfold withArg
  rw [Sol.more, Sol.more]
  simp [Nd.says]
theorem TypedL.snoc (hm : ∀ k n x, hs k n = some x → x < G.length) (h : TypedL G G1 hs l g r) (hx : Typed G1 G2 hs x a) (j : Joined (withArg G2 a) G3 r (G2.length + 1) true) :
    TypedL G G3 hs (l ++ [x]) g G2.length := by
  have hl3 := j.len
  rw [withArg_len] at hl3
  have hl1 := h.len
  have hl2 := hx.len
  refine ⟨j.good, by omega, by omega, fun v hv => ?_, fun v s hv ht => ?_⟩
  · obtain ⟨h1, h2⟩ := (j.yes rfl v).1 hv
    obtain ⟨h3, h4⟩ := withArg_sol.1 h1
    obtain ⟨h5, h6⟩ := hx.back v h3
    obtain ⟨h7, h8⟩ := h.back v h5
    exact ⟨h7, T.hasL_append.2 ⟨_, h8, T.hasL_one.2 ⟨_, h6, h2.trans h4⟩⟩⟩
  · obtain ⟨e, h1, h2⟩ := T.hasL_append.1 ht
    obtain ⟨a', h3, rfl⟩ := T.hasL_one.1 h2
    obtain ⟨v1, o1, e1⟩ := h.on v _ hv h1
    rw [← hvOf_eq hm o1.old] at h3
    obtain ⟨v2, o2, e2⟩ := hx.on v1 a' o1.sol h3
    have hr : r < G2.length := by have := h.lt; omega
    have ha := hx.lt
    let v3 : Nat → D := fun y => if y = G2.length then s else if y = G2.length + 1 then D.arr a' s else v2 y
    have q : ∀ y, y < G2.length → v3 y = v2 y := fun y hy => by
      show (if y = G2.length then s else if y = G2.length + 1 then D.arr a' s else v2 y) = _
      rw [if_neg (by omega), if_neg (by omega)]
    have q1 : v3 G2.length = s := by show (if _ then _ else _) = _; rw [if_pos rfl]
    have q2 : v3 (G2.length + 1) = D.arr a' s := by show (if _ then _ else _) = _; rw [if_neg (by omega), if_pos rfl]
    have s3 : Sol (withArg G2 a) v3 := withArg_sol.2 ⟨o2.sol.congr hx.good q, by rw [q1, q2, q a ha, e2]⟩
    refine ⟨v3, ⟨(j.yes rfl v3).2 ⟨s3, ?_⟩, fun y hy => ?_, fun hf y hy => ?_⟩, q1⟩
    · rw [q r hr, q2, o2.old r h.lt, e1]
    · rw [q y (by omega), o2.old y (by omega), o1.old y hy]
    · have hf1 := o1.fin hf
      have hf2 := o2.fin hf1
      have hs := hf1 r h.lt
      rw [e1] at hs
      rcases Nat.lt_or_ge y G2.length with hlt | hge
      · rw [q y hlt]; exact hf2 y hlt
      · rcases Nat.eq_or_lt_of_le hge with rfl | hgt
        · rw [q1]; exact (D.fin_parts hs).2
        · have : y = G2.length + 1 := by omega
          subst this
          rw [q2]; exact hs
theorem NoTyL.arg (hm : ∀ k n x, hs k n = some x → x < G.length) (h : TypedL G G1 hs l g r) (hx : NoTy G1 hs x) (rest : List T) : NoTyL G hs (l ++ x :: rest) g := by
  intro v s hv ht
  obtain ⟨e, h1, h2⟩ := T.hasL_append.1 ht
  simp only [T.hasL] at h2
  obtain ⟨a', b', h3, rfl, _⟩ := h2
  obtain ⟨v1, o1, e1⟩ := h.on v _ hv h1
  rw [← hvOf_eq hm o1.old] at h3
  exact hx v1 a' o1.sol h3
theorem NoTyL.join (hm : ∀ k n x, hs k n = some x → x < G.length) (h : TypedL G G1 hs l g r) (hx : Typed G1 G2 hs x a) (j : Joined (withArg G2 a) G3 r (G2.length + 1) false) (rest : List T) :
    NoTyL G hs (l ++ x :: rest) g := by
  intro v s hv ht
  have hl1 := h.len
  have hl2 := hx.len
  obtain ⟨e, h1, h2⟩ := T.hasL_append.1 ht
  simp only [T.hasL] at h2
  obtain ⟨a', b', h3, rfl, _⟩ := h2
  obtain ⟨v1, o1, e1⟩ := h.on v _ hv h1
  rw [← hvOf_eq hm o1.old] at h3
  obtain ⟨v2, o2, e2⟩ := hx.on v1 a' o1.sol h3
  have hr : r < G2.length := by have := h.lt; omega
  have ha := hx.lt
  let v3 : Nat → D := fun y => if y = G2.length then b' else if y = G2.length + 1 then D.arr a' b' else v2 y
  have q : ∀ y, y < G2.length → v3 y = v2 y := fun y hy => by
    show (if y = G2.length then b' else if y = G2.length + 1 then D.arr a' b' else v2 y) = _
    rw [if_neg (by omega), if_neg (by omega)]
  have q1 : v3 G2.length = b' := by show (if _ then _ else _) = _; rw [if_pos rfl]
  have q2 : v3 (G2.length + 1) = D.arr a' b' := by show (if _ then _ else _) = _; rw [if_neg (by omega), if_pos rfl]
  have s3 : Sol (withArg G2 a) v3 := withArg_sol.2 ⟨o2.sol.congr hx.good q, by rw [q1, q2, q a ha, e2]⟩
  exact j.no rfl v3 s3 (by rw [q r hr, q2, o2.old r h.lt, e1])
end

/-- A function without a sort: how many parameters, and its body. -/
abbrev Lo := Nat × T
/-- An assignment. -/
def Asg (ls : List Lo) (rs : List Nat) (a : List S) : Prop :=
  a.length = ls.length ∧ ∀ (j : Nat) (l : Lo) (s : S), ls[j]? = some l → a[j]? = some s → s.args.length = l.1 ∧ l.2.ty (pickH s.args a (rs.map rankS)) = some (.mk [])
/-- The smallest assignment, or that there is none. -/
def Solves (ls : List Lo) (rs : List Nat) : Option (List S) → Prop
  | none => ∀ a, ¬ Asg ls rs a
  | some a => Asg ls rs a ∧ ∀ b, Asg ls rs b → ∀ (j : Nat) (s t : S), a[j]? = some s → b[j]? = some t → s.emb.le t.emb
theorem Solves.one {ls : List Lo} {rs : List Nat} {o p : Option (List S)} (ho : Solves ls rs o) (hp : Solves ls rs p) : o = p := by
  cases o with
  | none =>
    cases p with
    | none => rfl
    | some b => exact (ho b hp.1).elim
  | some a =>
    cases p with
    | none => exact (hp a ho.1).elim
    | some b =>
      congr 1
      refine List.ext_getElem? fun j => ?_
      have hl := ho.1.1
      have hl2 := hp.1.1
      rcases Nat.lt_or_ge j a.length with hlt | hge
      · have h1 : a[j]? = some a[j] := List.getElem?_eq_getElem hlt
        have h2 : b[j]? = some (b[j]'(by omega)) := List.getElem?_eq_getElem (by omega)
        rw [h1, h2]
        congr 1
        exact S.emb_inj (D.le_antisymm (ho.2 b hp.1 j _ _ h1 h2) (hp.2 a ho.1 j _ _ h2 h1))
      · rw [List.getElem?_eq_none hge, List.getElem?_eq_none (by omega)]

/-- The trees of a function and of what is in its body fit. -/
def BodyFits (fs ss : List Nat) (v : Nat → D) (f : Nat) (l : Lo) : Prop :=
  ∃ ds : List D, ds.length = l.1 ∧ v f = chainD ds D.o ∧ l.2.has (pickA ds (fs.map v) (ss.map v)) D.o
/-- The heads' nodes, ahead of the bodies. -/
structure Begun (ls : List Lo) (rs : List Nat) (fs ss : List Nat) (G : Gr) : Prop where
  good : Good G
  lf : fs.length = ls.length
  ls_ : ss.length = rs.length
  ltf : ∀ x ∈ fs, x < G.length
  lts : ∀ x ∈ ss, x < G.length
  syms : ∀ v, Sol G v → ∀ (j x r : Nat), ss[j]? = some x → rs[j]? = some r → v x = (rankS r).emb
  funs : ∀ v, Sol G v → ∀ (j f : Nat) (l : Lo), fs[j]? = some f → ls[j]? = some l → ∃ ds : List D, ds.length = l.1 ∧ v f = chainD ds D.o
  on : ∀ a : List S, a.length = ls.length → (∀ (j : Nat) (s : S) (l : Lo), a[j]? = some s → ls[j]? = some l → s.args.length = l.1) →
    ∃ v, Sol G v ∧ (∀ (j f : Nat) (s : S), fs[j]? = some f → a[j]? = some s → v f = s.emb) ∧ ∀ x, x < G.length → (v x).fin
/-- So many bodies are done. -/
structure Going (ls : List Lo) (fs ss : List Nat) (G0 : Gr) (i : Nat) (G : Gr) : Prop where
  good : Good G
  len : G0.length ≤ G.length
  back : ∀ v, Sol G v → Sol G0 v ∧ ∀ (j f : Nat) (l : Lo), j < i → fs[j]? = some f → ls[j]? = some l → BodyFits fs ss v f l
  on : ∀ v, Sol G0 v → (∀ (j f : Nat) (l : Lo), j < i → fs[j]? = some f → ls[j]? = some l → BodyFits fs ss v f l) → ∃ v', On G0 G v v'
theorem Going.start {ls : List Lo} {fs ss : List Nat} {G : Gr} (hg : Good G) : Going ls fs ss G 0 G :=
  ⟨hg, Nat.le_refl _, fun v hv => ⟨hv, fun j _ _ hj => absurd hj (by omega)⟩, fun v hv _ => ⟨v, .refl hv⟩⟩
theorem Going.alike {ls : List Lo} {fs ss : List Nat} {G0 G G' : Gr} {i : Nat} (h : Going ls fs ss G0 i G) (ha : Alike G G') : Going ls fs ss G0 i G' := by
  have hl := ha.len
  refine ⟨ha.good, by have := h.len; omega, fun v hv => h.back v ((ha.sol v).1 hv), fun v hv hb => ?_⟩
  obtain ⟨v', o⟩ := h.on v hv hb
  exact ⟨v', (ha.sol v').2 o.sol, o.old, fun hf x hx => o.fin hf x (by omega)⟩
theorem map_eq_of {l : List Nat} {v u : Nat → D} {m : Nat} (hl : ∀ x ∈ l, x < m) (h : ∀ x, x < m → u x = v x) : l.map u = l.map v :=
  List.map_congr_left fun x hx => h x (hl x hx)
theorem BodyFits.congr {fs ss : List Nat} {v u : Nat → D} {m f : Nat} {l : Lo} (hf : ∀ x ∈ fs, x < m) (hs : ∀ x ∈ ss, x < m) (hff : f < m) (h : ∀ x, x < m → u x = v x) (hb : BodyFits fs ss v f l) : BodyFits fs ss u f l := by
  obtain ⟨ds, h1, h2, h3⟩ := hb
  exact ⟨ds, h1, (h f hff).trans h2, by rw [map_eq_of hf h, map_eq_of hs h]; exact h3⟩
section
variable {ls : List Lo} {rs fs ss qs : List Nat} {G0 G G1 Gx G2 : Gr} {i f r z : Nat} {l : Lo}
theorem hv_pick {qs fs ss : List Nat} {v : Nat → D} : hvOf (pickA qs fs ss) v = pickA (qs.map v) (fs.map v) (ss.map v) := by
  funext k n
  unfold hvOf
  rw [pickA_map]
/-- A body's node is o. -/
theorem Going.body (h0 : Begun ls rs fs ss G0) (h : Going ls fs ss G0 i G) (hf : fs[i]? = some f) (hl : ls[i]? = some l) (has : qs.length = l.1)
    (hchain : ∀ v, Sol G v → ∃ e, v f = chainD (qs.map v) e) (ht : Typed G G1 (pickA qs fs ss) l.2 r)
    (hxl : G1.length ≤ Gx.length) (hxb : ∀ v, Sol Gx v → Sol G1 v ∧ v z = D.o) (hxo : ∀ v, Sol G1 v → ∃ v', On G1 Gx v v')
    (j : Joined Gx G2 r z true) : Going ls fs ss G0 (i + 1) G2 := by
  have hl2 := j.len
  have hlG := h.len
  have hlG1 := ht.len
  have hfm : f ∈ fs := List.mem_of_getElem? hf
  have hfl := h0.ltf f hfm
  have hds : ∀ v, Sol G v → ∀ ds : List D, ds.length = l.1 → v f = chainD ds D.o → qs.map v = ds := by
    intro v hv ds hd1 hd2
    obtain ⟨e, he⟩ := hchain v hv
    exact (chainD_inj (by simp [has, hd1]) (he.symm.trans hd2)).1
  refine ⟨j.good, by omega, fun v hv => ?_, fun v hv hb => ?_⟩
  · obtain ⟨h1, h2⟩ := (j.yes rfl v).1 hv
    obtain ⟨h3, h4⟩ := hxb v h1
    obtain ⟨h5, h6⟩ := ht.back v h3
    obtain ⟨h7, h8⟩ := h.back v h5
    refine ⟨h7, fun k f' l' hk hf' hl' => ?_⟩
    rcases Nat.lt_or_ge k i with hlt | hge
    · exact h8 k f' l' hlt hf' hl'
    · have : k = i := by omega
      subst this
      rw [hf] at hf'
      rw [hl] at hl'
      cases hf'; cases hl'
      obtain ⟨ds, hd1, hd2⟩ := h0.funs v h7 k f l hf hl
      refine ⟨ds, hd1, hd2, ?_⟩
      have e := hds v h5 ds hd1 hd2
      rw [hv_pick, e, h2, h4] at h6
      exact h6
  · obtain ⟨v1, o1⟩ := h.on v hv fun k f' l' hk => hb k f' l' (by omega)
    have hb' := (hb i f l (by omega) hf hl).congr h0.ltf h0.lts hfl o1.old
    obtain ⟨ds, hd1, hd2, hd3⟩ := hb'
    have e := hds v1 o1.sol ds hd1 hd2
    rw [← e, ← hv_pick] at hd3
    obtain ⟨v2, o2, e2⟩ := ht.on v1 D.o o1.sol hd3
    obtain ⟨v3, o3⟩ := hxo v2 o2.sol
    have o := (o1.trans hlG (o2.trans hlG1 o3))
    have hjs := (j.yes rfl v3).2 ⟨o3.sol, by rw [o3.old r ht.lt, e2, (hxb v3 o3.sol).2]⟩
    exact ⟨v3, hjs, o.old, fun hfi x hx => o.fin hfi x (by omega)⟩
theorem Begun.fits (h0 : Begun ls rs fs ss G0) {a : List S} (ha : Asg ls rs a) : ∃ v, Sol G0 v ∧ (∀ x, x < G0.length → (v x).fin) ∧ (∀ (j f : Nat) (s : S), fs[j]? = some f → a[j]? = some s → v f = s.emb) ∧
    ∀ (j f : Nat) (l : Lo), fs[j]? = some f → ls[j]? = some l → BodyFits fs ss v f l := by
  obtain ⟨ha1, ha2⟩ := ha
  obtain ⟨v, hv1, hv2, hv3⟩ := h0.on a ha1 fun j s l hs hl => (ha2 j l s hl hs).1
  refine ⟨v, hv1, hv3, hv2, fun j f l hf hl => ?_⟩
  have hja : j < a.length := by rw [ha1]; exact (List.getElem?_eq_some_iff.1 hl).1
  have hs : a[j]? = some a[j] := List.getElem?_eq_getElem hja
  obtain ⟨h1, h2⟩ := ha2 j l _ hl hs
  refine ⟨a[j].args.map S.emb, by simp [h1], by rw [hv2 j f _ hf hs, ← emb_chain, S.eta], ?_⟩
  have e1 : fs.map v = a.map S.emb := by
    refine List.ext_getElem? fun k => ?_
    simp only [List.getElem?_map]
    rcases Nat.lt_or_ge k fs.length with hlt | hge
    · have hk : fs[k]? = some fs[k] := List.getElem?_eq_getElem hlt
      have hk2 : a[k]? = some (a[k]'(by rw [ha1, ← h0.lf]; exact hlt)) := List.getElem?_eq_getElem _
      rw [hk, hk2]
      simp [hv2 k _ _ hk hk2]
    · rw [List.getElem?_eq_none hge, List.getElem?_eq_none (by rw [ha1, ← h0.lf]; exact hge)]; rfl
  have e2 : ss.map v = (rs.map rankS).map S.emb := by
    refine List.ext_getElem? fun k => ?_
    simp only [List.getElem?_map]
    rcases Nat.lt_or_ge k ss.length with hlt | hge
    · have hk : ss[k]? = some ss[k] := List.getElem?_eq_getElem hlt
      have hk2 : rs[k]? = some (rs[k]'(by rw [← h0.ls_]; exact hlt)) := List.getElem?_eq_getElem _
      rw [hk, hk2]
      simp [h0.syms v hv1 k _ _ hk hk2]
    · rw [List.getElem?_eq_none hge, List.getElem?_eq_none (by rw [← h0.ls_]; exact hge)]; rfl
  rw [e1, e2]
  exact (T.has_ty fun k n => by rw [pickA_map, pickA_H]).2 ⟨_, h2, by simp [S.emb, S.embL]⟩
/-- No assignment, where a body has no tree, or one other than o. -/
theorem Going.no_ (h0 : Begun ls rs fs ss G0) (h : Going ls fs ss G0 i G) (hf : fs[i]? = some f) (hl : ls[i]? = some l)
    (hno : ∀ v, Sol G v → ¬ BodyFits fs ss v f l) : Solves ls rs none := by
  intro a ha
  obtain ⟨v, hv1, _, _, hfit⟩ := h0.fits ha
  obtain ⟨v', o⟩ := h.on v hv1 fun j f l _ => hfit j f l
  exact hno v' o.sol ((hfit i f l hf hl).congr h0.ltf h0.lts (h0.ltf f (List.mem_of_getElem? hf)) o.old)
theorem Going.fails (h0 : Begun ls rs fs ss G0) (h : Going ls fs ss G0 i G) (hf : fs[i]? = some f) (hl : ls[i]? = some l) (has : qs.length = l.1)
    (hchain : ∀ v, Sol G v → ∃ e, v f = chainD (qs.map v) e) (hn : NoTy G (pickA qs fs ss) l.2) : Solves ls rs none := by
  refine h.no_ h0 hf hl fun v hv hb => ?_
  obtain ⟨ds, hd1, hd2, hd3⟩ := hb
  obtain ⟨e, he⟩ := hchain v hv
  have e := (chainD_inj (by simp [has, hd1]) (he.symm.trans hd2)).1
  rw [← e, ← hv_pick] at hd3
  exact hn v _ hv hd3
theorem Going.differs (h0 : Begun ls rs fs ss G0) (h : Going ls fs ss G0 i G) (hf : fs[i]? = some f) (hl : ls[i]? = some l) (has : qs.length = l.1)
    (hchain : ∀ v, Sol G v → ∃ e, v f = chainD (qs.map v) e) (ht : Typed G G1 (pickA qs fs ss) l.2 r)
    (hxb : ∀ v, Sol Gx v → v z = D.o) (hxo : ∀ v, Sol G1 v → ∃ v', On G1 Gx v v')
    (j : Joined Gx G2 r z false) : Solves ls rs none := by
  refine h.no_ h0 hf hl fun v hv hb => ?_
  obtain ⟨ds, hd1, hd2, hd3⟩ := hb
  obtain ⟨e, he⟩ := hchain v hv
  have e := (chainD_inj (by simp [has, hd1]) (he.symm.trans hd2)).1
  rw [← e, ← hv_pick] at hd3
  obtain ⟨v2, o2, e2⟩ := ht.on v D.o hv hd3
  obtain ⟨v3, o3⟩ := hxo v2 o2.sol
  exact j.no rfl v3 o3.sol (by rw [o3.old r ht.lt, e2, hxb v3 o3.sol])
/-- No assignment, where a node's tree is endless. -/
theorem Going.endless (h0 : Begun ls rs fs ss G0) (h : Going ls fs ss G0 ls.length G) {x : Nat} (hx : x < G.length) (hinf : ∀ v, Sol G v → ¬ (v x).fin) : Solves ls rs none := by
  intro a ha
  obtain ⟨v, hv1, hv2, _, hfit⟩ := h0.fits ha
  obtain ⟨v', o⟩ := h.on v hv1 fun j f l _ => hfit j f l
  exact hinf v' o.sol (o.fin hv2 x hx)
/-- The smallest assignment, where all functions' trees end. -/
theorem Going.found (h0 : Begun ls rs fs ss G0) (h : Going ls fs ss G0 ls.length G) {v : Nat → D} (hv : Can G v) {a : List S} (hla : a.length = fs.length)
    (ha : ∀ (j f : Nat) (s : S), fs[j]? = some f → a[j]? = some s → v f = s.emb) : Solves ls rs (some a) := by
  have hb := (h.back v hv.sol).2
  have e1 : fs.map v = a.map S.emb := by
    refine List.ext_getElem? fun k => ?_
    simp only [List.getElem?_map]
    rcases Nat.lt_or_ge k fs.length with hlt | hge
    · have hk : fs[k]? = some fs[k] := List.getElem?_eq_getElem hlt
      have hk2 : a[k]? = some (a[k]'(by omega)) := List.getElem?_eq_getElem _
      rw [hk, hk2]
      simp [ha k _ _ hk hk2]
    · rw [List.getElem?_eq_none hge, List.getElem?_eq_none (by omega)]; rfl
  have e2 : ss.map v = (rs.map rankS).map S.emb := by
    refine List.ext_getElem? fun k => ?_
    simp only [List.getElem?_map]
    rcases Nat.lt_or_ge k ss.length with hlt | hge
    · have hk : ss[k]? = some ss[k] := List.getElem?_eq_getElem hlt
      have hk2 : rs[k]? = some (rs[k]'(by rw [← h0.ls_]; exact hlt)) := List.getElem?_eq_getElem _
      rw [hk, hk2]
      simp [h0.syms v (h.back v hv.sol).1 k _ _ hk hk2]
    · rw [List.getElem?_eq_none hge, List.getElem?_eq_none (by rw [← h0.ls_]; exact hge)]; rfl
  refine ⟨⟨hla.trans h0.lf, fun j l s hl hs => ?_⟩, fun b hb j s t hs ht => ?_⟩
  · have hjl := (List.getElem?_eq_some_iff.1 hl).1
    have hf : fs[j]? = some (fs[j]'(by rw [h0.lf]; exact hjl)) := List.getElem?_eq_getElem _
    obtain ⟨ds, h1, h2, h3⟩ := hb j _ l hjl hf hl
    have e := chain_emb (h2.symm.trans (ha j _ s hf hs))
    refine ⟨by rw [← h1, e]; simp, ?_⟩
    rw [e, e1, e2] at h3
    obtain ⟨u, hu1, hu2⟩ := (T.has_ty (pick := pickH s.args a (rs.map rankS)) fun k n => by rw [pickA_map, pickA_H]).1 h3
    rw [hu1, S.emb_o hu2.symm]
  · obtain ⟨u, hu1, _, hu3, hfit⟩ := h0.fits hb
    obtain ⟨u', o⟩ := h.on u hu1 fun j f l _ => hfit j f l
    have hj : j < fs.length := by rw [← hla]; exact (List.getElem?_eq_some_iff.1 hs).1
    have hf : fs[j]? = some fs[j] := List.getElem?_eq_getElem hj
    have hlt := h0.ltf _ (List.mem_of_getElem? hf)
    have hlG := h.len
    intro p hp
    rw [← ha j _ s hf hs] at hp
    have := hv.le h.good o.sol p _ (by omega) hp
    rw [o.old _ hlt, hu3 j _ t hf ht] at this
    exact this
end
end Go.Proofs.YtkkfdiidneoelaaGreatDoor

namespace Go.Proofs.YtkkfdiidneoelaaGreatDoor

/-- New nodes of a sort of k arguments: undetermined ones, or o. -/
structure FnExt (G G' : Gr) (free : Bool) (k top : Nat) : Prop where
  good : Good G'
  len : G.length ≤ G'.length
  lt : top < G'.length
  back : ∀ v, Sol G' v → Sol G v ∧ ∃ ds : List D, ds.length = k ∧ v top = chainD ds D.o ∧ (free = false → ∀ x ∈ ds, x = D.o)
  on : ∀ (v : Nat → D) (ds : List D), Sol G v → ds.length = k → (free = false → ∀ x ∈ ds, x = D.o) → (∀ x ∈ ds, x.fin) → ∃ v', On G G' v v' ∧ v' top = chainD ds D.o
theorem On.one {G : Gr} (hG : Good G) {d : Nd} {v : Nat → D} (hv : Sol G v) (z : D) (hz : d.says (fun y => if y = G.length then z else v y) G.length) (hf : (∀ x, x < G.length → (v x).fin) → z.fin) : On G (G ++ [d]) v (fun y => if y = G.length then z else v y) := by
  have q : ∀ y, y < G.length → (fun y => if y = G.length then z else v y) y = v y := fun y hy => if_neg (by omega)
  refine ⟨Sol.more.2 ⟨hv.congr hG q, hz⟩, q, fun hfi x hx => ?_⟩
  simp at hx
  show (if x = G.length then z else v x).fin
  rcases Nat.lt_or_ge x G.length with hlt | hge
  · rw [if_neg (by omega)]; exact hfi x hlt
  · rw [if_pos (by omega)]; exact hf hfi
theorem chain_fin {ds : List D} (h : ∀ x ∈ ds, x.fin) : (chainD ds D.o).fin := by
  induction ds with
  | nil => exact D.fin_o
  | cons a r ih => exact D.fin_arr (h a (by simp)) (ih fun x hx => h x (by simp [hx]))
theorem FnExt.start {G : Gr} (hG : Good G) (free : Bool) : FnExt G (G ++ [.tree]) free 0 G.length := by
  refine ⟨hG.more rfl (fun _ _ h => by cases h), by simp, by simp, fun v hv => ?_, fun v ds hv hl _ _ => ?_⟩
  · obtain ⟨h1, h2⟩ := Sol.more.1 hv
    exact ⟨h1, [], rfl, h2, fun _ x hx => by simp at hx⟩
  · have : ds = [] := List.eq_nil_of_length_eq_zero hl
    subst this
    exact ⟨_, On.one hG hv D.o (if_pos rfl) (fun _ => D.fin_o), if_pos rfl⟩
/-- The node of an argument. -/
def argNd (free : Bool) : Nd := if free = true then .open_ else .tree
theorem argNd_root (free : Bool) : (argNd free).root = true := by cases free <;> rfl
theorem FnExt.step {G G1 : Gr} {free : Bool} {k top : Nat} (h : FnExt G G1 free k top) : FnExt G ((G1 ++ [argNd free]) ++ [.arrow G1.length top]) free (k + 1) (G1.length + 1) := by
  have hl := h.len
  have hlt := h.lt
  have hg2 : Good (G1 ++ [argNd free]) := h.good.more (argNd_root free) (fun _ _ e => by cases free <;> cases e)
  refine ⟨hg2.more rfl (fun a b e => ?_), by simp; omega, by simp, fun v hv => ?_, fun v ds hv hds hfr hfi => ?_⟩
  · cases e; simp; omega
  · obtain ⟨h1, h2⟩ := Sol.more.1 hv
    obtain ⟨h3, h4⟩ := Sol.more.1 h1
    obtain ⟨h5, ds, e1, e2, e3⟩ := h.back v h3
    have h2' : v (G1.length + 1) = D.arr (v G1.length) (v top) := by simpa [Nd.says] using h2
    refine ⟨h5, v G1.length :: ds, by simp [e1], by rw [h2', e2]; rfl, fun hf x hx => ?_⟩
    rcases List.mem_cons.1 hx with rfl | hx
    · subst hf; exact h4
    · exact e3 hf x hx
  · cases ds with
    | nil => simp at hds
    | cons a t =>
      obtain ⟨v1, o1, e1⟩ := h.on v t hv (by simpa using hds) (fun hf x hx => hfr hf x (by simp [hx])) (fun x hx => hfi x (by simp [hx]))
      have o2 := On.one h.good (d := argNd free) o1.sol a (by
        cases free with
        | true => trivial
        | false => exact (if_pos rfl).trans (hfr rfl a (by simp))) (fun _ => hfi a (by simp))
      have e2 : (fun y => if y = G1.length then a else v1 y) top = chainD t D.o := (if_neg (by omega)).trans e1
      generalize hv2 : (fun y => if y = G1.length then a else v1 y) = v2 at *
      have e3 : v2 G1.length = a := by rw [← hv2]; exact if_pos rfl
      have hl2 : (G1 ++ [argNd free]).length = G1.length + 1 := by simp
      have o3 := On.one hg2 (d := .arrow G1.length top) o2.sol (D.arr a (chainD t D.o)) (by
        show (if _ then _ else _) = D.arr (if _ then _ else _) (if _ then _ else _)
        rw [if_pos rfl, hl2, if_neg (by omega), if_neg (by omega), e3, e2]) (fun _ => chain_fin (ds := a :: t) hfi)
      refine ⟨_, (o1.trans hl (o2.trans (by simp) o3)), ?_⟩
      show (if _ then _ else _) = _
      rw [hl2, if_pos rfl]
      rfl
theorem getElem?_snoc {α : Type} {l : List α} {a b : α} {j : Nat} (h : (l ++ [a])[j]? = some b) : l[j]? = some b ∨ (j = l.length ∧ a = b) := by
  rcases Nat.lt_or_ge j l.length with hlt | hge
  · rw [List.getElem?_append_left hlt] at h
    exact .inl h
  · have h1 := (List.getElem?_eq_some_iff.1 h).1
    simp at h1
    have : j = l.length := by omega
    subst this
    simp at h
    exact .inr ⟨rfl, h⟩
theorem chain_rank (ds : List D) (h : ∀ x ∈ ds, x = D.o) : chainD ds D.o = (rankS ds.length).emb := by
  unfold rankS
  rw [emb_chain]
  congr 1
  induction ds with
  | nil => rfl
  | cons a r ih =>
    rw [List.length_cons, List.replicate_succ, List.map_cons, ← ih fun x hx => h x (by simp [hx]), h a (by simp)]
    simp [S.emb, S.embL]
theorem Begun.nil : Begun [] [] [] [] [] :=
  ⟨Good.nil, rfl, rfl, fun x h => by simp at h, fun x h => by simp at h, fun v _ j x r h => by simp at h, fun v _ j f l h => by simp at h,
    fun a _ _ => ⟨fun _ => D.o, Sol.nil, fun j f s h => by simp at h, fun x h => by simp at h⟩⟩
theorem Begun.sym {ls : List Lo} {rs fs ss : List Nat} {G G' : Gr} {r top : Nat} (h : Begun ls rs fs ss G) (e : FnExt G G' false r top) : Begun ls (rs ++ [r]) fs (ss ++ [top]) G' := by
  have hl := e.len
  refine ⟨e.good, h.lf, by simp [h.ls_], fun x hx => by have := h.ltf x hx; omega, fun x hx => ?_, fun v hv j x r' hx hr => ?_, fun v hv => h.funs v (e.back v hv).1, fun a h1 h2 => ?_⟩
  · simp at hx
    rcases hx with hx | rfl
    · have := h.lts x hx; omega
    · exact e.lt
  · obtain ⟨h1, ds, h2, h3, h4⟩ := e.back v hv
    rcases getElem?_snoc hx with hx | ⟨hj, rfl⟩
    · rcases getElem?_snoc hr with hr | ⟨hj2, rfl⟩
      · exact h.syms v h1 j x r' hx hr
      · have := (List.getElem?_eq_some_iff.1 hx).1
        have := h.ls_
        omega
    · rcases getElem?_snoc hr with hr | ⟨hj2, rfl⟩
      · have := (List.getElem?_eq_some_iff.1 hr).1
        have := h.ls_
        omega
      · rw [h3, chain_rank ds (h4 rfl), h2]
  · obtain ⟨v, g1, g2, g3⟩ := h.on a h1 h2
    obtain ⟨v', o, _⟩ := e.on v (List.replicate r D.o) g1 (by simp) (fun _ x hx => (List.mem_replicate.1 hx).2) (fun x hx => by rw [(List.mem_replicate.1 hx).2]; exact D.fin_o)
    exact ⟨v', o.sol, fun j f s hf hs => (o.old f (h.ltf f (List.mem_of_getElem? hf))).trans (g2 j f s hf hs), o.fin g3⟩
theorem Begun.fun_ {ls : List Lo} {rs fs ss : List Nat} {G G' : Gr} {l : Lo} {top : Nat} (h : Begun ls rs fs ss G) (e : FnExt G G' true l.1 top) : Begun (ls ++ [l]) rs (fs ++ [top]) ss G' := by
  have hl := e.len
  refine ⟨e.good, by simp [h.lf], h.ls_, fun x hx => ?_, fun x hx => by have := h.lts x hx; omega, fun v hv => h.syms v (e.back v hv).1, fun v hv j f l' hf hl' => ?_, fun a h1 h2 => ?_⟩
  · simp at hx
    rcases hx with hx | rfl
    · have := h.ltf x hx; omega
    · exact e.lt
  · obtain ⟨h1, ds, h2, h3, _⟩ := e.back v hv
    rcases getElem?_snoc hf with hf | ⟨hj, rfl⟩
    · rcases getElem?_snoc hl' with hl' | ⟨hj2, rfl⟩
      · exact h.funs v h1 j f l' hf hl'
      · have := (List.getElem?_eq_some_iff.1 hf).1
        have := h.lf
        omega
    · rcases getElem?_snoc hl' with hl' | ⟨hj2, rfl⟩
      · have := (List.getElem?_eq_some_iff.1 hl').1
        have := h.lf
        omega
      · exact ⟨ds, h2, h3⟩
  · have hal : a.length = ls.length + 1 := by simpa using h1
    have h0 : (a.take ls.length).length = ls.length := by simp; omega
    obtain ⟨v, g1, g2, g3⟩ := h.on (a.take ls.length) h0 (fun j s l' hs hl' => by
      have hj := (List.getElem?_eq_some_iff.1 hl').1
      rw [List.getElem?_take_of_lt hj] at hs
      exact h2 j s l' hs (by rw [List.getElem?_append_left hj]; exact hl'))
    have hlast : a[ls.length]? = some (a[ls.length]'(by omega)) := List.getElem?_eq_getElem _
    have hk := h2 ls.length _ l hlast (by simp)
    obtain ⟨v', o, e1⟩ := e.on v ((a[ls.length]'(by omega)).args.map S.emb) g1 (by simp [hk]) (fun h => by cases h) (fun x hx => by
      obtain ⟨s, _, rfl⟩ := List.mem_map.1 hx
      exact ⟨s, rfl⟩)
    refine ⟨v', o.sol, fun j f s hf hs => ?_, o.fin g3⟩
    rcases getElem?_snoc hf with hf | ⟨hj, rfl⟩
    · have hj : j < ls.length := by rw [← h.lf]; exact (List.getElem?_eq_some_iff.1 hf).1
      exact (o.old f (h.ltf f (List.mem_of_getElem? hf))).trans (g2 j f s hf (by rw [List.getElem?_take_of_lt hj]; exact hs))
    · rw [h.lf] at hj
      subst hj
      rw [hlast] at hs
      cases hs
      rw [e1, ← emb_chain, S.eta]
end Go.Proofs.YtkkfdiidneoelaaGreatDoor
