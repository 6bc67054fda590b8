/-
  Sorts as trees of arrows that may be endless, and their order: what inference of sorts is told by.
-/
import Derived.Test.YtkkfdiidneoelaaDoorHeads
namespace Go.Proofs.YtkkfdiidneoelaaDoor

/-- A tree of arrows, maybe endless: whether there is an arrow at the end of a path. -/
abbrev D := List Bool → Bool
def D.o : D := fun _ => false
def D.arr (a b : D) : D
  | [] => true
  | false :: q => a q
  | true :: q => b q
theorem D.arr_inj {a b c d : D} (h : D.arr a b = D.arr c d) : a = c ∧ b = d :=
  ⟨funext fun q => congrFun h (false :: q), funext fun q => congrFun h (true :: q)⟩
theorem D.arr_ne {a b : D} (h : D.arr a b = D.o) : False := by
  have := congrFun h []
  simp [D.arr, D.o] at this
mutual
/-- A sort as such a tree. -/
def S.emb : S → D
  | .mk l => S.embL l
def S.embL : List S → D
  | [] => D.o
  | s :: r => D.arr s.emb (S.embL r)
end
mutual
theorem S.emb_inj : ∀ {s t : S}, s.emb = t.emb → s = t
  | .mk l, .mk m, h => by simp only [S.emb] at h; rw [S.embL_inj h]
theorem S.embL_inj : ∀ {l m : List S}, S.embL l = S.embL m → l = m
  | [], [], _ => rfl
  | [], y :: q, h => by simp only [S.embL] at h; exact (D.arr_ne h.symm).elim
  | x :: r, [], h => by simp only [S.embL] at h; exact (D.arr_ne h).elim
  | x :: r, y :: q, h => by
    simp only [S.embL] at h
    obtain ⟨h1, h2⟩ := D.arr_inj h
    rw [S.emb_inj h1, S.embL_inj h2]
end
theorem S.emb_args (s : S) : s.emb = S.embL s.args := by cases s; rfl
theorem S.emb_o {s : S} (h : s.emb = D.o) : s = .mk [] := S.emb_inj (t := .mk []) (by rw [h]; simp [S.emb, S.embL])
theorem S.emb_arr {s : S} {a b : D} (h : s.emb = D.arr a b) : ∃ x r, s = .mk (x :: r) ∧ a = x.emb ∧ b = (S.mk r).emb := by
  obtain ⟨l⟩ := s
  cases l with
  | nil => simp only [S.emb, S.embL] at h; exact (D.arr_ne h.symm).elim
  | cons x r =>
    simp only [S.emb, S.embL] at h
    obtain ⟨h1, h2⟩ := D.arr_inj h
    exact ⟨x, r, rfl, h1.symm, by simp only [S.emb]; exact h2.symm⟩
/-- It is a sort's tree. -/
def D.fin (d : D) : Prop := ∃ s : S, d = s.emb
theorem D.fin_o : D.fin D.o := ⟨.mk [], by simp [S.emb, S.embL]⟩
theorem D.fin_arr {a b : D} (ha : a.fin) (hb : b.fin) : (D.arr a b).fin := by
  obtain ⟨s, rfl⟩ := ha
  obtain ⟨⟨l⟩, rfl⟩ := hb
  exact ⟨.mk (s :: l), by simp [S.emb, S.embL]⟩
theorem D.fin_parts {a b : D} (h : (D.arr a b).fin) : a.fin ∧ b.fin := by
  obtain ⟨s, hs⟩ := h
  obtain ⟨x, r, _, h1, h2⟩ := S.emb_arr hs.symm
  exact ⟨⟨x, h1⟩, ⟨_, h2⟩⟩
/-- A part of a tree, other than itself. -/
inductive D.Part : D → D → Prop where
  | left (a b : D) : D.Part a (D.arr a b)
  | right (a b : D) : D.Part b (D.arr a b)
  | left' {a b d : D} : D.Part d a → D.Part d (D.arr a b)
  | right' {a b d : D} : D.Part d b → D.Part d (D.arr a b)
theorem D.Part.trans {a b c : D} (h : D.Part a b) (k : D.Part b c) : D.Part a c := by
  induction k with
  | left _ _ => exact .left' h
  | right _ _ => exact .right' h
  | left' _ ih => exact .left' (ih h)
  | right' _ ih => exact .right' (ih h)
theorem D.Part.small {a b : D} (h : D.Part a b) : ∀ s : S, b = s.emb → ∃ t : S, a = t.emb ∧ t.count < s.count := by
  induction h with
  | left a b =>
    intro s hs
    obtain ⟨x, r, rfl, h1, h2⟩ := S.emb_arr hs.symm
    exact ⟨x, h1, by simp only [S.count, S.countL]; omega⟩
  | right a b =>
    intro s hs
    obtain ⟨x, r, rfl, h1, h2⟩ := S.emb_arr hs.symm
    exact ⟨.mk r, h2, by have := x.count_pos; simp only [S.count, S.countL]; omega⟩
  | left' _ ih =>
    intro s hs
    obtain ⟨x, r, rfl, h1, h2⟩ := S.emb_arr hs.symm
    obtain ⟨t, ht, hl⟩ := ih x h1
    exact ⟨t, ht, by simp only [S.count, S.countL]; omega⟩
  | right' _ ih =>
    intro s hs
    obtain ⟨x, r, rfl, h1, h2⟩ := S.emb_arr hs.symm
    obtain ⟨t, ht, hl⟩ := ih _ h2
    exact ⟨t, ht, by have := x.count_pos; simp only [S.count, S.countL] at hl ⊢; omega⟩
theorem D.Part.inf {a : D} (h : D.Part a a) : ¬ a.fin := by
  have key : ∀ n (s : S), s.count ≤ n → a = s.emb → False := by
    intro n
    induction n with
    | zero => intro s hs; have := s.count_pos; omega
    | succ n ih =>
      intro s hs ha
      obtain ⟨t, ht, hl⟩ := h.small s ha
      exact ih t (by omega) ht
  rintro ⟨s, hs⟩
  exact key s.count s (Nat.le_refl _) hs
theorem D.Part.fin {a b : D} (h : D.Part a b) (hb : b.fin) : a.fin := by
  obtain ⟨s, hs⟩ := hb
  obtain ⟨t, ht, _⟩ := h.small s hs
  exact ⟨t, ht⟩

/-- The first tree asks no more than the second one. -/
def D.le (a b : D) : Prop := ∀ p, a p = true → b p = true
theorem D.le_antisymm {a b : D} (h : a.le b) (k : b.le a) : a = b := funext fun p => by
  cases ha : a p with
  | true => exact (h p ha).symm
  | false =>
    cases hb : b p with
    | false => rfl
    | true => have := k p hb; rw [ha] at this; cases this
theorem D.le_arr {a b d : D} (h : (D.arr a b).le d) {c e : D} (hd : d = D.arr c e) : a.le c ∧ b.le e := by
  subst hd
  exact ⟨fun p hp => h (false :: p) hp, fun p hp => h (true :: p) hp⟩
mutual
theorem S.le_count : ∀ {s t : S}, s.emb.le t.emb → s.count ≤ t.count
  | .mk l, .mk m, h => by have := S.le_countL (l := l) (m := m) (by simpa only [S.emb] using h); simp only [S.count]; omega
theorem S.le_countL : ∀ {l m : List S}, (S.embL l).le (S.embL m) → S.countL l ≤ S.countL m
  | [], m, _ => by simp [S.countL]
  | x :: r, [], h => by
    have := h [] (by simp [S.embL, D.arr])
    simp [S.embL, D.o] at this
  | x :: r, y :: q, h => by
    simp only [S.embL] at h
    obtain ⟨h1, h2⟩ := D.le_arr h rfl
    have := S.le_count h1
    have := S.le_countL h2
    simp only [S.countL]; omega
end
mutual
theorem S.le_deep : ∀ {s t : S}, s.emb.le t.emb → s.deep ≤ t.deep
  | .mk l, .mk m, h => by have := S.le_deepL (l := l) (m := m) (by simpa only [S.emb] using h); simp only [S.deep]; omega
theorem S.le_deepL : ∀ {l m : List S}, (S.embL l).le (S.embL m) → S.deepL l ≤ S.deepL m
  | [], m, _ => by simp [S.deepL]
  | x :: r, [], h => by
    have := h [] (by simp [S.embL, D.arr])
    simp [S.embL, D.o] at this
  | x :: r, y :: q, h => by
    simp only [S.embL] at h
    obtain ⟨h1, h2⟩ := D.le_arr h rfl
    have := S.le_deep h1
    have := S.le_deepL h2
    simp only [S.deepL]; omega
end
mutual
theorem S.le_ord : ∀ {s t : S}, s.emb.le t.emb → s.ord ≤ t.ord
  | .mk l, .mk m, h => by have := S.le_ordL (l := l) (m := m) (by simpa only [S.emb] using h); simp only [S.ord]; omega
theorem S.le_ordL : ∀ {l m : List S}, (S.embL l).le (S.embL m) → S.ordL l ≤ S.ordL m
  | [], m, _ => by simp [S.ordL]
  | x :: r, [], h => by
    have := h [] (by simp [S.embL, D.arr])
    simp [S.embL, D.o] at this
  | x :: r, y :: q, h => by
    simp only [S.embL] at h
    obtain ⟨h1, h2⟩ := D.le_arr h rfl
    have := S.le_ord h1
    have := S.le_ordL h2
    simp only [S.ordL]; omega
end
theorem S.le_len : ∀ {l m : List S}, (S.embL l).le (S.embL m) → l.length ≤ m.length
  | [], m, _ => by simp
  | x :: r, [], h => by
    have := h [] (by simp [S.embL, D.arr])
    simp [S.embL, D.o] at this
  | x :: r, y :: q, h => by
    simp only [S.embL] at h
    have := S.le_len (D.le_arr h rfl).2
    simp; omega
mutual
theorem S.le_few : ∀ {s t : S}, s.emb.le t.emb → t.few = true → s.few = true
  | .mk l, .mk m, h, hf => by
    have h' : (S.embL l).le (S.embL m) := by simpa only [S.emb] using h
    have h1 := S.le_len h'
    simp only [S.few, Bool.and_eq_true, decide_eq_true_eq] at hf ⊢
    exact ⟨S.le_fewL h' hf.1, by omega⟩
theorem S.le_fewL : ∀ {l m : List S}, (S.embL l).le (S.embL m) → S.fewL m = true → S.fewL l = true
  | [], m, _, _ => by simp [S.fewL]
  | x :: r, [], h, _ => by
    have := h [] (by simp [S.embL, D.arr])
    simp [S.embL, D.o] at this
  | x :: r, y :: q, h, hf => by
    simp only [S.embL] at h
    obtain ⟨h1, h2⟩ := D.le_arr h rfl
    simp only [S.fewL, Bool.and_eq_true] at hf ⊢
    exact ⟨S.le_few h1 hf.1, S.le_fewL h2 hf.2⟩
end
theorem S.le_ok {s t : S} (h : s.emb.le t.emb) (ht : t.ok = true) : s.ok = true := by
  simp only [S.ok, Bool.and_eq_true, decide_eq_true_eq] at ht ⊢
  have := S.le_count h
  have := S.le_deep h
  exact ⟨⟨by omega, by omega⟩, S.le_few h ht.2⟩

/-- Arrows from some trees, in order, to another one. -/
def chainD : List D → D → D
  | [], d => d
  | a :: r, d => D.arr a (chainD r d)
theorem chainD_append (l m : List D) (d : D) : chainD (l ++ m) d = chainD l (chainD m d) := by
  induction l with
  | nil => rfl
  | cons a r ih => simp only [List.cons_append, chainD, ih]
theorem chainD_inj : ∀ {l m : List D} {d e : D}, l.length = m.length → chainD l d = chainD m e → l = m ∧ d = e
  | [], [], d, e, _, h => ⟨rfl, h⟩
  | [], y :: q, d, e, h, _ => by simp at h
  | x :: r, [], d, e, h, _ => by simp at h
  | x :: r, y :: q, d, e, hl, h => by
    simp only [chainD] at h
    obtain ⟨h1, h2⟩ := D.arr_inj h
    obtain ⟨h3, h4⟩ := chainD_inj (by simpa using hl) h2
    exact ⟨by rw [h1, h3], h4⟩
theorem chainD_len : ∀ {l m : List D}, chainD l D.o = chainD m D.o → l.length = m.length
  | [], [], _ => rfl
  | [], y :: q, h => (D.arr_ne h.symm).elim
  | x :: r, [], h => (D.arr_ne h).elim
  | x :: r, y :: q, h => by
    simp only [chainD] at h
    simp [chainD_len (D.arr_inj h).2]
theorem embL_chain (l : List S) : S.embL l = chainD (l.map S.emb) D.o := by
  induction l with
  | nil => rfl
  | cons a r ih => simp only [S.embL, List.map_cons, chainD, ih]
theorem emb_chain (l : List S) : (S.mk l).emb = chainD (l.map S.emb) D.o := by simp only [S.emb, embL_chain]
theorem chain_emb {ds : List D} {s : S} (h : chainD ds D.o = s.emb) : ds = s.args.map S.emb := by
  obtain ⟨l⟩ := s
  rw [emb_chain] at h
  exact (chainD_inj (chainD_len h) h).1

mutual
/-- A term has a tree, where its heads have some. -/
def T.has (hv : Int → Int → Option D) : T → D → Prop
  | .mk k n l, r => ∃ d, hv k n = some d ∧ T.hasL hv l d r
def T.hasL (hv : Int → Int → Option D) : List T → D → D → Prop
  | [], d, r => d = r
  | x :: xs, d, r => ∃ a b, x.has hv a ∧ d = D.arr a b ∧ T.hasL hv xs b r
end
theorem T.hasL_append {hv : Int → Int → Option D} : ∀ {l m : List T} {d r : D}, T.hasL hv (l ++ m) d r ↔ ∃ e, T.hasL hv l d e ∧ T.hasL hv m e r
  | [], m, d, r => by simp [T.hasL]
  | x :: xs, m, d, r => by
    simp only [List.cons_append, T.hasL, T.hasL_append (l := xs)]
    constructor
    · rintro ⟨a, b, h1, h2, e, h3, h4⟩
      exact ⟨e, ⟨a, b, h1, h2, h3⟩, h4⟩
    · rintro ⟨e, ⟨a, b, h1, h2, h3⟩, h4⟩
      exact ⟨a, b, h1, h2, e, h3, h4⟩
theorem T.hasL_one {hv : Int → Int → Option D} {x : T} {d r : D} : T.hasL hv [x] d r ↔ ∃ a, x.has hv a ∧ d = D.arr a r := by
  simp only [T.hasL]
  constructor
  · rintro ⟨a, b, h1, h2, rfl⟩; exact ⟨a, h1, h2⟩
  · rintro ⟨a, h1, h2⟩; exact ⟨a, r, h1, h2, rfl⟩
mutual
theorem T.has_ty {hv : Int → Int → Option D} {pick : Int → Int → Option S} (hp : ∀ k n, hv k n = (pick k n).map S.emb) : ∀ {t : T} {d : D}, t.has hv d ↔ ∃ s, t.ty pick = some s ∧ d = s.emb
  | .mk k n l, d => by
    simp only [T.has, T.ty, hp]
    cases pick k n with
    | none => simp
    | some s =>
      have hl := T.hasL_ty hp (l := l) (q := s.args) (r := d)
      simp only [Option.map_some, Option.some.injEq]
      constructor
      · rintro ⟨_, rfl, h⟩
        rw [S.emb_args] at h
        obtain ⟨h1, h2⟩ := hl.1 h
        exact ⟨_, if_pos h1, h2⟩
      · rintro ⟨y, h, rfl⟩
        cases ht : T.tyL pick l s.args with
        | false => rw [ht] at h; cases h
        | true =>
          rw [ht] at h
          cases h
          exact ⟨_, rfl, by rw [S.emb_args]; exact hl.2 ⟨ht, rfl⟩⟩
theorem T.hasL_ty {hv : Int → Int → Option D} {pick : Int → Int → Option S} (hp : ∀ k n, hv k n = (pick k n).map S.emb) : ∀ {l : List T} {q : List S} {r : D}, T.hasL hv l (S.embL q) r ↔ T.tyL pick l q = true ∧ r = (S.mk (q.drop l.length)).emb
  | [], q, r => by simp [T.hasL, T.tyL, S.emb, eq_comm]
  | x :: xs, [], r => by
    simp only [T.hasL, T.tyL, S.embL]
    constructor
    · rintro ⟨a, b, _, h, _⟩; exact (D.arr_ne h.symm).elim
    · rintro ⟨h, _⟩; cases h
  | x :: xs, a :: q, r => by
    simp only [T.hasL, T.tyL, S.embL, Bool.and_eq_true, List.length_cons, List.drop_succ_cons]
    constructor
    · rintro ⟨d, b, h1, h2, h3⟩
      obtain ⟨rfl, rfl⟩ := D.arr_inj h2
      obtain ⟨s, h4, h5⟩ := (T.has_ty hp).1 h1
      have := S.emb_inj h5
      subst this
      obtain ⟨h6, h7⟩ := (T.hasL_ty hp).1 h3
      exact ⟨⟨by rw [h4]; exact (S.eqb_iff _ _).2 rfl, h6⟩, h7⟩
    · rintro ⟨⟨h1, h2⟩, h3⟩
      cases hx : x.ty pick with
      | none => rw [hx] at h1; cases h1
      | some y =>
        rw [hx] at h1
        have : y = a := (S.eqb_iff _ _).1 h1
        subst this
        exact ⟨_, _, (T.has_ty hp).2 ⟨y, hx, rfl⟩, rfl, (T.hasL_ty hp).2 ⟨h2, h3⟩⟩
end
end Go.Proofs.YtkkfdiidneoelaaDoor
