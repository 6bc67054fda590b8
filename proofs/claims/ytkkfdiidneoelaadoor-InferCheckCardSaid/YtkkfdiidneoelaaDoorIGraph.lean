/-
  What is known of sorts, as a graph of nodes, and what makes two nodes the same: no program is named here.
-/
import Derived.Test.YtkkfdiidneoelaaDoorITree
namespace Go.Proofs.YtkkfdiidneoelaaDoor

/-- A node: nothing is known; o; an arrow; the same as another one. -/
inductive Nd where
  | open_
  | tree
  | arrow (a b : Nat)
  | link (a : Nat)
def Nd.root : Nd → Bool
  | .link _ => false
  | _ => true
abbrev Gr := List Nd

/-- From a node on, so many steps along links, there is a root. -/
inductive Ends (G : Gr) : Nat → Nat → Nat → Prop where
  | here {x : Nat} {d : Nd} : G[x]? = some d → d.root = true → Ends G x x 0
  | step {x y r k : Nat} : G[x]? = some (.link y) → Ends G y r k → Ends G x r (k + 1)
theorem Ends.at_ {G : Gr} {x r k : Nat} (h : Ends G x r k) : ∃ d, G[r]? = some d ∧ d.root = true := by
  induction h with
  | here h1 h2 => exact ⟨_, h1, h2⟩
  | step _ _ ih => exact ih
theorem Ends.lt {G : Gr} {x r k : Nat} (h : Ends G x r k) : x < G.length ∧ r < G.length := by
  induction h with
  | here h1 _ => exact ⟨(List.getElem?_eq_some_iff.1 h1).1, (List.getElem?_eq_some_iff.1 h1).1⟩
  | step h1 _ ih => exact ⟨(List.getElem?_eq_some_iff.1 h1).1, ih.2⟩
theorem Ends.same {G : Gr} {x r k : Nat} (h : Ends G x r k) : ∀ {r' k' : Nat}, Ends G x r' k' → r = r' ∧ k = k' := by
  induction h with
  | here h1 h2 =>
    intro r' k' h'
    cases h' with
    | here _ _ => exact ⟨rfl, rfl⟩
    | step h3 _ => rw [h1] at h3; cases h3; cases h2
  | step h1 _ ih =>
    intro r' k' h'
    cases h' with
    | here h3 h4 => rw [h1] at h3; cases h3; cases h4
    | step h3 h4 =>
      rw [h1] at h3
      cases h3
      obtain ⟨e1, e2⟩ := ih h4
      exact ⟨e1, by omega⟩
theorem Ends.root_self {G : Gr} {x r k : Nat} (h : Ends G x r k) : Ends G r r 0 := by
  obtain ⟨d, h1, h2⟩ := h.at_
  exact .here h1 h2

/-- Each node has a root, and arrows are between nodes. -/
structure Good (G : Gr) : Prop where
  ends : ∀ x, x < G.length → ∃ r k, Ends G x r k
  arrow : ∀ (x a b : Nat), G[x]? = some (Nd.arrow a b) → a < G.length ∧ b < G.length
theorem Good.link {G : Gr} (h : Good G) {x y : Nat} (hx : G[x]? = some (.link y)) : y < G.length ∧ y ≠ x := by
  obtain ⟨r, k, hk⟩ := h.ends x (List.getElem?_eq_some_iff.1 hx).1
  cases hk with
  | here h1 h2 => rw [hx] at h1; cases h1; cases h2
  | step h1 h2 =>
    rw [hx] at h1
    cases h1
    refine ⟨h2.lt.1, ?_⟩
    rintro rfl
    have := h2.same (.step hx h2)
    omega
theorem Good.nil : Good [] := ⟨fun x h => by simp at h, fun x a b h => by simp at h⟩

/-- What a node asks of the trees of nodes. -/
def Nd.says (v : Nat → D) (x : Nat) : Nd → Prop
  | .open_ => True
  | .tree => v x = D.o
  | .arrow a b => v x = D.arr (v a) (v b)
  | .link y => v x = v y
/-- Trees of nodes that are as the graph says. -/
def Sol (G : Gr) (v : Nat → D) : Prop := ∀ (x : Nat) (d : Nd), G[x]? = some d → d.says v x
theorem Sol.ends {G : Gr} {v : Nat → D} (hv : Sol G v) {x r k : Nat} (h : Ends G x r k) : v x = v r := by
  induction h with
  | here _ _ => rfl
  | step h1 _ ih => exact (hv _ _ h1).trans ih
theorem Sol.nil {v : Nat → D} : Sol [] v := fun x d h => by simp at h

/-- The roots. -/
def roots (G : Gr) : Nat := G.countP Nd.root
theorem roots_set {G : Gr} : ∀ {x : Nat} {d e : Nd}, G[x]? = some d → roots (G.set x e) + (if d.root = true then 1 else 0) = roots G + (if e.root = true then 1 else 0) := by
  unfold roots
  induction G with
  | nil => intro x d e h; simp at h
  | cons a r ih =>
    intro x d e h
    cases x with
    | zero =>
      simp at h; subst h
      simp only [List.set_cons_zero, List.countP_cons]
      omega
    | succ x =>
      simp at h
      have := ih (e := e) h
      simp only [List.set_cons_succ, List.countP_cons]
      omega
theorem get_set {G : Gr} {x y : Nat} {d : Nd} : (G.set x d)[y]? = if x = y then (if y < G.length then some d else none) else G[y]? := by
  rw [List.getElem?_set]
  split
  · rename_i h; subst h; rfl
  · rfl
theorem get_set_ne {G : Gr} {x y : Nat} {d : Nd} (h : x ≠ y) : (G.set x d)[y]? = G[y]? := by rw [List.getElem?_set_ne h]
theorem get_set_eq {G : Gr} {x : Nat} {d e : Nd} (h : G[x]? = some e) : (G.set x d)[x]? = some d := by
  rw [List.getElem?_set_self (List.getElem?_eq_some_iff.1 h).1]

section
variable {G : Gr} {a b : Nat} {d e : Nd}
/-- A root becomes the same as another one. -/
theorem Ends.linked (ha : G[a]? = some d) (hd : d.root = true) (hb : G[b]? = some e) (he : e.root = true) (hab : a ≠ b) {x r k : Nat} (h : Ends G x r k) :
    ∃ k', Ends (G.set a (.link b)) x (if r = a then b else r) k' := by
  have hb' : Ends (G.set a (.link b)) b b 0 := .here (by rw [get_set_ne hab]; exact hb) he
  induction h with
  | @here x' d' h1 h2 =>
    by_cases hx : x' = a
    · subst hx
      rw [if_pos rfl]
      exact ⟨1, .step (get_set_eq ha) hb'⟩
    · rw [if_neg hx]
      exact ⟨0, .here (by rw [get_set_ne (Ne.symm hx)]; exact h1) h2⟩
  | @step x' y' r' k' h1 _ ih =>
    obtain ⟨k2, h2⟩ := ih
    have hx : x' ≠ a := by rintro rfl; rw [ha] at h1; cases h1; cases hd
    exact ⟨k2 + 1, .step (by rw [get_set_ne (Ne.symm hx)]; exact h1) h2⟩
theorem Good.linked (hg : Good G) (ha : G[a]? = some d) (hd : d.root = true) (hb : G[b]? = some e) (he : e.root = true) (hab : a ≠ b) : Good (G.set a (.link b)) := by
  refine ⟨fun x hx => ?_, fun x p q h => ?_⟩
  · obtain ⟨r, k, h⟩ := hg.ends x (by simpa using hx)
    obtain ⟨k', h'⟩ := Ends.linked ha hd hb he hab h
    exact ⟨_, _, h'⟩
  · rw [get_set] at h
    split at h
    · split at h <;> simp at h
    · simpa using hg.arrow x p q h
/-- A longer way to a root becomes shorter. -/
theorem Ends.short {x y z : Nat} (hx : G[x]? = some (.link y)) (hy : G[y]? = some (.link z)) : ∀ {k u r : Nat}, Ends G u r k → ∃ k', k' ≤ k ∧ Ends (G.set x (.link z)) u r k' := by
  intro k
  induction k using Nat.strongRecOn with
  | _ k ih =>
    intro u r h
    cases h with
    | here h1 h2 =>
      have hu : x ≠ u := by rintro rfl; rw [hx] at h1; cases h1; cases h2
      exact ⟨0, Nat.le_refl _, .here (by rw [get_set_ne hu]; exact h1) h2⟩
    | step h1 h2 =>
      rename_i y' k1
      by_cases hu : x = u
      · subst hu
        rw [hx] at h1
        cases h1
        cases h2 with
        | here h3 h4 => rw [hy] at h3; cases h3; cases h4
        | step h3 h4 =>
          rename_i z' k2
          rw [hy] at h3
          cases h3
          obtain ⟨k', hk', hh⟩ := ih k2 (by omega) h4
          exact ⟨k' + 1, by omega, .step (get_set_eq hx) hh⟩
      · obtain ⟨k', hk', hh⟩ := ih k1 (by omega) h2
        exact ⟨k' + 1, by omega, .step (by rw [get_set_ne hu]; exact h1) hh⟩
theorem Good.short {x y z : Nat} (hx : G[x]? = some (.link y)) (hy : G[y]? = some (.link z)) (hg : Good G) : Good (G.set x (.link z)) := by
  refine ⟨fun u hu => ?_, fun u p q h => ?_⟩
  · obtain ⟨r, k, h⟩ := hg.ends u (by simpa using hu)
    obtain ⟨k', _, h'⟩ := Ends.short hx hy h
    exact ⟨_, _, h'⟩
  · rw [get_set] at h
    split at h
    · split at h <;> simp at h
    · simpa using hg.arrow u p q h
theorem Sol.short {x y z : Nat} (hx : G[x]? = some (.link y)) (hy : G[y]? = some (.link z)) (hyx : y ≠ x) {v : Nat → D} : Sol (G.set x (.link z)) v ↔ Sol G v := by
  constructor
  · intro h u d hu
    by_cases hux : x = u
    · subst hux
      rw [hx] at hu
      cases hu
      have h1 : v x = v z := h x (.link z) (get_set_eq hx)
      have h2 : v y = v z := h y (.link z) (by rw [get_set_ne (Ne.symm hyx)]; exact hy)
      exact h1.trans h2.symm
    · exact h u d (by rw [get_set_ne hux]; exact hu)
  · intro h u d hu
    rw [get_set] at hu
    split at hu
    · rename_i hux
      subst hux
      split at hu
      · cases hu
        have h1 : v x = v y := h x (.link y) hx
        have h2 : v y = v z := h y (.link z) hy
        exact h1.trans h2
      · cases hu
    · exact h u d hu
/-- What becomes of the trees where a root becomes the same as another one. -/
theorem Sol.linked (ha : G[a]? = some d) {v : Nat → D} : Sol (G.set a (.link b)) v ∧ d.says v a ↔ Sol G v ∧ v a = v b := by
  constructor
  · rintro ⟨h, h'⟩
    refine ⟨fun u e hu => ?_, h a (.link b) (get_set_eq ha)⟩
    by_cases hua : a = u
    · subst hua
      rw [ha] at hu
      cases hu
      exact h'
    · exact h u e (by rw [get_set_ne hua]; exact hu)
  · rintro ⟨h, h'⟩
    refine ⟨fun u e hu => ?_, h a d ha⟩
    rw [get_set] at hu
    split at hu
    · rename_i hua
      subst hua
      split at hu
      · cases hu; exact h'
      · cases hu
    · exact h u e hu
end

/-- What making two nodes the same makes of a graph. -/
structure Joined (G G' : Gr) (g h : Nat) (ok : Bool) : Prop where
  good : Good G'
  len : G'.length = G.length
  roots : roots G' ≤ roots G
  yes : ok = true → ∀ v, Sol G' v ↔ Sol G v ∧ v g = v h
  no : ok = false → ∀ v, Sol G v → v g ≠ v h
/-- Nothing but shorter ways. -/
structure Alike (G G' : Gr) : Prop where
  good : Good G'
  len : G'.length = G.length
  roots : roots G' = roots G
  sol : ∀ v, Sol G' v ↔ Sol G v
  stays : ∀ (x : Nat) (d : Nd), G[x]? = some d → d.root = true → G'[x]? = some d
  back : ∀ (x : Nat) (d : Nd), G'[x]? = some d → d.root = true → G[x]? = some d
theorem Alike.refl {G : Gr} (h : Good G) : Alike G G := ⟨h, rfl, rfl, fun _ => Iff.rfl, fun _ _ h _ => h, fun _ _ h _ => h⟩
theorem Alike.trans {G G' G'' : Gr} (h : Alike G G') (k : Alike G' G'') : Alike G G'' :=
  ⟨k.good, k.len.trans h.len, k.roots.trans h.roots, fun v => (k.sol v).trans (h.sol v), fun x d h1 h2 => k.stays x d (h.stays x d h1 h2) h2, fun x d h1 h2 => h.back x d (k.back x d h1 h2) h2⟩
theorem Alike.short {G : Gr} {x y z : Nat} (hx : G[x]? = some (.link y)) (hy : G[y]? = some (.link z)) (hg : Good G) : Alike G (G.set x (.link z)) := by
  refine ⟨hg.short hx hy, by simp, ?_, fun v => Sol.short hx hy (hg.link hx).2, fun u d h1 h2 => ?_, fun u d h1 h2 => ?_⟩
  · have := roots_set (e := .link z) hx
    simpa [Nd.root] using this
  · have : x ≠ u := by rintro rfl; rw [hx] at h1; cases h1; cases h2
    rw [get_set_ne this]; exact h1
  · rw [get_set] at h1
    split at h1
    · split at h1
      · cases h1; cases h2
      · cases h1
    · exact h1

/-- A root that is open becomes the same as another root. -/
theorem Joined.open_ {G : Gr} {a b : Nat} {e : Nd} (hg : Good G) (ha : G[a]? = some .open_) (hb : G[b]? = some e) (he : e.root = true) (hab : a ≠ b) : Joined G (G.set a (.link b)) a b true := by
  refine ⟨hg.linked ha rfl hb he hab, by simp, ?_, fun _ v => ?_, fun h => by cases h⟩
  · have := roots_set (e := .link b) ha
    simp [Nd.root] at this
    omega
  · have := Sol.linked (b := b) ha (v := v)
    simpa [Nd.says] using this
theorem Joined.tree {G : Gr} {a b : Nat} (hg : Good G) (ha : G[a]? = some .tree) (hb : G[b]? = some .tree) (hab : a ≠ b) : Joined G (G.set a (.link b)) a b true := by
  refine ⟨hg.linked ha rfl hb rfl hab, by simp, ?_, fun _ v => ?_, fun h => by cases h⟩
  · have := roots_set (e := .link b) ha
    simp [Nd.root] at this
    omega
  · have := Sol.linked (b := b) ha (v := v)
    rw [← this]
    refine ⟨fun h => ⟨h, ?_⟩, fun h => h.1⟩
    have h1 : v a = v b := h a (.link b) (get_set_eq ha)
    have h2 : v b = D.o := h b .tree (by rw [get_set_ne hab]; exact hb)
    exact h1.trans h2
theorem Joined.swap {G G' : Gr} {g h : Nat} {ok : Bool} (j : Joined G G' g h ok) : Joined G G' h g ok :=
  ⟨j.good, j.len, j.roots, fun e v => by rw [j.yes e v]; exact and_congr_right fun _ => eq_comm, fun e v hv hh => j.no e v hv hh.symm⟩
theorem Joined.same {G : Gr} (hg : Good G) (g : Nat) : Joined G G g g true := ⟨hg, rfl, Nat.le_refl _, fun _ v => by simp, fun h => by cases h⟩
theorem Joined.differ1 {G : Gr} {a b p q : Nat} (hg : Good G) (ha : G[a]? = some .tree) (hb : G[b]? = some (.arrow p q)) : Joined G G a b false :=
  ⟨hg, rfl, Nat.le_refl _, (fun h => by cases h), fun _ v hv h => D.arr_ne ((hv b (.arrow p q) hb).symm.trans (h.symm.trans (hv a .tree ha)))⟩
/-- Both are arrows: what they are from, and to, becomes the same. -/
theorem Joined.arrows {G G1 G2 : Gr} {a b p q r s : Nat} {ok : Bool} (ha : G[a]? = some (.arrow p q)) (hb : G[b]? = some (.arrow r s)) (hab : a ≠ b)
    (h1 : Joined (G.set a (.link b)) G1 p r true) (h2 : Joined G1 G2 q s ok) : Joined G G2 a b ok := by
  have hr := roots_set (e := .link b) ha
  simp [Nd.root] at hr
  have hl1 := h1.len
  have hl2 := h2.len
  have hr1 := h1.roots
  have hr2 := h2.roots
  simp at hl1
  have key : ∀ v, Sol (G.set a (.link b)) v → v p = v r → v q = v s → v a = D.arr (v p) (v q) := by
    intro v hv e1 e2
    have g1 : v a = v b := hv a (.link b) (get_set_eq ha)
    have g2 : v b = D.arr (v r) (v s) := hv b (.arrow r s) (by rw [get_set_ne hab]; exact hb)
    rw [g1, g2, e1, e2]
  refine ⟨h2.good, by omega, by omega, fun e v => ?_, fun e v hv hh => ?_⟩
  · rw [h2.yes e v, h1.yes rfl v, ← Sol.linked ha]
    constructor
    · rintro ⟨⟨g1, g2⟩, g3⟩
      exact ⟨g1, key v g1 g2 g3⟩
    · rintro ⟨g1, g2⟩
      have g2' : v a = D.arr (v p) (v q) := g2
      have g3 : v a = v b := g1 a (.link b) (get_set_eq ha)
      have g4 : v b = D.arr (v r) (v s) := g1 b (.arrow r s) (by rw [get_set_ne hab]; exact hb)
      obtain ⟨e1, e2⟩ := D.arr_inj (g2'.symm.trans (g3.trans g4))
      exact ⟨⟨g1, e1⟩, e2⟩
  · have g := (Sol.linked (b := b) ha).2 ⟨hv, hh⟩
    have g3 : v a = D.arr (v p) (v q) := hv a (.arrow p q) ha
    have g4 : v b = D.arr (v r) (v s) := hv b (.arrow r s) hb
    obtain ⟨e1, e2⟩ := D.arr_inj (g3.symm.trans (hh.trans g4))
    exact h2.no e v ((h1.yes rfl v).2 ⟨g.1, e1⟩) e2
theorem Joined.arrowsNo {G G1 : Gr} {a b p q r s : Nat} (ha : G[a]? = some (.arrow p q)) (hb : G[b]? = some (.arrow r s)) 
    (h1 : Joined (G.set a (.link b)) G1 p r false) : Joined G G1 a b false := by
  have hr := roots_set (e := .link b) ha
  simp [Nd.root] at hr
  have hl1 := h1.len
  have hr1 := h1.roots
  simp at hl1
  refine ⟨h1.good, by omega, by omega, (fun h => by cases h), fun _ v hv hh => ?_⟩
  have g := (Sol.linked (b := b) ha).2 ⟨hv, hh⟩
  have g3 : v a = D.arr (v p) (v q) := hv a (.arrow p q) ha
  have g4 : v b = D.arr (v r) (v s) := hv b (.arrow r s) hb
  obtain ⟨e1, _⟩ := D.arr_inj (g3.symm.trans (hh.trans g4))
  exact h1.no rfl v g.1 e1
/-- The ways to the two roots, walked first, change nothing. -/
theorem Joined.ahead {G G1 G2 : Gr} {g h a b : Nat} {k l : Nat} {ok : Bool} (hs : Alike G G1) (hg : Ends G g a k) (hh : Ends G h b l) (j : Joined G1 G2 a b ok) : Joined G G2 g h ok := by
  have hl := hs.len
  have hr := hs.roots
  have hl2 := j.len
  have hr2 := j.roots
  refine ⟨j.good, by omega, by omega, fun e v => ?_, fun e v hv hh' => ?_⟩
  · rw [j.yes e v, hs.sol v]
    exact and_congr_right fun hv => by rw [hv.ends hg, hv.ends hh]
  · exact j.no e v ((hs.sol v).2 hv) (by rw [← hv.ends hg, ← hv.ends hh]; exact hh')

/-- New nodes. -/
theorem Ends.more {G M : Gr} {x r k : Nat} (h : Ends G x r k) : Ends (G ++ M) x r k := by
  induction h with
  | here h1 h2 => exact .here (by rw [List.getElem?_append_left (List.getElem?_eq_some_iff.1 h1).1]; exact h1) h2
  | step h1 _ ih => exact .step (by rw [List.getElem?_append_left (List.getElem?_eq_some_iff.1 h1).1]; exact h1) ih
theorem Good.more {G : Gr} (h : Good G) {d : Nd} (hd : d.root = true) (ha : ∀ a b, d = .arrow a b → a ≤ G.length ∧ b ≤ G.length) : Good (G ++ [d]) := by
  refine ⟨fun x hx => ?_, fun x a b hx => ?_⟩
  · simp at hx
    rcases Nat.lt_or_ge x G.length with hlt | hge
    · obtain ⟨r, k, hk⟩ := h.ends x hlt
      exact ⟨r, k, hk.more⟩
    · have : x = G.length := by omega
      subst this
      exact ⟨_, 0, .here (d := d) (by simp) hd⟩
  · simp only [List.length_append, List.length_cons, List.length_nil]
    rcases Nat.lt_or_ge x G.length with hlt | hge
    · rw [List.getElem?_append_left hlt] at hx
      have := h.arrow x a b hx
      omega
    · rw [List.getElem?_append_right hge] at hx
      have hx0 : x - G.length = 0 := by
        have := (List.getElem?_eq_some_iff.1 hx).1
        simp at this; omega
      rw [hx0] at hx
      simp at hx
      have := ha a b hx
      omega
theorem Sol.more {G : Gr} {d : Nd} {v : Nat → D} : Sol (G ++ [d]) v ↔ Sol G v ∧ d.says v G.length := by
  constructor
  · intro h
    exact ⟨fun x e hx => h x e (by rw [List.getElem?_append_left (List.getElem?_eq_some_iff.1 hx).1]; exact hx), h G.length d (by simp)⟩
  · rintro ⟨h1, h2⟩ x e hx
    rcases Nat.lt_or_ge x G.length with hlt | hge
    · rw [List.getElem?_append_left hlt] at hx
      exact h1 x e hx
    · rw [List.getElem?_append_right hge] at hx
      have hx0 : x - G.length = 0 := by
        have := (List.getElem?_eq_some_iff.1 hx).1
        simp at this; omega
      have hx1 : x = G.length := by omega
      subst hx1
      simp at hx
      subst hx
      exact h2
theorem Sol.congr {G : Gr} (hg : Good G) {v u : Nat → D} (h : ∀ x, x < G.length → u x = v x) (hv : Sol G v) : Sol G u := by
  intro x d hx
  have hl := (List.getElem?_eq_some_iff.1 hx).1
  have := hv x d hx
  cases d with
  | open_ => trivial
  | tree => exact (h x hl).trans this
  | arrow a b =>
    obtain ⟨h1, h2⟩ := hg.arrow x a b hx
    show u x = D.arr (u a) (u b)
    rw [h x hl, h a h1, h b h2]
    exact this
  | link y =>
    show u x = u y
    rw [h x hl, h y (hg.link hx).1]
    exact this

/-- The trees where what is not known is o. -/
structure Can (G : Gr) (v : Nat → D) : Prop where
  sol : Sol G v
  open_ : ∀ (x : Nat), G[x]? = some Nd.open_ → v x = D.o
theorem Can.alike {G G' : Gr} {v : Nat → D} (h : Can G v) (ha : Alike G G') : Can G' v :=
  ⟨(ha.sol v).2 h.sol, fun x hx => h.open_ x (ha.back x _ hx rfl)⟩
/-- Whether there is an arrow at the end of a path from a node. -/
def unfoldG (G : Gr) (root : Nat → Nat) : List Bool → Nat → Bool
  | [], x => match G[root x]? with
    | some (.arrow _ _) => true
    | _ => false
  | c :: q, x => match G[root x]? with
    | some (.arrow a b) => unfoldG G root q (match c with | true => b | false => a)
    | _ => false
theorem Can.exists {G : Gr} (hg : Good G) : ∃ v, Can G v := by
  have h : ∀ x : Nat, ∃ r : Nat, x < G.length → ∃ k, Ends G x r k := by
    intro x
    by_cases hx : x < G.length
    · obtain ⟨r, k, h⟩ := hg.ends x hx
      exact ⟨r, fun _ => ⟨k, h⟩⟩
    · exact ⟨0, fun h => absurd h hx⟩
  obtain ⟨root, hroot⟩ := Classical.axiomOfChoice h
  have hself : ∀ (x : Nat) (d : Nd), G[x]? = some d → d.root = true → root x = x := by
    intro x d hx hd
    obtain ⟨k, hk⟩ := hroot x (List.getElem?_eq_some_iff.1 hx).1
    exact (hk.same (.here hx hd)).1
  refine ⟨fun x p => unfoldG G root p x, fun x d hx => ?_, fun x hx => ?_⟩
  · cases d with
    | open_ => trivial
    | tree =>
      funext p
      have e := hself x _ hx rfl
      cases p <;> simp [unfoldG, e, hx, D.o]
    | arrow a b =>
      funext p
      have e := hself x _ hx rfl
      cases p with
      | nil => simp [unfoldG, e, hx, D.arr]
      | cons c q => cases c <;> simp [unfoldG, e, hx, D.arr]
    | link y =>
      obtain ⟨k, hk⟩ := hroot x (List.getElem?_eq_some_iff.1 hx).1
      obtain ⟨k2, hk2⟩ := hroot y (hg.link hx).1
      have e := (hk.same (.step hx hk2)).1
      funext p
      cases p <;> simp [unfoldG, e]
  · funext p
    have e := hself x _ hx rfl
    cases p <;> simp [unfoldG, e, hx, D.o]
theorem Can.le {G : Gr} {v u : Nat → D} (hg : Good G) (hv : Can G v) (hu : Sol G u) : ∀ (p : List Bool) (x : Nat), x < G.length → v x p = true → u x p = true := by
  intro p
  induction p with
  | nil =>
    intro x hx h
    obtain ⟨r, k, hk⟩ := hg.ends x hx
    rw [hv.sol.ends hk] at h
    rw [hu.ends hk]
    obtain ⟨d, h1, h2⟩ := hk.at_
    cases d with
    | open_ => rw [hv.open_ r h1] at h; cases h
    | tree => rw [show v r = D.o from hv.sol r _ h1] at h; cases h
    | arrow a b => rw [show u r = D.arr (u a) (u b) from hu r _ h1]; rfl
    | link y => cases h2
  | cons c q ih =>
    intro x hx h
    obtain ⟨r, k, hk⟩ := hg.ends x hx
    rw [hv.sol.ends hk] at h
    rw [hu.ends hk]
    obtain ⟨d, h1, h2⟩ := hk.at_
    cases d with
    | open_ => rw [hv.open_ r h1] at h; cases h
    | tree => rw [show v r = D.o from hv.sol r _ h1] at h; cases h
    | arrow a b =>
      obtain ⟨ha, hb⟩ := hg.arrow r a b h1
      rw [show u r = D.arr (u a) (u b) from hu r _ h1]
      rw [show v r = D.arr (v a) (v b) from hv.sol r _ h1] at h
      cases c with
      | false => exact ih a ha h
      | true => exact ih b hb h
    | link y => cases h2
theorem Can.root_o {G : Gr} {v : Nat → D} (hv : Can G v) {r : Nat} {d : Nd} (hd : G[r]? = some d) (hr : d.root = true) (h : v r = D.o) : d = .open_ ∨ d = .tree := by
  cases d with
  | open_ => exact .inl rfl
  | tree => exact .inr rfl
  | arrow a b => exact (D.arr_ne ((hv.sol r _ hd).symm.trans h)).elim
  | link y => cases hr
theorem Can.root_arr {G : Gr} {v : Nat → D} (hv : Can G v) {r : Nat} {d : Nd} {p q : D} (hd : G[r]? = some d) (hr : d.root = true) (h : v r = D.arr p q) : ∃ a b, d = .arrow a b ∧ v a = p ∧ v b = q := by
  cases d with
  | open_ => exact (D.arr_ne (h.symm.trans (hv.open_ r hd))).elim
  | tree => exact (D.arr_ne (h.symm.trans (hv.sol r _ hd))).elim
  | arrow a b =>
    obtain ⟨h1, h2⟩ := D.arr_inj ((hv.sol r _ hd).symm.trans h)
    exact ⟨a, b, rfl, h1, h2⟩
  | link y => cases hr
end Go.Proofs.YtkkfdiidneoelaaDoor
