/-
  Sorts as plain trees, and what it is for a value in memory to be one: no program is named here.
-/
import Derived.WalkKit
import Derived.WalkSpells
import Derived.WalkLawsBesides
import Derived.Lib.Hide
import Derived.Deep.Draws
namespace Go.Proofs.YtkkfdiidneoelaaDoor
open Go.RowKit

/-- A sort: the list of its arguments. -/
inductive S where
  | mk (args : List S)
def S.args : S → List S | .mk l => l
theorem S.eta (s : S) : S.mk s.args = s := by cases s; rfl

mutual
/-- The nodes. -/
def S.count : S → Nat
  | .mk l => 1 + S.countL l
def S.countL : List S → Nat
  | [] => 0
  | s :: r => s.count + S.countL r
end
mutual
/-- The depth. -/
def S.deep : S → Nat
  | .mk l => S.deepL l + 1
def S.deepL : List S → Nat
  | [] => 0
  | s :: r => max s.deep (S.deepL r)
end
mutual
/-- The order. -/
def S.ord : S → Nat
  | .mk l => S.ordL l
def S.ordL : List S → Nat
  | [] => 0
  | s :: r => max (1 + s.ord) (S.ordL r)
end
mutual
/-- No sort in it has more than 8 arguments. -/
def S.few : S → Bool
  | .mk l => S.fewL l && decide (l.length ≤ 8)
def S.fewL : List S → Bool
  | [] => true
  | s :: r => s.few && S.fewL r
end

/-- The sort is valid. -/
def S.ok (s : S) : Bool := decide (s.count ≤ 60) && decide (s.deep ≤ 30) && s.few
theorem S.count_pos (s : S) : 0 < s.count := by cases s; simp only [S.count]; omega
theorem S.countL_take_succ (l : List S) (k : Nat) (x : S) (h : l[k]? = some x) : S.countL (l.take (k + 1)) = S.countL (l.take k) + x.count := by
  induction l generalizing k with
  | nil => simp at h
  | cons a r ih =>
    cases k with
    | zero => simp at h; subst h; simp [S.countL]
    | succ k => simp at h; simp [S.countL, ih k h]; omega
theorem S.countL_take_le (l : List S) (k : Nat) : S.countL (l.take k) ≤ S.countL l := by
  induction l generalizing k with
  | nil => simp
  | cons a r ih => cases k with
    | zero => simp [S.countL]
    | succ k => simp [S.countL]; exact ih k
theorem S.count_lt {l : List S} {k : Nat} {x : S} (h : l[k]? = some x) : x.count < (S.mk l).count := by
  have h1 := S.countL_take_succ l k x h
  have h2 := S.countL_take_le l (k + 1)
  simp only [S.count]; omega

theorem S.deepL_take_succ (l : List S) (k : Nat) (x : S) (h : l[k]? = some x) : S.deepL (l.take (k + 1)) = max (S.deepL (l.take k)) x.deep := by
  induction l generalizing k with
  | nil => simp at h
  | cons a r ih =>
    cases k with
    | zero => simp at h; subst h; simp [S.deepL]
    | succ k => simp at h; simp [S.deepL, ih k h, Nat.max_assoc]
theorem S.deepL_take_le (l : List S) (k : Nat) : S.deepL (l.take k) ≤ S.deepL l := by
  induction l generalizing k with
  | nil => simp
  | cons a r ih => cases k with
    | zero => simp [S.deepL]
    | succ k => have := ih k; simp [S.deepL]; omega
theorem S.ordL_take_le (l : List S) (k : Nat) : S.ordL (l.take k) ≤ S.ordL l := by
  induction l generalizing k with
  | nil => simp
  | cons a r ih => cases k with
    | zero => simp [S.ordL]
    | succ k => have := ih k; simp [S.ordL]; omega
theorem S.fewL_take_succ (l : List S) (k : Nat) (x : S) (h : l[k]? = some x) : S.fewL (l.take (k + 1)) = (S.fewL (l.take k) && x.few) := by
  induction l generalizing k with
  | nil => simp at h
  | cons a r ih =>
    cases k with
    | zero => simp at h; subst h; simp [S.fewL]
    | succ k => simp at h; simp [S.fewL, ih k h, Bool.and_assoc]
theorem S.fewL_false (l : List S) (k : Nat) (x : S) (h : l[k]? = some x) (hx : x.few = false) : S.fewL l = false := by
  induction l generalizing k with
  | nil => simp at h
  | cons a r ih =>
    cases k with
    | zero => simp at h; subst h; simp [S.fewL, hx]
    | succ k => simp at h; simp [S.fewL, ih k h]
theorem S.ordL_take_succ (l : List S) (k : Nat) (x : S) (h : l[k]? = some x) : S.ordL (l.take (k + 1)) = max (S.ordL (l.take k)) (1 + x.ord) := by
  induction l generalizing k with
  | nil => simp at h
  | cons a r ih =>
    cases k with
    | zero => simp at h; subst h; simp [S.ordL]
    | succ k => simp at h; simp [S.ordL, ih k h, Nat.max_assoc]
mutual
theorem S.deep_le : ∀ s : S, s.deep ≤ s.count
  | .mk l => by have := S.deepL_le l; simp only [S.deep, S.count]; omega
theorem S.deepL_le : ∀ l : List S, S.deepL l ≤ S.countL l
  | [] => by simp [S.deepL]
  | s :: r => by have := S.deep_le s; have := S.deepL_le r; simp only [S.deepL, S.countL]; omega
end
mutual
theorem S.ord_lt : ∀ s : S, s.ord < s.deep
  | .mk l => by have := S.ordL_le l; simp only [S.deep, S.ord]; omega
theorem S.ordL_le : ∀ l : List S, S.ordL l ≤ S.deepL l
  | [] => by simp [S.ordL]
  | s :: r => by have := S.ord_lt s; have := S.ordL_le r; simp only [S.deepL, S.ordL]; omega
end
mutual
/-- A cell's value is the sort: a slice, whose elements lie in blocks from lo to hi and are its arguments. -/
def S.In (w : World) (lo hi : Nat) : S → Value → Prop
  | .mk l, v => ∃ A n c, v = .slice A n c ∧ l.length = n ∧ n ≤ c ∧ c ≤ 9223372036854775807 ∧ S.All w lo hi A 0 l
def S.All (w : World) (lo hi : Nat) (A : Option Addr) : Nat → List S → Prop
  | _, [] => True
  | i, s :: r => (∃ ad u, A = some ad ∧ lo ≤ ad.block ∧ ad.block < hi ∧ w.cell? (ad.add i) = some u ∧ s.In w lo hi u) ∧ S.All w lo hi A (i + 1) r
end

theorem block_of_add (a : Addr) (n : Nat) : (a.add n).block = a.block := by unfold Addr.add; split <;> rfl
theorem add_of_add (a : Addr) (i j : Nat) : (a.add i).add j = a.add (i + j) := by
  unfold Addr.add
  by_cases hi : i = 0 <;> by_cases hj : j = 0 <;> simp [hi, hj, Nat.add_assoc]

theorem S.All.at_ {w : World} {lo hi : Nat} {A : Option Addr} {l : List S} : ∀ {i : Nat}, S.All w lo hi A i l → ∀ {j : Nat} {x : S}, l[j]? = some x →
    ∃ ad u, A = some ad ∧ lo ≤ ad.block ∧ ad.block < hi ∧ w.cell? (ad.add (i + j)) = some u ∧ x.In w lo hi u := by
  induction l with
  | nil => intro i _ j x h; simp at h
  | cons a r ih =>
    intro i h j x hx
    simp only [S.All] at h
    cases j with
    | zero => simp at hx; subst hx; simpa using h.1
    | succ j =>
      simp at hx
      have := ih h.2 hx
      rwa [show i + 1 + j = i + (j + 1) from by omega] at this
theorem S.All.mk_ {w : World} {lo hi : Nat} {A : Option Addr} {l : List S} : ∀ {i : Nat}, (∀ j x, l[j]? = some x →
    ∃ ad u, A = some ad ∧ lo ≤ ad.block ∧ ad.block < hi ∧ w.cell? (ad.add (i + j)) = some u ∧ x.In w lo hi u) → S.All w lo hi A i l := by
  induction l with
  | nil => intro i _; simp [S.All]
  | cons a r ih =>
    intro i h
    simp only [S.All]
    refine ⟨by simpa using h 0 a rfl, ih fun j x hx => ?_⟩
    have := h (j + 1) x (by simpa using hx)
    rwa [show i + (j + 1) = i + 1 + j from by omega] at this

mutual
theorem S.In.keep {w w' : World} {lo hi : Nat} (hb : ∀ p : Addr, lo ≤ p.block → p.block < hi → w'.cell? p = w.cell? p) : ∀ (s : S) {v : Value}, s.In w lo hi v → s.In w' lo hi v
  | .mk l, v, h => by
    simp only [S.In] at h ⊢
    obtain ⟨A, n, c, h1, h2, h3, h4, h5⟩ := h
    exact ⟨A, n, c, h1, h2, h3, h4, S.All.keep hb l h5⟩
theorem S.All.keep {w w' : World} {lo hi : Nat} (hb : ∀ p : Addr, lo ≤ p.block → p.block < hi → w'.cell? p = w.cell? p) {A : Option Addr} : ∀ (l : List S) {i : Nat}, S.All w lo hi A i l → S.All w' lo hi A i l
  | [], i, _ => by simp [S.All]
  | s :: r, i, h => by
    simp only [S.All] at h ⊢
    obtain ⟨⟨ad, u, h1, h2, h3, h4, h5⟩, h6⟩ := h
    exact ⟨⟨ad, u, h1, h2, h3, (hb _ (by rw [block_of_add]; exact h2) (by rw [block_of_add]; exact h3)).trans h4, S.In.keep hb s h5⟩, S.All.keep hb r h6⟩
end
mutual
theorem S.In.more {w : World} {lo hi lo' hi' : Nat} (hl : lo' ≤ lo) (hh : hi ≤ hi') : ∀ (s : S) {v : Value}, s.In w lo hi v → s.In w lo' hi' v
  | .mk l, v, h => by
    simp only [S.In] at h ⊢
    obtain ⟨A, n, c, h1, h2, h3, h4, h5⟩ := h
    exact ⟨A, n, c, h1, h2, h3, h4, S.All.more hl hh l h5⟩
theorem S.All.more {w : World} {lo hi lo' hi' : Nat} (hl : lo' ≤ lo) (hh : hi ≤ hi') {A : Option Addr} : ∀ (l : List S) {i : Nat}, S.All w lo hi A i l → S.All w lo' hi' A i l
  | [], i, _ => by simp [S.All]
  | s :: r, i, h => by
    simp only [S.All] at h ⊢
    obtain ⟨⟨ad, u, h1, h2, h3, h4, h5⟩, h6⟩ := h
    exact ⟨⟨ad, u, h1, by omega, by omega, h4, S.In.more hl hh s h5⟩, S.All.more hl hh r h6⟩
end
theorem S.In.form {w : World} {lo hi : Nat} {s : S} {v : Value} (h : s.In w lo hi v) : ∃ A n c, v = .slice A n c := by
  obtain ⟨l⟩ := s
  simp only [S.In] at h
  obtain ⟨A, n, c, h1, _⟩ := h
  exact ⟨A, n, c, h1⟩
theorem S.In.below {w w' : World} {B lo hi : Nat} {s : S} {v : Value} (h : s.In w lo hi v) (hb : Below B w w') (hB : hi ≤ B) : s.In w' lo hi v :=
  S.In.keep (fun p _ hp => hb.cell (by omega)) s h

/-- A block known whole. -/
def Blk (w : World) (g : Nat) (t : TypeId) (cs : Array Value) : Prop := w.heap[g]? = some (.cells cs t (0, 0))
section
variable {w w' : World} {g : Nat} {t : TypeId} {cs : Array Value}
theorem Blk.lt (h : Blk w g t cs) : g < w.heap.size := by
  rcases Nat.lt_or_ge g w.heap.size with hlt | hge
  · exact hlt
  · unfold Blk at h; rw [Array.getElem?_eq_none hge] at h; cases h
theorem Blk.cell (h : Blk w g t cs) (i : Nat) : w.cell? ⟨g, i, none⟩ = cs[i]? := cell_of_row w g i cs t (0, 0) h
theorem Blk.frozen (h : Blk w g t cs) (i : Nat) : w.frozen? ⟨g, i, none⟩ = false := by
  unfold Blk at h
  simp [World.frozen?, h]
theorem Blk.new (w : World) (t : TypeId) (cs : Array Value) : Blk (w.alloc (.cells cs t)) w.heap.size t cs := heap_alloc_new w _
theorem Blk.drew (h : Blk w g t cs) : Blk w.drew g t cs := h
theorem Blk.drewN (h : Blk w g t cs) (n : Nat) : Blk (w.drewN n) g t cs := h
theorem Blk.alloc (h : Blk w g t cs) (o : Obj) : Blk (w.alloc o) g t cs := (Below.heap_alloc w o g h.lt).trans h
theorem Blk.set_ (h : Blk w g t cs) (i : Nat) (u : Value) : Blk (w.setCell ⟨g, i, none⟩ u) g t (cs.setIfInBounds i u) := by
  unfold Blk at h ⊢
  simp [World.setCell, Array.getElem?_modify, h]
theorem Blk.far (h : Blk w g t cs) {p : Addr} (hp : g ≠ p.block) (u : Value) : Blk (w.setCell p u) g t cs := (Below.heap_setCell w p u g hp).trans h
theorem Blk.eq_ {cs' : Array Value} (h : Blk w g t cs) (e : cs = cs') : Blk w g t cs' := e ▸ h
theorem Blk.below {B : Nat} (h : Blk w g t cs) (hb : Below B w w') (hg : g < B) : Blk w' g t cs := (hb.block g hg).trans h
end
/-- Of the blocks that there were, only those of M may have turned. -/
structure Saves (M : Nat → Prop) (w w' : World) : Prop where
  os : w'.os = w.os
  tape : w'.tape = w.tape
  output : w'.output = w.output
  size : w.heap.size ≤ w'.heap.size
  block : ∀ k, k < w.heap.size → ¬ M k → w'.heap[k]? = w.heap[k]?
section
variable {M : Nat → Prop} {w w' w'' : World}
theorem Saves.refl (M : Nat → Prop) (w : World) : Saves M w w := ⟨rfl, rfl, rfl, Nat.le_refl _, fun _ _ _ => rfl⟩
theorem Saves.trans (h : Saves M w w') (k : Saves M w' w'') : Saves M w w'' :=
  ⟨k.os.trans h.os, k.tape.trans h.tape, k.output.trans h.output, Nat.le_trans h.size k.size, fun i hi hm => (k.block i (Nat.lt_of_lt_of_le hi h.size) hm).trans (h.block i hi hm)⟩
theorem Saves.of_below (h : Below w.heap.size w w') : Saves M w w' := ⟨h.os, h.tape, h.output, h.size, fun k hk _ => h.block k hk⟩
theorem Saves.below {B : Nat} (h : Saves M w w') (hB : B ≤ w.heap.size) (hM : ∀ k, k < B → ¬ M k) : Below B w w' := ⟨h.os, h.tape, h.output, h.size, fun k hk => h.block k (by omega) (hM k hk)⟩
theorem Saves.alloc (h : Saves M w w') (o : Obj) : Saves M w (w'.alloc o) := h.trans (Saves.of_below ((Below.refl _ _).alloc (Nat.le_refl _) o))
theorem Saves.drew (h : Saves M w w') : Saves M w w'.drew := ⟨h.os, h.tape, h.output, h.size, h.block⟩
theorem Saves.setCell (h : Saves M w w') {p : Addr} (hp : M p.block ∨ w.heap.size ≤ p.block) (u : Value) : Saves M w (w'.setCell p u) :=
  ⟨h.os, h.tape, h.output, by simpa [World.setCell] using h.size, fun k hk hm => (Below.heap_setCell w' p u k (by
    rintro rfl
    rcases hp with hp | hp
    · exact hm hp
    · omega)).trans (h.block k hk hm)⟩
theorem Saves.mono {M' : Nat → Prop} (h : Saves M w w') (hM : ∀ k, k < w.heap.size → M k → M' k) : Saves M' w w' := ⟨h.os, h.tape, h.output, h.size, fun k hk hm => h.block k hk (fun hh => hm (hM k hk hh))⟩
theorem Blk.saves {g : Nat} {t : TypeId} {cs : Array Value} (h : Blk w g t cs) (hs : Saves M w w') (hg : ¬ M g) : Blk w' g t cs := (hs.block g h.lt hg).trans h
theorem S.In.saves {lo hi : Nat} {s : S} {v : Value} (h : s.In w lo hi v) (hs : Saves M w w') (hh : hi ≤ w.heap.size) (hM : ∀ k, lo ≤ k → k < hi → ¬ M k) : s.In w' lo hi v :=
  S.In.keep (fun p hp hp' => World.cell?_of_block (hs.block p.block (by omega) (hM _ hp hp'))) s h
end
theorem below_drewN {B : Nat} {a w : World} (h : Below B a w) (n : Nat) : Below B a (w.drewN n) := ⟨h.os, h.tape, h.output, h.size, h.block⟩
theorem bcell {B : Nat} {W w1 : World} (hb : Below B W w1) : (∀ b o, b < B → w1.cell? ⟨b, o, none⟩ = W.cell? ⟨b, o, none⟩) ∧ (∀ b o, b < B → w1.frozen? ⟨b, o, none⟩ = W.frozen? ⟨b, o, none⟩) :=
  ⟨fun b o h => hb.cell (p := ⟨b, o, none⟩) h, fun b o h => hb.frozen (p := ⟨b, o, none⟩) h⟩
end Go.Proofs.YtkkfdiidneoelaaDoor
