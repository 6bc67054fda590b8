/-
  Terms as plain trees, and what it is for a value in memory to be one.
-/
import Derived.Test.YtkkfdiidneoelaaDoorMem
import Derived.OwnWalk
namespace Go.Proofs.YtkkfdiidneoelaaDoor
open Go.RowKit

/-- A term: kind and number of its head, and its arguments. -/
inductive T where
  | mk (k n : Int) (args : List T)
def T.kind : T → Int | .mk k _ _ => k
def T.num : T → Int | .mk _ n _ => n
def T.args : T → List T | .mk _ _ l => l
instance : Inhabited T := ⟨.mk 0 0 []⟩
mutual
def T.count : T → Nat
  | .mk _ _ l => 1 + T.countL l
def T.countL : List T → Nat
  | [] => 0
  | s :: r => s.count + T.countL r
end
mutual
def T.deep : T → Nat
  | .mk _ _ l => T.deepL l + 1
def T.deepL : List T → Nat
  | [] => 0
  | s :: r => max s.deep (T.deepL r)
end
mutual
/-- Kinds and numbers are numbers of 64 bits. -/
def T.fit : T → Prop
  | .mk k n l => (-9223372036854775808 ≤ k ∧ k ≤ 9223372036854775807) ∧ (-9223372036854775808 ≤ n ∧ n ≤ 9223372036854775807) ∧ T.fitL l
def T.fitL : List T → Prop
  | [] => True
  | s :: r => s.fit ∧ T.fitL r
end
theorem T.fitL_at : ∀ {l : List T}, T.fitL l → ∀ {k : Nat} {x : T}, l[k]? = some x → x.fit
  | [], _, k, x, h => by simp at h
  | a :: r, hf, k, x, h => by
    simp only [T.fitL] at hf
    cases k with
    | zero => simp at h; subst h; exact hf.1
    | succ k => simp at h; exact T.fitL_at hf.2 h
theorem T.count_pos (s : T) : 0 < s.count := by cases s; simp only [T.count]; omega
theorem T.countL_take_succ (l : List T) (k : Nat) (x : T) (h : l[k]? = some x) : T.countL (l.take (k + 1)) = T.countL (l.take k) + x.count := by
  induction l generalizing k with
  | nil => simp at h
  | cons a r ih =>
    cases k with
    | zero => simp at h; subst h; simp [T.countL]
    | succ k => simp at h; simp [T.countL, ih k h]; omega
theorem T.countL_take_le (l : List T) (k : Nat) : T.countL (l.take k) ≤ T.countL l := by
  induction l generalizing k with
  | nil => simp
  | cons a r ih => cases k with
    | zero => simp [T.countL]
    | succ k => simp [T.countL]; exact ih k
theorem T.count_lt {l : List T} {k : Nat} {x : T} (h : l[k]? = some x) {a b : Int} : x.count < (T.mk a b l).count := by
  have h1 := T.countL_take_succ l k x h
  have h2 := T.countL_take_le l (k + 1)
  simp only [T.count]; omega
theorem T.countL_bound (l : List T) (k : Nat) (hk : k ≤ l.length) : k ≤ T.countL (l.take k) := by
  induction l generalizing k with
  | nil => simp at hk; omega
  | cons a r ih =>
    cases k with
    | zero => omega
    | succ k => simp at hk; have := ih k hk; have := a.count_pos; simp [T.countL]; omega
theorem T.length_le (l : List T) : l.length ≤ T.countL l := by have := T.countL_bound l l.length (Nat.le_refl _); rwa [List.take_length] at this
theorem T.deepL_take_succ (l : List T) (k : Nat) (x : T) (h : l[k]? = some x) : T.deepL (l.take (k + 1)) = max (T.deepL (l.take k)) x.deep := by
  induction l generalizing k with
  | nil => simp at h
  | cons a r ih =>
    cases k with
    | zero => simp at h; subst h; simp [T.deepL]
    | succ k => simp at h; simp [T.deepL, ih k h, Nat.max_assoc]
theorem T.deepL_take_le (l : List T) (k : Nat) : T.deepL (l.take k) ≤ T.deepL l := by
  induction l generalizing k with
  | nil => simp
  | cons a r ih => cases k with
    | zero => simp [T.deepL]
    | succ k => have := ih k; simp [T.deepL]; omega
mutual
theorem T.deep_le : ∀ s : T, s.deep ≤ s.count
  | .mk _ _ l => by have := T.deepL_le l; simp only [T.deep, T.count]; omega
theorem T.deepL_le : ∀ l : List T, T.deepL l ≤ T.countL l
  | [] => by simp [T.deepL]
  | s :: r => by have := T.deep_le s; have := T.deepL_le r; simp only [T.deepL, T.countL]; omega
end

/-- The cells from an address on, in a block of which P holds; none is asked for where there are none. -/
def Rd (w : World) (P : Nat → Prop) (A : Option Addr) (us : List Value) : Prop :=
  us = [] ∨ ∃ ad, A = some ad ∧ P ad.block ∧ ∀ j u, us[j]? = some u → w.cell? (ad.add j) = some u

mutual
/-- A cell's value is the slice of the term's arguments, all in blocks of which P holds. -/
def T.In (w : World) (P : Nat → Prop) : T → Value → Prop
  | .mk _ _ l, v => ∃ A n c us, v = .slice A n c ∧ l.length = n ∧ n ≤ c ∧ c ≤ 9223372036854775807 ∧ Rd w P A us ∧ T.Row w P l us
/-- The cells of a row of terms, three for each. -/
def T.Row (w : World) (P : Nat → Prop) : List T → List Value → Prop
  | [], us => us = []
  | s :: r, us => ∃ u ut, us = .int .i64 s.kind :: .int .i64 s.num :: u :: ut ∧ s.In w P u ∧ T.Row w P r ut
end
/-- A term's value. -/
def T.val (t : T) (v : Value) : Value := .agg #[.int .i64 t.kind, .int .i64 t.num, v]
/-- A list of terms as a slice. -/
def T.InL (w : World) (P : Nat → Prop) (l : List T) (v : Value) : Prop := (T.mk 0 0 l).In w P v
theorem T.InL.of {w : World} {P : Nat → Prop} {k n : Int} {l : List T} {v : Value} (h : (T.mk k n l).In w P v) : T.InL w P l v := by
  unfold T.InL; simpa only [T.In] using h
theorem T.InL.to {w : World} {P : Nat → Prop} {k n : Int} {l : List T} {v : Value} (h : T.InL w P l v) : (T.mk k n l).In w P v := by
  unfold T.InL at h; simpa only [T.In] using h

theorem Rd.keep {w w' : World} {P : Nat → Prop} {A : Option Addr} {us : List Value} (hb : ∀ b, P b → w'.heap[b]? = w.heap[b]?) (h : Rd w P A us) : Rd w' P A us := by
  rcases h with h | ⟨ad, h1, h2, h3⟩
  · exact .inl h
  · exact .inr ⟨ad, h1, h2, fun j u hj => (World.cell?_of_block (by rw [block_of_add]; exact hb _ h2)).trans (h3 j u hj)⟩
theorem Rd.more {w : World} {P Q : Nat → Prop} {A : Option Addr} {us : List Value} (hb : ∀ b, P b → Q b) (h : Rd w P A us) : Rd w Q A us := by
  rcases h with h | ⟨ad, h1, h2, h3⟩
  · exact .inl h
  · exact .inr ⟨ad, h1, hb _ h2, h3⟩
mutual
theorem T.In.keep {w w' : World} {P : Nat → Prop} (hb : ∀ b, P b → w'.heap[b]? = w.heap[b]?) : ∀ (s : T) {v : Value}, s.In w P v → s.In w' P v
  | .mk _ _ l, v, h => by
    simp only [T.In] at h ⊢
    obtain ⟨A, n, c, us, h1, h2, h3, h4, h5, h6⟩ := h
    exact ⟨A, n, c, us, h1, h2, h3, h4, h5.keep hb, T.Row.keep hb l h6⟩
theorem T.Row.keep {w w' : World} {P : Nat → Prop} (hb : ∀ b, P b → w'.heap[b]? = w.heap[b]?) : ∀ (l : List T) {us : List Value}, T.Row w P l us → T.Row w' P l us
  | [], us, h => by simpa [T.Row] using h
  | s :: r, us, h => by
    simp only [T.Row] at h ⊢
    obtain ⟨u, ut, h1, h2, h3⟩ := h
    exact ⟨u, ut, h1, T.In.keep hb s h2, T.Row.keep hb r h3⟩
end
mutual
theorem T.In.more {w : World} {P Q : Nat → Prop} (hb : ∀ b, P b → Q b) : ∀ (s : T) {v : Value}, s.In w P v → s.In w Q v
  | .mk _ _ l, v, h => by
    simp only [T.In] at h ⊢
    obtain ⟨A, n, c, us, h1, h2, h3, h4, h5, h6⟩ := h
    exact ⟨A, n, c, us, h1, h2, h3, h4, h5.more hb, T.Row.more hb l h6⟩
theorem T.Row.more {w : World} {P Q : Nat → Prop} (hb : ∀ b, P b → Q b) : ∀ (l : List T) {us : List Value}, T.Row w P l us → T.Row w Q l us
  | [], us, h => by simpa [T.Row] using h
  | s :: r, us, h => by
    simp only [T.Row] at h ⊢
    obtain ⟨u, ut, h1, h2, h3⟩ := h
    exact ⟨u, ut, h1, T.In.more hb s h2, T.Row.more hb r h3⟩
end
theorem T.In.form {w : World} {P : Nat → Prop} {s : T} {v : Value} (h : s.In w P v) : ∃ A n c, v = .slice A n c := by
  obtain ⟨_, _, l⟩ := s
  simp only [T.In] at h
  obtain ⟨A, n, c, us, h1, _⟩ := h
  exact ⟨A, n, c, h1⟩
theorem T.Row.length {w : World} {P : Nat → Prop} : ∀ {l : List T} {us : List Value}, T.Row w P l us → us.length = l.length * 3
  | [], us, h => by simp only [T.Row] at h; simp [h]
  | s :: r, us, h => by
    simp only [T.Row] at h
    obtain ⟨u, ut, rfl, _, h3⟩ := h
    have := h3.length
    simp [this]; omega
theorem T.Row.at_ {w : World} {P : Nat → Prop} : ∀ {l : List T} {us : List Value}, T.Row w P l us → ∀ {k : Nat} {x : T}, l[k]? = some x →
    us[k * 3]? = some (.int .i64 x.kind) ∧ us[k * 3 + 1]? = some (.int .i64 x.num) ∧ ∃ u, us[k * 3 + 2]? = some u ∧ x.In w P u
  | [], us, h, k, x, hx => by simp at hx
  | s :: r, us, h, k, x, hx => by
    simp only [T.Row] at h
    obtain ⟨u, ut, rfl, h2, h3⟩ := h
    cases k with
    | zero => simp at hx; subst hx; exact ⟨rfl, rfl, u, rfl, h2⟩
    | succ k =>
      simp at hx
      obtain ⟨g1, g2, u', g3, g4⟩ := h3.at_ hx
      rw [show (k + 1) * 3 = k * 3 + 1 + 1 + 1 from by omega]
      exact ⟨by simpa using g1, by simpa using g2, u', by simpa using g3, g4⟩
theorem T.Row.snoc {w : World} {P : Nat → Prop} {x : T} {u : Value} (hx : x.In w P u) : ∀ {l : List T} {us : List Value}, T.Row w P l us → T.Row w P (l ++ [x]) (us ++ [.int .i64 x.kind, .int .i64 x.num, u])
  | [], us, h => by
    simp only [T.Row] at h
    subst h
    simp only [List.nil_append, T.Row]
    exact ⟨u, [], rfl, hx, rfl⟩
  | s :: r, us, h => by
    simp only [T.Row] at h
    obtain ⟨u', ut, rfl, h2, h3⟩ := h
    simp only [List.cons_append, T.Row]
    exact ⟨u', _, rfl, h2, h3.snoc hx⟩
theorem T.Row.append {w : World} {P : Nat → Prop} {m : List T} {vs : List Value} (hm : T.Row w P m vs) : ∀ {l : List T} {us : List Value}, T.Row w P l us → T.Row w P (l ++ m) (us ++ vs)
  | [], us, h => by
    simp only [T.Row] at h
    subst h
    simpa using hm
  | s :: r, us, h => by
    simp only [T.Row] at h
    obtain ⟨u', ut, rfl, h2, h3⟩ := h
    simp only [List.cons_append, T.Row]
    exact ⟨u', _, rfl, h2, T.Row.append hm h3⟩
theorem add_one_more (ad : Addr) (i j : Nat) : ad.add (i + (j + 1)) = ⟨(ad.add i).block, (ad.add i).off + (j + 1), none⟩ := by
  rw [← add_of_add]
  show (ad.add i).add (j + 1) = _
  unfold Addr.add
  rw [if_neg (by omega)]
/-- The three cells of an element. -/
def El (w : World) (ad : Addr) (k : Nat) (x : T) (u : Value) : Prop :=
  w.cell? (ad.add (k * 3)) = some (.int .i64 x.kind) ∧ w.cell? ⟨(ad.add (k * 3)).block, (ad.add (k * 3)).off + 1, none⟩ = some (.int .i64 x.num) ∧ w.cell? ⟨(ad.add (k * 3)).block, (ad.add (k * 3)).off + 2, none⟩ = some u
theorem El.keep {w w' : World} {ad : Addr} {k : Nat} {x : T} {u : Value} (h : El w ad k x u) (hb : w'.heap[ad.block]? = w.heap[ad.block]?) : El w' ad k x u :=
  ⟨(World.cell?_of_block (by rw [block_of_add]; exact hb)).trans h.1, (World.cell?_of_block (by show w'.heap[(ad.add (k * 3)).block]? = _; rw [block_of_add]; exact hb)).trans h.2.1, (World.cell?_of_block (by show w'.heap[(ad.add (k * 3)).block]? = _; rw [block_of_add]; exact hb)).trans h.2.2⟩
theorem T.In.el {w : World} {P : Nat → Prop} {A : Option Addr} {us : List Value} {l : List T} (hr : Rd w P A us) (h : T.Row w P l us) {k : Nat} {x : T} (hx : l[k]? = some x) :
    ∃ ad u, A = some ad ∧ P ad.block ∧ El w ad k x u ∧ x.In w P u := by
  obtain ⟨g1, g2, u, g3, g4⟩ := h.at_ hx
  rcases hr with rfl | ⟨ad, h1, h2, h3⟩
  · simp at g1
  · exact ⟨ad, u, h1, h2, ⟨h3 _ _ g1, by rw [← add_one_more ad (k * 3) 0]; exact h3 _ _ g2, by rw [← add_one_more ad (k * 3) 1]; exact h3 _ _ g3⟩, g4⟩
theorem T.In.mk_ {w : World} {P : Nat → Prop} {A : Option Addr} {n c : Nat} {us : List Value} {k m : Int} {l : List T} (hl : l.length = n) (hnc : n ≤ c) (hc : c ≤ 9223372036854775807) (hr : Rd w P A us) (h : T.Row w P l us) : (T.mk k m l).In w P (.slice A n c) := by
  simp only [T.In]
  exact ⟨A, n, c, us, rfl, hl, hnc, hc, hr, h⟩
theorem T.In.below {w w' : World} {B : Nat} {P : Nat → Prop} {s : T} {v : Value} (h : s.In w P v) (hb : Below B w w') (hB : ∀ b, P b → b < B) : s.In w' P v :=
  T.In.keep (fun b hp => hb.block b (hB b hp)) s h
theorem T.In.saves {w w' : World} {M P : Nat → Prop} {s : T} {v : Value} (h : s.In w P v) (hs : Saves M w w') (hB : ∀ b, P b → b < w.heap.size ∧ ¬ M b) : s.In w' P v :=
  T.In.keep (fun b hp => hs.block b (hB b hp).1 (hB b hp).2) s h
/-- All blocks of P exist. -/
def Old (P : Nat → Prop) (w : World) : Prop := ∀ b, P b → b < w.heap.size
theorem Old.le {P : Nat → Prop} {w w' : World} (h : Old P w) (hz : w.heap.size ≤ w'.heap.size) : Old P w' := fun b hb => Nat.lt_of_lt_of_le (h b hb) hz
theorem Old.bel {P : Nat → Prop} {w w' : World} {B : Nat} (h : Old P w) (hb : Below B w w') : Old P w' := h.le hb.size
theorem T.In.old {w w' : World} {P : Nat → Prop} {s : T} {v : Value} (h : s.In w P v) (ho : Old P w) (hb : Below w.heap.size w w') : s.In w' P v := h.below hb ho

/-- A term's box. -/
abbrev T.box (t : T) (v : Value) : Obj := .cells #[.int .i64 t.kind, .int .i64 t.num, v] 44
def TBlk (w : World) (g : Nat) (t : T) (v : Value) : Prop := Blk w g 44 #[.int .i64 t.kind, .int .i64 t.num, v]
end Go.Proofs.YtkkfdiidneoelaaDoor
