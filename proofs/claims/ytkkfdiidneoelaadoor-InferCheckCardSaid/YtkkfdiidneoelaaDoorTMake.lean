/-
  Lists of terms in memory of their own: appending to them, slices.Grow.
-/
import Derived.Test.YtkkfdiidneoelaaDoorTMem
import Derived.Test.YtkkfdiidneoelaaDoorRows
import Derived.Deep.AppendLies
import Derived.OwnWalk
import Derived.Shelf.Spec.SlicesGrow
namespace Go.Proofs.YtkkfdiidneoelaaDoor
open Go.RowKit

theorem owns_kept3 {w w' : World} {base : Nat} {e : TypeId} {size : Nat} {v : Value} {n : Nat} {xs : List Value} (h : w.ownsRow base e size v n xs) (hk : ∀ b, v.ownBlock = some b → w'.heap[b]? = w.heap[b]?) : w'.ownsRow base e size v n xs := by
  refine ⟨h.1, ?_⟩
  rcases h.2 with h2 | ⟨g, cap, cur, rfl, h3, h4, h5⟩
  · exact .inl h2
  · exact .inr ⟨g, cap, cur, rfl, h3, (hk g rfl).trans h4, h5⟩
theorem owns_less {w : World} {base base' : Nat} {e : TypeId} {size : Nat} {v : Value} {n : Nat} {xs : List Value} (h : w.ownsRow base e size v n xs) (hb : base' ≤ base) : w.ownsRow base' e size v n xs := by
  refine ⟨h.1, ?_⟩
  rcases h.2 with h2 | ⟨g, cap, cur, rfl, h3, h4, h5⟩
  · exact .inl h2
  · exact .inr ⟨g, cap, cur, rfl, by omega, h4, h5⟩
mutual
/-- A term's arguments, each level an array of its own block, from its first cell on. -/
def T.NIn (w : World) (P : Nat → Prop) : T → Value → Prop
  | .mk _ _ l, v => ∃ us, w.ownsRow 0 44 3 v l.length us ∧ (∀ b, v.ownBlock = some b → P b) ∧ T.NRow w P l us
def T.NRow (w : World) (P : Nat → Prop) : List T → List Value → Prop
  | [], us => us = []
  | s :: r, us => ∃ u ut, us = .int .i64 s.kind :: .int .i64 s.num :: u :: ut ∧ s.NIn w P u ∧ T.NRow w P r ut
end
mutual
theorem T.NIn.keep {w w' : World} {P : Nat → Prop} (hb : ∀ b, P b → w'.heap[b]? = w.heap[b]?) : ∀ (s : T) {v : Value}, s.NIn w P v → s.NIn w' P v
  | .mk _ _ l, v, h => by
    simp only [T.NIn] at h ⊢
    obtain ⟨us, h1, h2, h3⟩ := h
    exact ⟨us, owns_kept3 h1 (fun b hh => hb b (h2 b hh)), h2, T.NRow.keep hb l h3⟩
theorem T.NRow.keep {w w' : World} {P : Nat → Prop} (hb : ∀ b, P b → w'.heap[b]? = w.heap[b]?) : ∀ (l : List T) {us : List Value}, T.NRow w P l us → T.NRow w' P l us
  | [], us, h => by simpa [T.NRow] using h
  | s :: r, us, h => by
    simp only [T.NRow] at h ⊢
    obtain ⟨u, ut, h1, h2, h3⟩ := h
    exact ⟨u, ut, h1, T.NIn.keep hb s h2, T.NRow.keep hb r h3⟩
end
mutual
theorem T.NIn.more {w : World} {P Q : Nat → Prop} (hb : ∀ b, P b → Q b) : ∀ (s : T) {v : Value}, s.NIn w P v → s.NIn w Q v
  | .mk _ _ l, v, h => by
    simp only [T.NIn] at h ⊢
    obtain ⟨us, h1, h2, h3⟩ := h
    exact ⟨us, h1, fun b hh => hb b (h2 b hh), T.NRow.more hb l h3⟩
theorem T.NRow.more {w : World} {P Q : Nat → Prop} (hb : ∀ b, P b → Q b) : ∀ (l : List T) {us : List Value}, T.NRow w P l us → T.NRow w Q l us
  | [], us, h => by simpa [T.NRow] using h
  | s :: r, us, h => by
    simp only [T.NRow] at h ⊢
    obtain ⟨u, ut, h1, h2, h3⟩ := h
    exact ⟨u, ut, h1, T.NIn.more hb s h2, T.NRow.more hb r h3⟩
end
mutual
theorem T.NIn.in_ {w : World} {P : Nat → Prop} : ∀ (s : T) {v : Value}, s.NIn w P v → s.In w P v
  | .mk k n l, v, h => by
    simp only [T.NIn] at h
    obtain ⟨us, h1, h2, h3⟩ := h
    have hr := T.NRow.row l h3
    rcases h1.2 with ⟨rfl, h0⟩ | ⟨g, cap, cur, rfl, _, _, hn, hc, _, _⟩
    · have : l = [] := List.eq_nil_of_length_eq_zero h0
      subst this
      exact T.In.mk_ rfl (Nat.le_refl _) (by omega) (.inl rfl) (by simp [T.Row])
    · exact T.In.mk_ rfl hn (by simpa [maxLen] using hc) (.inr ⟨_, rfl, h2 g rfl, h1.cells (g := g) rfl⟩) hr
theorem T.NRow.row {w : World} {P : Nat → Prop} : ∀ (l : List T) {us : List Value}, T.NRow w P l us → T.Row w P l us
  | [], us, h => by simpa [T.NRow, T.Row] using h
  | s :: r, us, h => by
    simp only [T.NRow] at h
    obtain ⟨u, ut, h1, h2, h3⟩ := h
    simp only [T.Row]
    exact ⟨u, ut, h1, T.NIn.in_ s h2, T.NRow.row r h3⟩
end
theorem T.NRow.snoc {w : World} {P : Nat → Prop} {x : T} {u : Value} (hx : x.NIn w P u) : ∀ {l : List T} {us : List Value}, T.NRow w P l us → T.NRow w P (l ++ [x]) (us ++ [.int .i64 x.kind, .int .i64 x.num, u])
  | [], us, h => by
    simp only [T.NRow] at h
    subst h
    simp only [List.nil_append, T.NRow]
    exact ⟨u, [], rfl, hx, rfl⟩
  | s :: r, us, h => by
    simp only [T.NRow] at h
    obtain ⟨u', ut, rfl, h2, h3⟩ := h
    simp only [List.cons_append, T.NRow]
    exact ⟨u', _, rfl, h2, h3.snoc hx⟩
theorem T.NIn.nil {w : World} {P : Nat → Prop} (k n : Int) : (T.mk k n []).NIn w P (.slice none 0 0) := by
  simp only [T.NIn]
  exact ⟨[], ⟨by simp, .inl ⟨rfl, rfl⟩⟩, by simp [Value.ownBlock], by simp [T.NRow]⟩
/-- v is a slice of an array of its own, from block B on, that holds the terms l; what they hold lies in other blocks, from B on. -/
structure Mk (B : Nat) (w : World) (l : List T) (v : Value) (us : List Value) : Prop where
  own : w.ownsRow B 44 3 v l.length us
  nrow : T.NRow w (fun b => B ≤ b ∧ b < w.heap.size ∧ v.ownBlock ≠ some b) l us

theorem Mk.row {B : Nat} {w : World} {l : List T} {v : Value} {us : List Value} (h : Mk B w l v us) : T.Row w (fun b => B ≤ b ∧ b < w.heap.size ∧ v.ownBlock ≠ some b) l us := h.nrow.row
theorem Mk.nil (B : Nat) (w : World) : Mk B w [] (.slice none 0 0) [] := ⟨⟨by simp, .inl ⟨rfl, rfl⟩⟩, by simp [T.NRow]⟩
theorem Mk.lt {B : Nat} {w : World} {l : List T} {v : Value} {us : List Value} (h : Mk B w l v us) {b : Nat} (hb : v.ownBlock = some b) : B ≤ b ∧ b < w.heap.size := h.own.lt b hb
theorem Mk.form {B : Nat} {w : World} {l : List T} {v : Value} {us : List Value} (h : Mk B w l v us) : ∃ A c, v = .slice A l.length c := by
  rcases h.own.2 with ⟨rfl, h0⟩ | ⟨g, cap, cur, rfl, _⟩
  · exact ⟨none, 0, by rw [h0]⟩
  · exact ⟨_, cap, rfl⟩
/-- Kept where no block from B on has turned. -/
theorem Mk.keep {B : Nat} {w w' : World} {l : List T} {v : Value} {us : List Value} (h : Mk B w l v us) (hz : w.heap.size ≤ w'.heap.size) (hk : ∀ b, B ≤ b → b < w.heap.size → w'.heap[b]? = w.heap[b]?) : Mk B w' l v us :=
  ⟨owns_kept3 h.own (fun b hb => hk b (h.lt hb).1 (h.lt hb).2), (T.NRow.keep (fun b hb => hk b hb.1 hb.2.1) l h.nrow).more (fun _ hb => ⟨hb.1, Nat.lt_of_lt_of_le hb.2.1 hz, hb.2.2⟩) l⟩
theorem Mk.below {B : Nat} {w w' : World} {l : List T} {v : Value} {us : List Value} (h : Mk B w l v us) (hb : Below w.heap.size w w') : Mk B w' l v us := h.keep hb.size (fun _ _ hl => hb.block _ hl)
theorem Mk.set {B : Nat} {w : World} {l : List T} {v : Value} {us : List Value} (h : Mk B w l v us) {p : Addr} (hp : p.block < B) (u : Value) : Mk B (w.setCell p u) l v us :=
  h.keep (by simp [World.setCell]) (fun b hb _ => Below.heap_setCell w p u b (by omega))
theorem Mk.put {B : Nat} {w : World} {l : List T} {v : Value} {us : List Value} (h : Mk B w l v us) {b o : Nat} (hp : b < B) (u : Value) : Mk B (w.setCell ⟨b, o, none⟩ u) l v us := h.set (p := ⟨b, o, none⟩) hp u
theorem Mk.drew {B : Nat} {w : World} {l : List T} {v : Value} {us : List Value} (h : Mk B w l v us) : Mk B w.drew l v us := h.keep (Nat.le_refl _) (fun _ _ _ => rfl)
theorem Mk.less {B B' : Nat} {w : World} {l : List T} {v : Value} {us : List Value} (h : Mk B w l v us) (hb : B' ≤ B) : Mk B' w l v us :=
  ⟨owns_less h.own hb, h.nrow.more (fun b hh => ⟨by have := hh.1; omega, hh.2⟩) l⟩
/-- It is the list of terms, all in blocks from B on. -/
theorem Mk.in_ {B : Nat} {w : World} {l : List T} {v : Value} {us : List Value} (h : Mk B w l v us) : T.InL w (fun b => B ≤ b ∧ b < w.heap.size) l v := by
  unfold T.InL
  rcases h.own.2 with ⟨rfl, h0⟩ | ⟨g, cap, cur, rfl, h1, h2, h3, h4, h5, h6⟩
  · have : l = [] := List.eq_nil_of_length_eq_zero h0
    subst this
    exact T.In.mk_ rfl (Nat.le_refl _) (by omega) (.inl rfl) (by simp [T.Row])
  · have hg := h.lt (b := g) rfl
    refine T.In.mk_ rfl h3 (by simpa [maxLen] using h4) (.inr ⟨_, rfl, hg, ?_⟩) (h.row.more (fun b hb => ⟨hb.1, hb.2.1⟩) l)
    exact h.own.cells (g := g) rfl

/-- The term with these arguments. -/
theorem Mk.nterm {B : Nat} {w : World} {t : T} {v : Value} {us : List Value} (h : Mk B w t.args v us) : t.NIn w (fun b => B ≤ b ∧ b < w.heap.size) v := by
  obtain ⟨k, n, l⟩ := t
  simp only [T.NIn]
  exact ⟨us, owns_less h.own (Nat.zero_le _), fun b hb => h.lt hb, h.nrow.more (fun _ hb => ⟨hb.1, hb.2.1⟩) l⟩
/-- One more term. -/
theorem Mk.push {B : Nat} {wr w1 w2 : World} {l : List T} {v : Value} {us : List Value} (h : Mk B wr l v us) (hBr : B ≤ wr.heap.size) (hb : ∀ b, b < wr.heap.size → w1.heap[b]? = wr.heap[b]?) (hz : wr.heap.size ≤ w1.heap.size) {y : T} {u : Value}
    (hy : y.NIn w1 (fun b => wr.heap.size ≤ b ∧ b < w1.heap.size) u) {o1 : Obj} {g cap : Nat}
    (hown2 : w2.ownsRow B 44 3 (.slice (some ⟨g, 0, none⟩) (l.length + 1) cap) (l.length + 1) (us ++ [.int .i64 y.kind, .int .i64 y.num, u])) (hgrow : (w1.alloc o1).grownBy w2 v.ownBlock)
    (hat : v.ownBlock = some g ∨ g = w1.heap.size + 1) :
    Mk B w2 (l ++ [y]) (.slice (some ⟨g, 0, none⟩) (l.length + 1) cap) (us ++ [.int .i64 y.kind, .int .i64 y.num, u]) := by
  have hgs := hgrow.size
  simp only [World.size_alloc] at hgs
  have hfar : ∀ b, b < w1.heap.size → v.ownBlock ≠ some b → w2.heap[b]? = w1.heap[b]? := fun b hb' hne => by
    rw [hgrow.block b (by simp; omega) (fun e => hne e.symm), Below.heap_alloc _ _ _ hb']
  have hvlt : ∀ b, v.ownBlock = some b → b < wr.heap.size := fun b hb' => (h.lt hb').2
  refine ⟨by rw [List.length_append]; exact hown2, ?_⟩
  have hQ : ∀ b, (B ≤ b ∧ b < wr.heap.size ∧ v.ownBlock ≠ some b) → (B ≤ b ∧ b < w2.heap.size ∧ (Value.slice (some ⟨g, 0, none⟩) (l.length + 1) cap).ownBlock ≠ some b) := by
    rintro b ⟨q1, q2, q3⟩
    refine ⟨q1, by omega, fun e => ?_⟩
    have e' : g = b := by simpa [Value.ownBlock] using e
    rcases hat with ha | ha
    · exact q3 (by rw [ha, e'])
    · omega
  have hQ2 : ∀ b, (wr.heap.size ≤ b ∧ b < w1.heap.size) → (B ≤ b ∧ b < w2.heap.size ∧ (Value.slice (some ⟨g, 0, none⟩) (l.length + 1) cap).ownBlock ≠ some b) := by
    rintro b ⟨q1, q2⟩
    refine ⟨by omega, by omega, fun e => ?_⟩
    have e' : g = b := by simpa [Value.ownBlock] using e
    rcases hat with ha | ha
    · have := hvlt g ha; omega
    · omega
  refine T.NRow.snoc ?_ ?_
  · exact (hy.keep (fun b hb' => hfar b hb'.2 (fun e => by have := hvlt b e; omega)) _).more hQ2 _
  · exact (h.nrow.keep (fun b hb' => (hfar b (by omega) hb'.2.2).trans (hb b hb'.2.1)) l).more hQ l

theorem term_info : (Tryd.prog.info? 44).map (fun i => (i.zero, i.size, i.bytes)) = some (some (.agg #[.int .i64 0, .int .i64 0, .slice none 0 0]), 3, 40) := by kernel_rfl

def growRen : Go.Shelf.Ren := ⟨fun | 4 => 93 | n => n, fun | 0 => 0 | 3 => 3 | 4 => 4 | 9 => 9 | 20 => 20 | 22 => 42 | 25 => 44 | n => n, fun n => n⟩
theorem growLays : Lays8.n4 Tryd.prog growRen := {
  mixed := by kernel_rfl
  f4 := ⟨Tryd.f93.name, by decide, Tryd.func93.trans (congrArg some (by kernel_rfl))⟩
  t0 := Tryd.underlying0
  a0 := Tryd.isAgg0
  z0 := Tryd.sizeOf0
  v0 := Tryd.zeroValue0
  t3 := Tryd.underlying3
  a3 := Tryd.isAgg3
  z3 := Tryd.sizeOf3
  v3 := Tryd.zeroValue3
  t4 := Tryd.underlying4
  a4 := Tryd.isAgg4
  z4 := Tryd.sizeOf4
  v4 := Tryd.zeroValue4
  t9 := Tryd.underlying9
  a9 := Tryd.isAgg9
  z9 := Tryd.sizeOf9
  v9 := Tryd.zeroValue9
  t20 := Tryd.underlying20
  a20 := Tryd.isAgg20
  z20 := Tryd.sizeOf20
  v20 := Tryd.zeroValue20
  t22 := Tryd.underlying42
  a22 := Tryd.isAgg42
  z22 := Tryd.sizeOf42
  v22 := Tryd.zeroValue42 }

/-- slices.Grow of such a list: the same list, in the same array or in a new one. -/
theorem growT_any {B : Nat} {w : World} {l : List T} {v : Value} {us : List Value} (h : Mk B w l v us) (hB : B ≤ w.heap.size) (n : Nat) (hn : l.length + n ≤ 1000000) :
    Calls Tryd.prog 93 #[v, .int .i64 (n : Int)] w fun e w' => ∃ v', e = .returned v' ∧ Mk B w' l v' us ∧ Below w.heap.size w w' ∧ (v'.ownBlock = v.ownBlock ∨ ∃ g, v'.ownBlock = some g ∧ w.heap.size ≤ g) := by
  obtain ⟨i0, hi0, hz0, hz1, hz2⟩ := info_parts term_info
  obtain ⟨A, c, rfl⟩ := h.form
  have hlc : l.length ≤ c ∧ c ≤ 9223372036854775807 := by
    rcases h.own.2 with ⟨h0, h1⟩ | ⟨g, cap, cur, h0, h1, h2, h3, h4, h5, h6⟩
    · injection h0 with _ _ e; subst e; omega
    · injection h0 with _ _ e; subst e; exact ⟨h3, by simpa [maxLen] using h4⟩
  by_cases hroom : l.length + n ≤ c
  · exact (Any8.slices_Grow_room growLays A l.length c n w hlc.1 hlc.2 (by omega) hroom).mono fun e w' ⟨he, hw⟩ => ⟨_, he, by rw [hw]; exact h, by rw [hw]; exact Below.refl _ _, .inl rfl⟩
  · have hcells : ∃ cs : List Value, cs.length = c * i0.size ∧ (A = none → c = 0) ∧ (∀ a, A = some a → ∀ j v, cs[j]? = some v → w.cell? (a.add j) = some v) ∧ cs.take (l.length * 3) = us := by
      rcases h.own.2 with ⟨h0, h1⟩ | ⟨g, cap, cur, h0, h1, h2, h3, h4, h5, h6⟩
      · injection h0 with e1 _ e; subst e e1
        have hu : us = [] := List.eq_nil_of_length_eq_zero (by simpa [h1] using h.own.1)
        exact ⟨[], by simp, fun _ => rfl, fun a ha => by (cases ha), by simp [hu]⟩
      · injection h0 with e1 _ e; subst e e1
        refine ⟨cur.toList, by rw [hz1]; simpa using h5, fun ha => (by cases ha), fun a ha j v hj => ?_, h6⟩
        have ha := Option.some.inj ha
        subst ha
        exact World.news_of_block h2 j v hj
    obtain ⟨cs, hc1, hc2, hc3, hc4⟩ := hcells
    refine (Any8.slices_Grow_grow growLays i0 _ hi0 hz0 (by rw [hz1]; omega) A l.length c n cs w hlc.1 (by omega) (by rw [hz2]; omega) (by omega) hc1 hc2 hc3).mono fun e w' ⟨he, hw⟩ => ?_
    have hG := grownCap_ge w (l.length + n) c (growRen.t 25)
    have hG2 := grownCap_le_maxLen w (l.length + n) c (growRen.t 25) (by unfold maxLen; omega)
    generalize grownCap w (l.length + n) c (growRen.t 25) = G at *
    have hbel : Below w.heap.size w w' := by rw [hw]; exact ((Below.refl _ _).drew).alloc (Nat.le_refl _) _
    refine ⟨_, he, ⟨⟨h.own.1, .inr ⟨w.heap.size, G, _, rfl, hB, by rw [hw]; exact heap_alloc_new w.drew _, by omega, hG2, ?_, ?_⟩⟩, ?_⟩, hbel, .inr ⟨_, rfl, Nat.le_refl _⟩⟩
    · simp only [Array.size_append, size_zeroCells, List.size_toArray, hc1, hz1]
      show c * 3 + (l.length + n - c) * 3 + (G - (l.length + n)) * 3 = G * 3
      omega
    · have hlen : l.length * 3 ≤ cs.length := by rw [hc1, hz1]; have := hlc.1; omega
      simp only [Array.toList_append]
      rw [List.append_assoc, List.take_append_of_le_length hlen]
      exact hc4
    · refine (h.nrow.keep (fun b hb => hbel.block b hb.2.1) l).more (fun b hb => ⟨hb.1, Nat.lt_of_lt_of_le hb.2.1 hbel.size, fun e => ?_⟩) l
      have e' : w.heap.size = b := by simpa [Value.ownBlock] using e
      have := hb.2.1
      omega
end Go.Proofs.YtkkfdiidneoelaaDoor
