/-
  Lists of terms in memory of their own: appending to them, slices.Grow.
  term.appendEach and term.clone; the reference's Copy: what they return is the term, in memory of its own.
  The reference's Copy and Replace: what they return is the term, in memory of its own.
  Substitution on plain terms.
  Slices of numbers, each of an array of its own.
-/
import Derived.Test.YtkkfdiidneoelaaGreatDoorGC
import Derived.Test.YtkkfdiidneoelaaGreatDoorRows
import Derived.Deep.AppendLies
import Derived.OwnWalk
import Derived.Shelf.Spec.SlicesGrow
import Derived.Deep.RegionLaw
import Derived.Deep.RegionHeld3
namespace Go.Proofs.YtkkfdiidneoelaaGreatDoor
open Go.RowKit

theorem owns_kept3 {w w' : World} {base : Nat} {e : TypeId} {size : Nat} {v : Value} {n : Nat} {xs : List Value} (h : w.ownsRow base e size v n xs) (hk : ∀ b, v.ownBlock = some b → w'.heap[b]? = w.heap[b]?) : w'.ownsRow base e size v n xs := by
  refine ⟨h.1, ?_⟩
  rcases h.2 with h2 | ⟨g, cap, cur, rfl, h3, h4, h5⟩
  · exact .inl h2
  · exact .inr ⟨g, cap, cur, rfl, h3, (hk g rfl).trans h4, h5⟩
theorem owns_less {w : World} {base base' : Nat} {e : TypeId} {size : Nat} {v : Value} {n : Nat} {xs : List Value} (h : w.ownsRow base e size v n xs) (hb : base' ≤ base) : w.ownsRow base' e size v n xs := by
  refine ⟨h.1, ?_⟩
  rcases h.2 with h2 | ⟨g, cap, cur, rfl, h3, h4, h5⟩
  · exact .inl h2
  · exact .inr ⟨g, cap, cur, rfl, by omega, h4, h5⟩
mutual
/-- A term's arguments, each level an array of its own block, from its first cell on. -/
def T.NIn (w : World) (P : Nat → Prop) : T → Value → Prop
  | .mk _ _ l, v => ∃ us, w.ownsRow 0 53 3 v l.length us ∧ (∀ b, v.ownBlock = some b → P b) ∧ T.NRow w P l us
def T.NRow (w : World) (P : Nat → Prop) : List T → List Value → Prop
  | [], us => us = []
  | s :: r, us => ∃ u ut, us = .int .i64 s.kind :: .int .i64 s.num :: u :: ut ∧ s.NIn w P u ∧ T.NRow w P r ut
end
mutual
theorem T.NIn.keep {w w' : World} {P : Nat → Prop} (hb : ∀ b, P b → w'.heap[b]? = w.heap[b]?) : ∀ (s : T) {v : Value}, s.NIn w P v → s.NIn w' P v
  | .mk _ _ l, v, h => by
    simp only [T.NIn] at h ⊢
    obtain ⟨us, h1, h2, h3⟩ := h
    exact ⟨us, owns_kept3 h1 (fun b hh => hb b (h2 b hh)), h2, T.NRow.keep hb l h3⟩
theorem T.NRow.keep {w w' : World} {P : Nat → Prop} (hb : ∀ b, P b → w'.heap[b]? = w.heap[b]?) : ∀ (l : List T) {us : List Value}, T.NRow w P l us → T.NRow w' P l us
  | [], us, h => by simpa [T.NRow] using h
  | s :: r, us, h => by
    simp only [T.NRow] at h ⊢
    obtain ⟨u, ut, h1, h2, h3⟩ := h
    exact ⟨u, ut, h1, T.NIn.keep hb s h2, T.NRow.keep hb r h3⟩
end
mutual
theorem T.NIn.more {w : World} {P Q : Nat → Prop} (hb : ∀ b, P b → Q b) : ∀ (s : T) {v : Value}, s.NIn w P v → s.NIn w Q v
  | .mk _ _ l, v, h => by
    simp only [T.NIn] at h ⊢
    obtain ⟨us, h1, h2, h3⟩ := h
    exact ⟨us, h1, fun b hh => hb b (h2 b hh), T.NRow.more hb l h3⟩
theorem T.NRow.more {w : World} {P Q : Nat → Prop} (hb : ∀ b, P b → Q b) : ∀ (l : List T) {us : List Value}, T.NRow w P l us → T.NRow w Q l us
  | [], us, h => by simpa [T.NRow] using h
  | s :: r, us, h => by
    simp only [T.NRow] at h ⊢
    obtain ⟨u, ut, h1, h2, h3⟩ := h
    exact ⟨u, ut, h1, T.NIn.more hb s h2, T.NRow.more hb r h3⟩
end
mutual
theorem T.NIn.in_ {w : World} {P : Nat → Prop} : ∀ (s : T) {v : Value}, s.NIn w P v → s.In w P v
  | .mk k n l, v, h => by
    simp only [T.NIn] at h
    obtain ⟨us, h1, h2, h3⟩ := h
    have hr := T.NRow.row l h3
    rcases h1.2 with ⟨rfl, h0⟩ | ⟨g, cap, cur, rfl, _, _, hn, hc, _, _⟩
    · have : l = [] := List.eq_nil_of_length_eq_zero h0
      subst this
      exact T.In.mk_ rfl (Nat.le_refl _) (by omega) (.inl rfl) (by simp [T.Row])
    · exact T.In.mk_ rfl hn (by simpa [maxLen] using hc) (.inr ⟨_, rfl, h2 g rfl, h1.cells (g := g) rfl⟩) hr
theorem T.NRow.row {w : World} {P : Nat → Prop} : ∀ (l : List T) {us : List Value}, T.NRow w P l us → T.Row w P l us
  | [], us, h => by simpa [T.NRow, T.Row] using h
  | s :: r, us, h => by
    simp only [T.NRow] at h
    obtain ⟨u, ut, h1, h2, h3⟩ := h
    simp only [T.Row]
    exact ⟨u, ut, h1, T.NIn.in_ s h2, T.NRow.row r h3⟩
end
theorem T.NRow.snoc {w : World} {P : Nat → Prop} {x : T} {u : Value} (hx : x.NIn w P u) : ∀ {l : List T} {us : List Value}, T.NRow w P l us → T.NRow w P (l ++ [x]) (us ++ [.int .i64 x.kind, .int .i64 x.num, u])
  | [], us, h => by
    simp only [T.NRow] at h
    subst h
    simp only [List.nil_append, T.NRow]
    exact ⟨u, [], rfl, hx, rfl⟩
  | s :: r, us, h => by
    simp only [T.NRow] at h
    obtain ⟨u', ut, rfl, h2, h3⟩ := h
    simp only [List.cons_append, T.NRow]
    exact ⟨u', _, rfl, h2, h3.snoc hx⟩
theorem T.NIn.nil {w : World} {P : Nat → Prop} (k n : Int) : (T.mk k n []).NIn w P (.slice none 0 0) := by
  simp only [T.NIn]
  exact ⟨[], ⟨by simp, .inl ⟨rfl, rfl⟩⟩, by simp [Value.ownBlock], by simp [T.NRow]⟩
/-- v is a slice of an array of its own, from block B on, that holds the terms l; what they hold lies in other blocks, from B on. -/
structure Mk (B : Nat) (w : World) (l : List T) (v : Value) (us : List Value) : Prop where
  own : w.ownsRow B 53 3 v l.length us
  nrow : T.NRow w (fun b => B ≤ b ∧ b < w.heap.size ∧ v.ownBlock ≠ some b) l us

theorem Mk.row {B : Nat} {w : World} {l : List T} {v : Value} {us : List Value} (h : Mk B w l v us) : T.Row w (fun b => B ≤ b ∧ b < w.heap.size ∧ v.ownBlock ≠ some b) l us := h.nrow.row
theorem Mk.nil (B : Nat) (w : World) : Mk B w [] (.slice none 0 0) [] := ⟨⟨by simp, .inl ⟨rfl, rfl⟩⟩, by simp [T.NRow]⟩
theorem Mk.lt {B : Nat} {w : World} {l : List T} {v : Value} {us : List Value} (h : Mk B w l v us) {b : Nat} (hb : v.ownBlock = some b) : B ≤ b ∧ b < w.heap.size := h.own.lt b hb
theorem Mk.form {B : Nat} {w : World} {l : List T} {v : Value} {us : List Value} (h : Mk B w l v us) : ∃ A c, v = .slice A l.length c := by
  rcases h.own.2 with ⟨rfl, h0⟩ | ⟨g, cap, cur, rfl, _⟩
  · exact ⟨none, 0, by rw [h0]⟩
  · exact ⟨_, cap, rfl⟩
/-- Kept where no block from B on has turned. -/
theorem Mk.keep {B : Nat} {w w' : World} {l : List T} {v : Value} {us : List Value} (h : Mk B w l v us) (hz : w.heap.size ≤ w'.heap.size) (hk : ∀ b, B ≤ b → b < w.heap.size → w'.heap[b]? = w.heap[b]?) : Mk B w' l v us :=
  ⟨owns_kept3 h.own (fun b hb => hk b (h.lt hb).1 (h.lt hb).2), (T.NRow.keep (fun b hb => hk b hb.1 hb.2.1) l h.nrow).more (fun _ hb => ⟨hb.1, Nat.lt_of_lt_of_le hb.2.1 hz, hb.2.2⟩) l⟩
theorem Mk.below {B : Nat} {w w' : World} {l : List T} {v : Value} {us : List Value} (h : Mk B w l v us) (hb : Below w.heap.size w w') : Mk B w' l v us := h.keep hb.size (fun _ _ hl => hb.block _ hl)
theorem Mk.set {B : Nat} {w : World} {l : List T} {v : Value} {us : List Value} (h : Mk B w l v us) {p : Addr} (hp : p.block < B) (u : Value) : Mk B (w.setCell p u) l v us :=
  h.keep (by simp [World.setCell]) (fun b hb _ => Below.heap_setCell w p u b (by omega))
theorem Mk.put {B : Nat} {w : World} {l : List T} {v : Value} {us : List Value} (h : Mk B w l v us) {b o : Nat} (hp : b < B) (u : Value) : Mk B (w.setCell ⟨b, o, none⟩ u) l v us := h.set (p := ⟨b, o, none⟩) hp u
theorem Mk.drew {B : Nat} {w : World} {l : List T} {v : Value} {us : List Value} (h : Mk B w l v us) : Mk B w.drew l v us := h.keep (Nat.le_refl _) (fun _ _ _ => rfl)
theorem Mk.less {B B' : Nat} {w : World} {l : List T} {v : Value} {us : List Value} (h : Mk B w l v us) (hb : B' ≤ B) : Mk B' w l v us :=
  ⟨owns_less h.own hb, h.nrow.more (fun b hh => ⟨by have := hh.1; omega, hh.2⟩) l⟩
/-- It is the list of terms, all in blocks from B on. -/
theorem Mk.in_ {B : Nat} {w : World} {l : List T} {v : Value} {us : List Value} (h : Mk B w l v us) : T.InL w (fun b => B ≤ b ∧ b < w.heap.size) l v := by
  unfold T.InL
  rcases h.own.2 with ⟨rfl, h0⟩ | ⟨g, cap, cur, rfl, h1, h2, h3, h4, h5, h6⟩
  · have : l = [] := List.eq_nil_of_length_eq_zero h0
    subst this
    exact T.In.mk_ rfl (Nat.le_refl _) (by omega) (.inl rfl) (by simp [T.Row])
  · have hg := h.lt (b := g) rfl
    refine T.In.mk_ rfl h3 (by simpa [maxLen] using h4) (.inr ⟨_, rfl, hg, ?_⟩) (h.row.more (fun b hb => ⟨hb.1, hb.2.1⟩) l)
    exact h.own.cells (g := g) rfl

/-- The term with these arguments. -/
theorem Mk.nterm {B : Nat} {w : World} {t : T} {v : Value} {us : List Value} (h : Mk B w t.args v us) : t.NIn w (fun b => B ≤ b ∧ b < w.heap.size) v := by
  obtain ⟨k, n, l⟩ := t
  simp only [T.NIn]
  exact ⟨us, owns_less h.own (Nat.zero_le _), fun b hb => h.lt hb, h.nrow.more (fun _ hb => ⟨hb.1, hb.2.1⟩) l⟩
/-- One more term. -/
theorem Mk.push {B : Nat} {wr w1 w2 : World} {l : List T} {v : Value} {us : List Value} (h : Mk B wr l v us) (hBr : B ≤ wr.heap.size) (hb : ∀ b, b < wr.heap.size → w1.heap[b]? = wr.heap[b]?) (hz : wr.heap.size ≤ w1.heap.size) {y : T} {u : Value}
    (hy : y.NIn w1 (fun b => wr.heap.size ≤ b ∧ b < w1.heap.size) u) {o1 : Obj} {g cap : Nat}
    (hown2 : w2.ownsRow B 53 3 (.slice (some ⟨g, 0, none⟩) (l.length + 1) cap) (l.length + 1) (us ++ [.int .i64 y.kind, .int .i64 y.num, u])) (hgrow : (w1.alloc o1).grownBy w2 v.ownBlock)
    (hat : v.ownBlock = some g ∨ g = w1.heap.size + 1) :
    Mk B w2 (l ++ [y]) (.slice (some ⟨g, 0, none⟩) (l.length + 1) cap) (us ++ [.int .i64 y.kind, .int .i64 y.num, u]) := by
  have hgs := hgrow.size
  simp only [World.size_alloc] at hgs
  have hfar : ∀ b, b < w1.heap.size → v.ownBlock ≠ some b → w2.heap[b]? = w1.heap[b]? := fun b hb' hne => by
    rw [hgrow.block b (by simp; omega) (fun e => hne e.symm), Below.heap_alloc _ _ _ hb']
  have hvlt : ∀ b, v.ownBlock = some b → b < wr.heap.size := fun b hb' => (h.lt hb').2
  refine ⟨by rw [List.length_append]; exact hown2, ?_⟩
  have hQ : ∀ b, (B ≤ b ∧ b < wr.heap.size ∧ v.ownBlock ≠ some b) → (B ≤ b ∧ b < w2.heap.size ∧ (Value.slice (some ⟨g, 0, none⟩) (l.length + 1) cap).ownBlock ≠ some b) := by
    rintro b ⟨q1, q2, q3⟩
    refine ⟨q1, by omega, fun e => ?_⟩
    have e' : g = b := by simpa [Value.ownBlock] using e
    rcases hat with ha | ha
    · exact q3 (by rw [ha, e'])
    · omega
  have hQ2 : ∀ b, (wr.heap.size ≤ b ∧ b < w1.heap.size) → (B ≤ b ∧ b < w2.heap.size ∧ (Value.slice (some ⟨g, 0, none⟩) (l.length + 1) cap).ownBlock ≠ some b) := by
    rintro b ⟨q1, q2⟩
    refine ⟨by omega, by omega, fun e => ?_⟩
    have e' : g = b := by simpa [Value.ownBlock] using e
    rcases hat with ha | ha
    · have := hvlt g ha; omega
    · omega
  refine T.NRow.snoc ?_ ?_
  · exact (hy.keep (fun b hb' => hfar b hb'.2 (fun e => by have := hvlt b e; omega)) _).more hQ2 _
  · exact (h.nrow.keep (fun b hb' => (hfar b (by omega) hb'.2.2).trans (hb b hb'.2.1)) l).more hQ l

theorem term_info : (Tryz.prog.info? 53).map (fun i => (i.zero, i.size, i.bytes)) = some (some (.agg #[.int .i64 0, .int .i64 0, .slice none 0 0]), 3, 40) := by kernel_rfl

def growRen : Go.Shelf.Ren := ⟨fun | 4 => 121 | n => n, fun | 0 => 0 | 3 => 3 | 4 => 4 | 9 => 9 | 20 => 20 | 22 => 51 | 25 => 53 | n => n, fun n => n⟩
theorem growLays : Lays8.n4 Tryz.prog growRen := {
  mixed := by kernel_rfl
  f4 := ⟨Tryz.f121.name, by decide, Tryz.func121.trans (congrArg some (by kernel_rfl))⟩
  t0 := Tryz.underlying0
  a0 := Tryz.isAgg0
  z0 := Tryz.sizeOf0
  v0 := Tryz.zeroValue0
  t3 := Tryz.underlying3
  a3 := Tryz.isAgg3
  z3 := Tryz.sizeOf3
  v3 := Tryz.zeroValue3
  t4 := Tryz.underlying4
  a4 := Tryz.isAgg4
  z4 := Tryz.sizeOf4
  v4 := Tryz.zeroValue4
  t9 := Tryz.underlying9
  a9 := Tryz.isAgg9
  z9 := Tryz.sizeOf9
  v9 := Tryz.zeroValue9
  t20 := Tryz.underlying20
  a20 := Tryz.isAgg20
  z20 := Tryz.sizeOf20
  v20 := Tryz.zeroValue20
  t22 := Tryz.underlying51
  a22 := Tryz.isAgg51
  z22 := Tryz.sizeOf51
  v22 := Tryz.zeroValue51 }

/-- slices.Grow of such a list: the same list, in the same array or in a new one. -/
theorem growT_any {B : Nat} {w : World} {l : List T} {v : Value} {us : List Value} (h : Mk B w l v us) (hB : B ≤ w.heap.size) (n : Nat) (hn : l.length + n ≤ 1000000) :
    Calls Tryz.prog 121 #[v, .int .i64 (n : Int)] w fun e w' => ∃ v', e = .returned v' ∧ Mk B w' l v' us ∧ Below w.heap.size w w' ∧ (v'.ownBlock = v.ownBlock ∨ ∃ g, v'.ownBlock = some g ∧ w.heap.size ≤ g) := by
  obtain ⟨i0, hi0, hz0, hz1, hz2⟩ := info_parts term_info
  obtain ⟨A, c, rfl⟩ := h.form
  have hlc : l.length ≤ c ∧ c ≤ 9223372036854775807 := by
    rcases h.own.2 with ⟨h0, h1⟩ | ⟨g, cap, cur, h0, h1, h2, h3, h4, h5, h6⟩
    · injection h0 with _ _ e; subst e; omega
    · injection h0 with _ _ e; subst e; exact ⟨h3, by simpa [maxLen] using h4⟩
  by_cases hroom : l.length + n ≤ c
  · exact (Any8.slices_Grow_room growLays A l.length c n w hlc.1 hlc.2 (by omega) hroom).mono fun e w' ⟨he, hw⟩ => ⟨_, he, by rw [hw]; exact h, by rw [hw]; exact Below.refl _ _, .inl rfl⟩
  · have hcells : ∃ cs : List Value, cs.length = c * i0.size ∧ (A = none → c = 0) ∧ (∀ a, A = some a → ∀ j v, cs[j]? = some v → w.cell? (a.add j) = some v) ∧ cs.take (l.length * 3) = us := by
      rcases h.own.2 with ⟨h0, h1⟩ | ⟨g, cap, cur, h0, h1, h2, h3, h4, h5, h6⟩
      · injection h0 with e1 _ e; subst e e1
        have hu : us = [] := List.eq_nil_of_length_eq_zero (by simpa [h1] using h.own.1)
        exact ⟨[], by simp, fun _ => rfl, fun a ha => by (cases ha), by simp [hu]⟩
      · injection h0 with e1 _ e; subst e e1
        refine ⟨cur.toList, by rw [hz1]; simpa using h5, fun ha => (by cases ha), fun a ha j v hj => ?_, h6⟩
        have ha := Option.some.inj ha
        subst ha
        exact World.news_of_block h2 j v hj
    obtain ⟨cs, hc1, hc2, hc3, hc4⟩ := hcells
    refine (Any8.slices_Grow_grow growLays i0 _ hi0 hz0 (by rw [hz1]; omega) A l.length c n cs w hlc.1 (by omega) (by rw [hz2]; omega) (by omega) hc1 hc2 hc3).mono fun e w' ⟨he, hw⟩ => ?_
    have hG := grownCap_ge w (l.length + n) c (growRen.t 25)
    have hG2 := grownCap_le_maxLen w (l.length + n) c (growRen.t 25) (by unfold maxLen; omega)
    generalize grownCap w (l.length + n) c (growRen.t 25) = G at *
    have hbel : Below w.heap.size w w' := by rw [hw]; exact ((Below.refl _ _).drew).alloc (Nat.le_refl _) _
    refine ⟨_, he, ⟨⟨h.own.1, .inr ⟨w.heap.size, G, _, rfl, hB, by rw [hw]; exact heap_alloc_new w.drew _, by omega, hG2, ?_, ?_⟩⟩, ?_⟩, hbel, .inr ⟨_, rfl, Nat.le_refl _⟩⟩
    · simp only [Array.size_append, size_zeroCells, List.size_toArray, hc1, hz1]
      show c * 3 + (l.length + n - c) * 3 + (G - (l.length + n)) * 3 = G * 3
      omega
    · have hlen : l.length * 3 ≤ cs.length := by rw [hc1, hz1]; have := hlc.1; omega
      simp only [Array.toList_append]
      rw [List.append_assoc, List.take_append_of_le_length hlen]
      exact hc4
    · refine (h.nrow.keep (fun b hb => hbel.block b hb.2.1) l).more (fun b hb => ⟨hb.1, Nat.lt_of_lt_of_le hb.2.1 hbel.size, fun e => ?_⟩) l
      have e' : w.heap.size = b := by simpa [Value.ownBlock] using e
      have := hb.2.1
      omega
end Go.Proofs.YtkkfdiidneoelaaGreatDoor

namespace Go.Proofs.YtkkfdiidneoelaaGreatDoor
open Go.RowKit

/-- A term in memory of its own, returned. -/
def Made (t : T) (w : World) (e : Ending) (w' : World) : Prop :=
  ∃ v us, e = .returned (.agg #[.int .i64 t.kind, .int .i64 t.num, v]) ∧ Mk w.heap.size w' t.args v us ∧ Below w.heap.size w w'
theorem Mk.term {B : Nat} {w : World} {t : T} {v : Value} {us : List Value} (h : Mk B w t.args v us) : t.In w (fun b => B ≤ b ∧ b < w.heap.size) v := by
  obtain ⟨k, n, l⟩ := t
  exact T.InL.to h.in_

theorem hones (a b : Int) (u1 : Value) (h : u1.oneCell' = true) : ∀ u ∈ [Value.int .i64 a, .int .i64 b, u1], u.oneCell' = true := by
  intro u hu
  simp only [List.mem_cons, List.not_mem_nil, or_false] at hu
  rcases hu with rfl | rfl | rfl
  · rfl
  · rfl
  · exact h
theorem saves_grown {M : Nat → Prop} {w0 w w1 : World} {o : Obj} {v : Value} (h : Saves M w0 w) (hg : (w.alloc o).grownBy w1 v.ownBlock) (hv : ∀ b, v.ownBlock = some b → M b ∨ w0.heap.size ≤ b) : Saves M w0 w1 := by
  have hk := h.alloc o
  refine ⟨hg.os.trans hk.os, hg.tape.trans hk.tape, hg.output.trans hk.output, Nat.le_trans hk.size hg.size, fun b hb hm => (hg.block b (Nat.lt_of_lt_of_le hb hk.size) (fun e => ?_)).trans (hk.block b hb hm)⟩
  rcases hv b e.symm with h1 | h1
  · exact hm h1
  · omega
/-- What the loop of appendEach holds behind k rounds. -/
def Each (B : Nat) (w : World) (m l : List T) (f : T → T) (v0 : Value) (i v : Value) (wr : World) : Prop :=
  ∃ (k : Nat) (us : List Value), k ≤ l.length ∧ i = .int .i64 k ∧ Mk B wr (m ++ (l.take k).map f) v us ∧ Saves (fun b => v0.ownBlock = some b) w wr ∧ (v.ownBlock = v0.ownBlock ∨ ∀ g, v.ownBlock = some g → w.heap.size ≤ g)

set_option maxHeartbeats 1600000 in
theorem appendEach_any {F : Nat} {cap : Array Value} (hF : ∀ args w, (callFunc F args).run Tryz.prog w = .ok (.enter F args) w) (f : T → T) {B : Nat} {P : Nat → Prop} {w : World}
    (m l : List T) (v0 u0 : Value) (us0 : List Value) (h0 : Mk B w m v0 us0) (hB : B ≤ w.heap.size) (hin : T.InL w P l u0) (hold : Old P w) (hP : ∀ b, P b → v0.ownBlock ≠ some b) (hlen : m.length + l.length ≤ 100000)
    (hf : ∀ (x : T) (u : Value) (W : World), x ∈ l → x.In W P u → Saves (fun b => v0.ownBlock = some b) w W → Calls Tryz.prog F (#[.agg #[.int .i64 x.kind, .int .i64 x.num, u]] ++ cap) W (Made (f x) W)) :
    Calls Tryz.prog 122 #[v0, u0, .func (.func F) #[] cap] w fun e w' => ∃ v us, e = .returned v ∧ Mk B w' (m ++ l.map f) v us ∧ Saves (fun b => v0.ownBlock = some b) w w' := by
  obtain ⟨i0, hi0, hz0, hz1, hz2⟩ := info_parts term_info
  unfold T.InL at hin
  simp only [T.In] at hin
  obtain ⟨A, _, c, us, rfl, rfl, hnc, hc, hrd, hrow⟩ := hin
  have HG := Lib.hid (growT_any h0 hB l.length (by omega))
  obtain ⟨A0, c0, hv0⟩ := h0.form
  have HV0 := Lib.hid hv0
  clear hv0
  have HFF := Lib.hid hf
  clear hf
  go_enter Tryz.func122, Tryz.ntmps122
  go_wp2_with fail
  refine HG.out.mono ?_
  rintro e w1 ⟨v1, rfl, hm1, hb1, hat1⟩
  go_wp2_with fail
  go_loopw [15, 0] (fun i v wr => Each B w m l f v0 i v wr) (fun i _ _ => l.length - (intOf i).toNat)
  case atStart =>
    refine ⟨0, us0, Nat.zero_le _, rfl, by simpa using hm1, Saves.of_below hb1, ?_⟩
    rcases hat1 with h | ⟨g, h, h'⟩
    · exact .inl h
    · exact .inr (fun g' e => by rw [h] at e; injection e with e; omega)
  case round =>
    obtain ⟨k, vs, hk, rfl, hmk, hsv, hat⟩ := hrel
    have hzr := hsv.size
    by_cases hlt : k < l.length
    · have hx : l[k]? = some l[k] := List.getElem?_eq_getElem hlt
      have hmem : l[k] ∈ l := List.getElem_mem hlt
      obtain ⟨ad, u, rfl, hPa, hel, hinx⟩ := T.In.el hrd hrow hx
      obtain ⟨r0, r1, r2⟩ := hel.keep (hsv.block _ (hold _ hPa) (hP _ hPa))
      have hw2 : Below wr.heap.size wr (wr.alloc (.cells #[.int .i64 l[k].kind, .int .i64 l[k].num, u] 53)) := (Below.refl _ _).alloc (Nat.le_refl _) _
      have hinr := (hinx.saves hsv (fun b hb => ⟨hold b hb, hP b hb⟩)).below hw2 (fun b hb => Nat.lt_of_lt_of_le (hold b hb) hzr)
      have hct := HFF.out l[k] u _ hmem hinr (hsv.trans (Saves.of_below hw2))
      have hsnoc : m ++ (l.take (k + 1)).map f = (m ++ (l.take k).map f) ++ [f l[k]] := by rw [List.take_add_one, hx, List.map_append, List.append_assoc]; rfl
      obtain ⟨A', n', c', rfl⟩ := hinx.form
      have hkl : (m ++ (l.take k).map f).length = m.length + k := by simp; omega
      generalize m ++ (l.take k).map f = ml at *
      have HS := Lib.hid hsnoc
      have HL := Lib.hid hkl
      have HC := Lib.hid hct
      have HZ1 := Lib.hid hz1
      have HZ2 := Lib.hid hz2
      generalize l[k] = x at *
      have hvl : ∀ b, u0.ownBlock = some b → B ≤ b ∧ b < wr.heap.size := fun b hb => hmk.lt hb
      clear hx hel hsnoc hkl hct hmem
      go_wp2_with fail
      refine HC.out.mono ?_
      rintro e w2 ⟨u1, vs1, rfl, hm2, hb2⟩
      have hone : u1.oneCell' = true := by obtain ⟨A1, c1, rfl⟩ := hm2.form; rfl
      have hz2 := hb2.size
      simp only [World.size_alloc] at hz2 hb2
      have hin2 := hm2.nterm
      have hown1 : w2.ownsRow B 53 3 u0 ml.length vs := owns_kept3 hmk.own (fun b hb => (hb2.block b (by have := (hvl b hb).2; omega)).trans (Below.heap_alloc wr _ b (hvl b hb).2))
      go_wp2_with
        (at_builtin
         refine wpList_append_lies _ rfl _ _ _ rfl B 53 i0 _ 3 40 Tryz.underlying51 hi0 hz0 HZ1.out HZ2.out rfl (by omega) u0 _ vs (by rfl) (hown1.alloc _)
           ⟨w2.heap.size, 0, none⟩ 1 1 [.int .i64 (f x).kind, .int .i64 (f x).num, u1] (by rfl) (by rfl) (World.news_of_block (cs := #[.int .i64 (f x).kind, .int .i64 (f x).num, u1]) (t := 53) (fr := (0, 0)) (heap_alloc_new w2 _)) (hones _ _ _ hone) (by omega) (by rw [HL.out]; simp only [maxLen]; omega) (by rw [HL.out]; omega) (by simp; omega) (w2.heap.size + 1) (by simp) ?_
         intro gg cap2 w3 hown3 hgrow hat3 hlt3)
      go_roundw
      case rel => 
        refine ⟨k + 1, vs ++ [.int .i64 (f x).kind, .int .i64 (f x).num, u1], by omega, by go_num, ?_, ?_, ?_⟩
        · rw [HS.out]
          exact hmk.push (by omega) (w1 := w2) (fun b hb => (hb2.block b (by omega)).trans (Below.heap_alloc wr _ b hb)) (by omega) (hin2.more (fun b hb => ⟨by have := hb.1; simp at this; omega, hb.2⟩) _) hown3 hgrow hat3
        · exact saves_grown ((hsv.trans (Saves.of_below hw2)).trans (Saves.of_below (by simpa using hb2))) hgrow (fun b hb => by
            rcases hat with h | h
            · exact .inl (h ▸ hb)
            · exact .inr (h b hb))
        · rcases hat3 with h3 | h3
          · rcases hat with h | h
            · exact .inl (h3.symm.trans h)
            · exact .inr (fun g e => h g (h3.trans e))
          · exact .inr (fun g e => by have e' : gg = g := by simpa [Value.ownBlock] using e
                                      omega)
      case measure => simp [intOf]; omega
    · have hll : l.take k = l := List.take_of_length_le (by omega)
      rw [hll] at hmk
      clear hll
      go_wp2_with fail
      go_ret
      exact ⟨_, _, rfl, hmk, hsv⟩

theorem cloneT_results {tmps : Array Value} {w : World} {a : Nat} {x y z : Value} (h2 : tmps.getD 2 undef = .pointer (some ⟨a, 0, none⟩))
    (ha : Blk w a 53 #[x, y, z]) : (results Tryz.f69 tmps).run Tryz.prog w = .ok (.agg #[x, y, z]) w := by
  have h4 := ha.cell 0
  have h5 := ha.cell 1
  have h6 := ha.cell 2
  simp at h4 h5 h6
  have h2' : tmps[2]?.getD undef = .pointer (some ⟨a, 0, none⟩) := by simpa using h2
  simp [results, Tryz.results69, go_sem, h2', h4, h5, h6]

set_option maxHeartbeats 1600000 in
theorem cloneT_any (K : Nat) : ∀ (t : T) (v : Value) (w : World) (P : Nat → Prop), t.count ≤ K → t.count ≤ 100000 → t.In w P v → Old P w →
    Calls Tryz.prog 69 #[.agg #[.int .i64 t.kind, .int .i64 t.num, v]] w (Made t w) := by
  induction K with
  | zero => intro t; have := t.count_pos; omega
  | succ K ih =>
    intro t v w P hK hm hin hold
    obtain ⟨kd, nm, l⟩ := t
    simp only [T.kind, T.num]
    have hlen := T.length_le l
    simp only [T.count] at hm
    have hw2 : Below w.heap.size w (((w.alloc (.cells #[.int .i64 kd, .int .i64 nm, v] 53)).alloc (.cells #[.int .i64 0, .int .i64 0, .slice none 0 0] 53)).drew) := (((Below.refl _ _).alloc (Nat.le_refl _) _).alloc (by simp) _).drew
    have hb1 : Blk (((w.alloc (.cells #[.int .i64 kd, .int .i64 nm, v] 53)).alloc (.cells #[.int .i64 0, .int .i64 0, .slice none 0 0] 53)).drew) w.heap.size 53 #[.int .i64 kd, .int .i64 nm, v] := ((Blk.new _ _ _).alloc _).drew
    have hb2 : Blk (((w.alloc (.cells #[.int .i64 kd, .int .i64 nm, v] 53)).alloc (.cells #[.int .i64 0, .int .i64 0, .slice none 0 0] 53)).drew) (w.heap.size + 1) 53 #[.int .i64 0, .int .i64 0, .slice none 0 0] := by
      have := (Blk.new (w.alloc (.cells #[.int .i64 kd, .int .i64 nm, v] 53)) 53 #[.int .i64 0, .int .i64 0, .slice none 0 0]).drew
      simpa using this
    have hinl : T.InL (((w.alloc (.cells #[.int .i64 kd, .int .i64 nm, v] 53)).alloc (.cells #[.int .i64 0, .int .i64 0, .slice none 0 0] 53)).drew) P l v := (T.InL.of (hin.old hold hw2) :)
    have hct := appendEach_any (F := 69) (cap := #[]) Tryz.call69 id (B := w.heap.size + 2) [] l (.slice none 0 0) v [] (Mk.nil _ _) (by simp [World.drew]) hinl (hold.bel hw2) (fun _ _ => by simp [Value.ownBlock]) (by simp; omega)
      (fun x u W hx hxin hsv => by
        have hxc : x.count ≤ T.countL l := by
          obtain ⟨k, hk⟩ := List.getElem?_of_mem hx
          have := T.count_lt (a := 0) (b := 0) hk
          simp only [T.count] at this; omega
        exact ih x u W P (by simp only [T.count] at hK; omega) (by omega) hxin ((hold.bel hw2).le hsv.size))
    have HC := Lib.hid hct
    obtain ⟨A, n, c, rfl⟩ := hin.form
    clear hct ih
    go_enter Tryz.func69, Tryz.ntmps69
    go_wp2_with fail
    go_region_held3 (fun w' => w'.cell? ⟨w.heap.size, 0, none⟩ = some (.int .i64 kd) ∧ w'.cell? ⟨w.heap.size, 1, none⟩ = some (.int .i64 nm) ∧ w'.cell? ⟨w.heap.size, 2, none⟩ = some (.slice A n c))
      (first
        | go_keep
        | assumption)
      (first
        | (go_at_call 122
           refine HC.out.mono ?_
           rintro e w1 ⟨v1, us1, rfl, hm1, hs1⟩
           have k1 := hb1.saves hs1 (by simp [Value.ownBlock])
           have k2 := hb2.saves hs1 (by simp [Value.ownBlock])
           have q0 := k1.cell 0
           have q1 := k1.cell 1
           have q2 := k1.cell 2
           have p0 := k2.cell 0
           have p1 := k2.cell 1
           have p2 := k2.cell 2
           have f0 := k2.frozen 0
           have f1 := k2.frozen 1
           have f2 := k2.frozen 2
           simp at q0 q1 q2 p0 p1 p2
           have Q : w1.cell? ⟨w.heap.size, 0, none⟩ = some (.int .i64 kd) ∧ w1.cell? ⟨w.heap.size, 1, none⟩ = some (.int .i64 nm) ∧ w1.cell? ⟨w.heap.size, 2, none⟩ = some (.slice A n c) := ⟨q0, q1, q2⟩
           obtain ⟨A1, c1, rfl⟩ := hm1.form))
    go_wp2_with fail
    refine bodyPost_ret (cloneT_results rfl ((((k2.set_ 0 _).set_ 1 _).set_ 2 _).eq_ (by simp; exact ⟨rfl, rfl, rfl⟩))) rfl ⟨_, us1, rfl, ?_, ?_⟩
    · have hl : [] ++ List.map id l = l := by simp
      rw [hl] at hm1
      exact (((hm1.set (by simp) _).set (by simp) _).set (by simp) _).less (by omega)
    · exact (((hw2.trans (hs1.below (B := w.heap.size) (by simp [World.drew]; omega) (fun _ _ => by simp [Value.ownBlock]))).setCell (by simp) _).setCell (by simp) _).setCell (by simp) _
end Go.Proofs.YtkkfdiidneoelaaGreatDoor

namespace Go.Proofs.YtkkfdiidneoelaaGreatDoor
open Go.RowKit

/-- What the loop of Copy (and of Replace) holds behind k rounds: list so far ml, its slice cv in the box at B + 2. -/
structure RoundT (ml : List T) (kd nm : Int) (B : Nat) (w0 : World) (cv : Value) (us : List Value) (w : World) : Prop where
  lst : Mk (B + 3) w ml cv us
  out : Blk w (B + 1 + 1) 53 #[.int .i64 kd, .int .i64 nm, cv]
  res : Blk w (B + 1) 53 #[.int .i64 0, .int .i64 0, .slice none 0 0]
  bel : Below B w0 w

theorem RoundT.next {ml : List T} {kd nm : Int} {B : Nat} {w0 wr w1 w2 : World} {cv : Value} {us : List Value} {y : T} {u : Value} {us1 : List Value} {o o1 : Obj} {gg cap : Nat}
    (hr : RoundT ml kd nm B w0 cv us wr) (hm1 : Mk (wr.heap.size + 1) w1 y.args u us1) (hbb1 : Below (wr.heap.size + 1) (wr.alloc o).drew w1) (hwz : wr.heap.size + 1 ≤ w1.heap.size)
    (hown2 : w2.ownsRow (B + 3) 53 3 (.slice (some ⟨gg, 0, none⟩) (ml.length + 1) cap) (ml.length + 1) (us ++ [.int .i64 y.kind, .int .i64 y.num, u])) (hgrow : (w1.alloc o1).grownBy w2 cv.ownBlock)
    (hat : cv.ownBlock = some gg ∨ gg = w1.heap.size + 1) :
    RoundT (ml ++ [y]) kd nm B w0 (.slice (some ⟨gg, 0, none⟩) (ml.length + 1) cap) (us ++ [.int .i64 y.kind, .int .i64 y.num, u]) (w2.setCell ⟨B + 1 + 1, 2, none⟩ (.slice (some ⟨gg, 0, none⟩) (ml.length + 1) cap)) := by
  have hB3 : B + 1 + 1 < wr.heap.size := hr.out.lt
  have hcv : ∀ b, cv.ownBlock = some b → B + 3 ≤ b ∧ b < wr.heap.size := fun b hb => hr.lst.lt hb
  have hk1 : ∀ b, b < wr.heap.size → w1.heap[b]? = wr.heap[b]? := fun b hb => (hbb1.block b (by omega)).trans (Below.heap_alloc wr o b hb)
  have hk2 : ∀ b, b < wr.heap.size → cv.ownBlock ≠ some b → w2.heap[b]? = wr.heap[b]? := fun b hb hne => by
    rw [hgrow.block b (by simp; omega) (fun e => hne e.symm), Below.heap_alloc _ _ _ (by omega), hk1 b hb]
  have hin := hm1.nterm
  refine ⟨?_, ?_, ?_, ?_⟩
  · refine Mk.set ?_ (by show B + 1 + 1 < B + 3; omega) _
    exact hr.lst.push (by omega) hk1 (by omega) (hin.more (fun b hb => ⟨by have := hb.1; omega, hb.2⟩) _) hown2 hgrow hat
  · have h1 : Blk w2 (B + 1 + 1) 53 #[.int .i64 kd, .int .i64 nm, cv] := (hk2 _ hB3 (fun e => by have := hcv _ e; omega)).trans hr.out
    exact h1.set_ 2 _
  · have h1 : Blk w2 (B + 1) 53 #[.int .i64 0, .int .i64 0, .slice none 0 0] := (hk2 _ (by omega) (fun e => by have := hcv _ e; omega)).trans hr.res
    exact h1.far (by simp) _
  · refine Below.setCell (hr.bel.trans ?_) (by simp; omega) _
    have e1 : Below B wr w1 := ⟨(hbb1.os), (hbb1.tape), (hbb1.output), by omega, fun b hb => hk1 b (by omega)⟩
    exact (e1.alloc (by omega) o1).grown hgrow (by simp; omega) (fun b hb => by have := hcv b hb; omega)

theorem copyT_results {tmps : Array Value} {w : World} {a : Nat} {x y z : Value} (h2 : tmps.getD 2 undef = .pointer (some ⟨a, 0, none⟩))
    (ha : Blk w a 53 #[x, y, z]) : (results Tryz.f29 tmps).run Tryz.prog w = .ok (.agg #[x, y, z]) w := by
  have h4 := ha.cell 0
  have h5 := ha.cell 1
  have h6 := ha.cell 2
  simp at h4 h5 h6
  have h2' : tmps[2]?.getD undef = .pointer (some ⟨a, 0, none⟩) := by simpa using h2
  simp [results, Tryz.results29, go_sem, h2', h4, h5, h6]

set_option maxRecDepth 100000 in
set_option maxHeartbeats 3200000 in
theorem copyT_any (K : Nat) : ∀ (t : T) (v : Value) (w : World) (P : Nat → Prop), t.count ≤ K → t.count ≤ 100000 → t.In w P v → Old P w →
    Calls Tryz.prog 29 #[.agg #[.int .i64 t.kind, .int .i64 t.num, v]] w (Made t w) := by
  induction K with
  | zero => intro t; have := t.count_pos; omega
  | succ K ih =>
    intro t v w P hK hm hin hold
    obtain ⟨i0, hi0, hz0, hz1, hz2⟩ := info_parts term_info
    obtain ⟨kd, nm, l⟩ := t
    simp only [T.In] at hin
    obtain ⟨A, _, c, us0, rfl, rfl, hnc, hc, hrd, hrow⟩ := hin
    simp only [T.kind, T.num]
    have hlen := T.length_le l
    simp only [T.count] at hm hK
    go_enter Tryz.func29, Tryz.ntmps29
    go_wp2_with fail
    go_loopw [14] (fun i wr => ∃ k cv us, k ≤ l.length ∧ i = .int .i64 (k : Nat) ∧ RoundT (l.take k) kd nm w.heap.size w cv us wr) (fun i _ => l.length - (intOf i).toNat)
    case atStart =>
      refine ⟨0, _, [], Nat.zero_le _, rfl, ⟨by simpa using Mk.nil _ _, ?_, ?_, ?_⟩⟩
      · simpa using Blk.new ((w.alloc (.cells #[.int .i64 kd, .int .i64 nm, .slice A l.length c] 53)).alloc (.cells #[.int .i64 0, .int .i64 0, .slice none 0 0] 53)) 53 #[.int .i64 kd, .int .i64 nm, .slice none 0 0]
      · exact (by simpa using Blk.new (w.alloc (.cells #[.int .i64 kd, .int .i64 nm, .slice A l.length c] 53)) 53 #[.int .i64 0, .int .i64 0, .slice none 0 0] : Blk ((w.alloc (.cells #[.int .i64 kd, .int .i64 nm, .slice A l.length c] 53)).alloc (.cells #[.int .i64 0, .int .i64 0, .slice none 0 0] 53)) (w.heap.size + 1) 53 #[.int .i64 0, .int .i64 0, .slice none 0 0]).alloc _
      · exact (((Below.refl _ _).alloc (Nat.le_refl _) _).alloc (by simp) _).alloc (by simp; omega) _
    case round =>
      obtain ⟨k, cv, us, hk, rfl, hr⟩ := hrel
      have hsz := hr.bel.size
      have hsz1 := hr.out.lt
      by_cases hlt : k < l.length
      · have hx : l[k]? = some l[k] := List.getElem?_eq_getElem hlt
        have hcl := T.count_lt (a := kd) (b := nm) hx
        simp only [T.count] at hcl
        obtain ⟨ad, u, rfl, hPa, hel, hinx⟩ := T.In.el hrd hrow hx
        obtain ⟨r0, r1, r2⟩ := hel.keep (hr.bel.block _ (hold _ hPa))
        obtain ⟨A', n', c', rfl⟩ := hinx.form
        have hw1 := hr.bel.alloc hsz (.cells #[.int .i64 l[k].kind, .int .i64 l[k].num, .slice A' n' c'] 53)
        have hinr := hinx.old hold hw1
        have d0 := (hr.out.alloc (.cells #[.int .i64 l[k].kind, .int .i64 l[k].num, .slice A' n' c'] 53)).cell 2
        have hxB := Blk.new wr 53 #[.int .i64 l[k].kind, .int .i64 l[k].num, .slice A' n' c']
        have d1 := hxB.cell 0
        have d2 := hxB.cell 1
        have d3 := hxB.cell 2
        have hih := fun w' (h : Below (wr.heap.size + 1) (wr.alloc (.cells #[.int .i64 l[k].kind, .int .i64 l[k].num, .slice A' n' c'] 53)) w') => ih l[k] (.slice A' n' c') w' P (by omega) (by omega) (hinr.below h (fun b hb => by have := hold b hb; omega)) ((hold.bel hw1).le h.size)
        have hsnoc : l.take (k + 1) = l.take k ++ [l[k]] := by rw [List.take_add_one, hx]; rfl
        have hkl : (l.take k).length = k := by rw [List.length_take]; omega
        generalize l.take k = ml at *
        have HIH := Lib.hid hih
        have HX := Lib.hid hx
        have HS := Lib.hid hsnoc
        have HL := Lib.hid hkl
        generalize l[k] = x at *
        clear hih ih hx hel hsnoc hkl
        go_wp2_with fail
        go_region_law
          (first
            | (refine step_append_lies _ (by rfl) _ _ _ (by rfl) (w.heap.size + 3) 53 i0 _ 3 40 Tryz.underlying51 hi0 hz0 hz1 hz2 rfl (by omega) cv _ us (by rfl) (by exact (hown1.alloc _))
                ⟨w1.heap.size, 0, none⟩ 1 1 [.int .i64 x.kind, .int .i64 x.num, v1] (by rfl) (by rfl) (by exact World.news_of_block (cs := #[.int .i64 x.kind, .int .i64 x.num, v1]) (t := 53) (fr := (0, 0)) (heap_alloc_new w1 _)) (by exact hones _ _ _ hone) (by omega) (by rw [HL.out]; simp only [maxLen]; omega) (by rw [HL.out]; omega) (by simp; omega) (w1.heap.size + 1) (by simp) ?_; intro gg cap w2 hown2 hgrow hat hlt2
               have hblk2 : Blk w2 (w.heap.size + 1 + 1) 53 #[.int .i64 kd, .int .i64 nm, cv] := (hgrow.block _ (by simp; omega) (fun e => by have := (hr.lst.lt e.symm).1; omega)).trans (hblk1.alloc _)
               have hxb2 : Blk w2 wr.heap.size 53 #[.int .i64 x.kind, .int .i64 x.num, .slice A' n' c'] := (hgrow.block _ (by simp; omega) (fun e => by have := (hr.lst.lt e.symm).2; omega)).trans (hxb1.alloc _)
               have s1 := hblk2.cell 2
               have s2 := hxb2.cell 0
               have s3 := hxb2.cell 1
               have s4 := hxb2.cell 2
               have s5 := hblk2.frozen 2
               simp at s1 s2 s3 s4)
            | (go_simp; go_at_call 29; refine (HIH.out _ (by exact (Below.refl _ _).drew)).mono ?_; rintro e w1 ⟨v1, us1, rfl, hm1, hb1⟩
               have hone : v1.oneCell' = true := by obtain ⟨A1, c1, rfl⟩ := hm1.form; rfl
               have hwz : wr.heap.size + 1 ≤ w1.heap.size := by have h : (wr.alloc (.cells #[.int .i64 x.kind, .int .i64 x.num, .slice A' n' c'] 53)).heap.size ≤ w1.heap.size := hb1.size; simpa using h
               have hbb1 : Below (wr.heap.size + 1) (wr.alloc (.cells #[.int .i64 x.kind, .int .i64 x.num, .slice A' n' c'] 53)).drew w1 := hb1.mono (by show _ ≤ (wr.alloc _).heap.size; simp)
               have hown1 : w1.ownsRow (w.heap.size + 3) 53 3 cv ml.length us := owns_kept3 ((hr.lst.own.alloc _).drew) (fun b hb => hbb1.block b (by have := (hr.lst.lt hb).2; omega))
               have hblk1 : Blk w1 (w.heap.size + 1 + 1) 53 #[.int .i64 kd, .int .i64 nm, cv] := ((hr.out.alloc _).drew).below hbb1 (by omega)
               have hxb1 : Blk w1 wr.heap.size 53 #[.int .i64 x.kind, .int .i64 x.num, .slice A' n' c'] := ((Blk.new wr 53 _).drew).below hbb1 (by omega)
               have q1 := hblk1.cell 2
               have q2 := hxb1.cell 0
               have q3 := hxb1.cell 1
               have q4 := hxb1.cell 2
               have q5 : (w1.alloc (.cells #[.int .i64 x.kind, .int .i64 x.num, v1] 53)).cell? ⟨w.heap.size + 1 + 1, 2, none⟩ = some cv := (hblk1.alloc _).cell 2
               simp at q1 q2 q3 q4))
        all_goals
          go_wp2_with fail
          go_roundw
          case rel => exact ⟨k + 1, _, _, by omega, by go_num, by rw [HS.out]; exact hr.next (by simpa [World.drew] using hm1) hbb1 hwz hown2 hgrow hat⟩
          case measure => simp [intOf]; omega
      · have hll : l.take k = l := List.take_of_length_le (by omega)
        rw [hll] at hr
        obtain ⟨A3, c3, rfl⟩ := hr.lst.form
        have c0 := hr.out.cell 0
        have c1 := hr.out.cell 1
        have c2 := hr.out.cell 2
        have e0 := hr.res.cell 0
        have e1 := hr.res.cell 1
        have e2 := hr.res.cell 2
        have e3 := hr.res.frozen 0
        have e4 := hr.res.frozen 1
        have e5 := hr.res.frozen 2
        clear ih hll
        go_wp2_with fail
        refine bodyPost_ret (copyT_results rfl ((((hr.res.set_ 0 _).set_ 1 _).set_ 2 _).eq_ (by simp; exact ⟨rfl, rfl, rfl⟩))) rfl ⟨_, us, rfl, ?_, ?_⟩
        · exact (((hr.lst.set (by simp) _).set (by simp) _).set (by simp) _).less (by omega)
        · exact ((hr.bel.setCell (by simp) _).setCell (by simp) _).setCell (by simp) _
end Go.Proofs.YtkkfdiidneoelaaGreatDoor

namespace Go.Proofs.YtkkfdiidneoelaaGreatDoor

/-- The head that stands in the place of a head: an arg for a variable. -/
def T.head (gs : List T) (k n : Int) : T := if k = 0 then gs.getD n.toNat default else .mk k n []
mutual
def T.sub (gs : List T) : T → T
  | .mk k n l => .mk (T.head gs k n).kind (T.head gs k n).num ((T.head gs k n).args ++ T.subL gs l)
def T.subL (gs : List T) : List T → List T
  | [] => []
  | x :: r => x.sub gs :: T.subL gs r
end
/-- A head that is no variable, or the number of one of m args. -/
def cov1 (m : Nat) (k n : Int) : Bool := decide (k ≠ 0) || (decide (0 ≤ n) && decide (n < (m : Int)))
mutual
/-- All variables are numbers of m args. -/
def T.cov (m : Nat) : T → Bool
  | .mk k n l => cov1 m k n && T.covL m l
def T.covL (m : Nat) : List T → Bool
  | [] => true
  | x :: r => x.cov m && T.covL m r
end
theorem T.subL_map (gs : List T) : ∀ l : List T, T.subL gs l = l.map (T.sub gs)
  | [] => by simp [T.subL]
  | x :: r => by simp [T.subL, T.subL_map gs r]
theorem T.countL_append (l m : List T) : T.countL (l ++ m) = T.countL l + T.countL m := by
  induction l with
  | nil => simp [T.countL]
  | cons x r ih => simp [T.countL, ih]; omega
theorem T.count_eta (t : T) : t.count = 1 + T.countL t.args := by cases t; simp [T.count, T.args]
theorem T.eta (t : T) : T.mk t.kind t.num t.args = t := by cases t; rfl
theorem T.count_sub (gs : List T) (k n : Int) (l : List T) : ((T.mk k n l).sub gs).count = (T.head gs k n).count + T.countL (T.subL gs l) := by
  simp only [T.sub, T.count, T.countL_append]
  rw [T.count_eta (T.head gs k n)]
  omega
theorem T.covL_at {m : Nat} : ∀ {l : List T}, T.covL m l = true → ∀ {j : Nat} {x : T}, l[j]? = some x → x.cov m = true
  | [], _, j, x, h => by simp at h
  | a :: r, hc, j, x, h => by
    simp only [T.covL, Bool.and_eq_true] at hc
    cases j with
    | zero => simp at h; subst h; exact hc.1
    | succ j => simp at h; exact T.covL_at hc.2 h
theorem T.covL_mem {m : Nat} {l : List T} (h : T.covL m l = true) {x : T} (hx : x ∈ l) : x.cov m = true := by
  obtain ⟨j, hj⟩ := List.getElem?_of_mem hx
  exact T.covL_at h hj
theorem T.count_mem {l : List T} {x : T} (hx : x ∈ l) : x.count ≤ T.countL l := by
  obtain ⟨k, hk⟩ := List.getElem?_of_mem hx
  have := T.count_lt (a := 0) (b := 0) hk
  simp only [T.count] at this; omega
theorem T.subL_mem (gs : List T) {l : List T} {x : T} (hx : x ∈ l) : (x.sub gs).count ≤ T.countL (T.subL gs l) := by
  rw [T.subL_map]
  exact T.count_mem (List.mem_map_of_mem hx)
theorem T.head_var {gs : List T} {n : Int} {j : Nat} (hn : n = j) {a : T} (ha : gs[j]? = some a) : T.head gs 0 n = a := by
  subst hn
  simp [T.head, ha]
theorem T.head_not {gs : List T} {k n : Int} (hk : k ≠ 0) : T.head gs k n = .mk k n [] := by simp [T.head, hk]
end Go.Proofs.YtkkfdiidneoelaaGreatDoor

namespace Go.Proofs.YtkkfdiidneoelaaGreatDoor
open Go.RowKit

theorem int_info : (Tryz.prog.info? 3).map (fun i => (i.zero, i.size, i.bytes)) = some (some (.int .i64 0), 1, 8) := by kernel_rfl
/-- A slice of numbers, of an array of its own. -/
def Zs (B : Nat) (w : World) (l : List Int) (v : Value) : Prop := w.ownsRow B 3 1 v l.length (l.map (Value.int .i64))
theorem Zs.nil (B : Nat) (w : World) : Zs B w [] (.slice none 0 0) := ⟨by simp, .inl ⟨rfl, rfl⟩⟩
theorem Zs.lt {B : Nat} {w : World} {l : List Int} {v : Value} (h : Zs B w l v) {b : Nat} (hb : v.ownBlock = some b) : B ≤ b ∧ b < w.heap.size := World.ownsRow.lt h b hb
theorem Zs.below {B : Nat} {w w' : World} {l : List Int} {v : Value} (h : Zs B w l v) (hb : Below w.heap.size w w') : Zs B w' l v := owns_kept3 h (fun b hh => hb.block b (h.lt hh).2)
theorem Zs.less {B B' : Nat} {w : World} {l : List Int} {v : Value} (h : Zs B w l v) (hb : B' ≤ B) : Zs B' w l v := owns_less h hb
theorem Zs.form {B : Nat} {w : World} {l : List Int} {v : Value} (h : Zs B w l v) : ∃ A c, v = .slice A l.length c ∧ l.length ≤ c ∧ c ≤ 9223372036854775807 := by
  rcases h.2 with ⟨rfl, h0⟩ | ⟨g, cap, cur, rfl, _, _, h1, h2, _⟩
  · exact ⟨none, 0, by rw [h0], by omega, by omega⟩
  · exact ⟨_, cap, rfl, h1, by simpa [maxLen] using h2⟩
theorem Zs.cell {B : Nat} {w : World} {l : List Int} {A : Option Addr} {n c : Nat} (h : Zs B w l (.slice A n c)) {j : Nat} {x : Int} (hj : l[j]? = some x) : ∃ g, A = some ⟨g, 0, none⟩ ∧ g < w.heap.size ∧ w.cell? ⟨g, j, none⟩ = some (.int .i64 x) := by
  rcases h.2 with ⟨_, h0⟩ | ⟨g, cap, cur, he, _⟩
  · have : l = [] := List.eq_nil_of_length_eq_zero h0
    subst this; simp at hj
  · injection he with e1 e2 e3
    subst e1
    have hg := h.lt (b := g) rfl
    have hc := World.ownsRow.cells h (g := g) rfl j (.int .i64 x) (by simp [hj])
    refine ⟨g, rfl, hg.2, ?_⟩
    have he : (⟨g, 0, none⟩ : Addr).add j = ⟨g, j, none⟩ := by
      unfold Addr.add
      split
      · rename_i h0; rw [h0]
      · simp
    rwa [he] at hc
theorem Zs.cells {B : Nat} {w : World} {l : List Int} {g n c : Nat} (h : Zs B w l (.slice (some ⟨g, 0, none⟩) n c)) {j : Nat} {x : Int} (hj : l[j]? = some x) : w.cell? ⟨g, j, none⟩ = some (.int .i64 x) := by
  obtain ⟨g', he, _, hc⟩ := h.cell hj
  injection he with he
  injection he with he _ _
  rw [he]; exact hc

theorem Zs.rest {B : Nat} {w : World} {l : List Int} {g n c : Nat} (h : Zs B w l (.slice (some ⟨g, 0, none⟩) n c)) (j : Nat) : ∀ i u, ((l.drop j).map (Value.int .i64))[i]? = some u → w.cell? ((⟨g, j, none⟩ : Addr).add i) = some u := by
  intro i u hu
  rw [List.getElem?_map, List.getElem?_drop] at hu
  cases hx : l[j + i]? with
  | none => rw [hx] at hu; cases hu
  | some x =>
    rw [hx] at hu
    injection hu with hu
    subst hu
    have hc := h.cells hx
    have he : (⟨g, j, none⟩ : Addr).add i = ⟨g, j + i, none⟩ := by
      unfold Addr.add
      split
      · rename_i h0; rw [h0]; rfl
      · rfl
    rw [he]; exact hc
theorem ones_ints (l : List Int) : ∀ u ∈ l.map (Value.int .i64), u.oneCell' = true := by
  intro u hu
  obtain ⟨x, _, rfl⟩ := List.mem_map.1 hu
  rfl
end Go.Proofs.YtkkfdiidneoelaaGreatDoor
