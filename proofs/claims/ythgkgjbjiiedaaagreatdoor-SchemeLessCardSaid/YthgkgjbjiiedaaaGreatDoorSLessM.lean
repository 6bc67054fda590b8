/-
  SchemeLess: what its walk holds.
-/
import Derived.Test.YthgkgjbjiiedaaaGreatDoorSRenamed
import Derived.Test.YthgkgjbjiiedaaaGreatDoorSLawOwn
namespace Go.Proofs.YthgkgjbjiiedaaaGreatDoor
open Go.RowKit Go.Shelf

theorem ints_made (n : Nat) : madeCells #[Value.int .i64 0] n = ((List.replicate n (0 : Int)).map (Value.int .i64)).toArray := by
  apply Array.ext
  · simp [size_madeCells]
  · intro i h1 h2
    simp [madeCells, Nat.mod_one]
theorem Zs.of_blk {B : Nat} {w : World} {l : List Int} {g : Nat} (h : Blk w g 3 ((l.map (Value.int .i64)).toArray)) (hB : B ≤ g) (hl : l.length ≤ 1000000) : Zs B w l (.slice (some ⟨g, 0, none⟩) l.length l.length) := by
  refine ⟨by simp, .inr ⟨g, l.length, _, rfl, hB, h, Nat.le_refl _, by simp only [maxLen]; omega, by simp, ?_⟩⟩
  rw [Nat.mul_one]
  exact List.take_of_length_le (by simp)

/-- The cells of functions whose sorts lie in old memory, and whose bodies lie in blocks of P. -/
def FnHalf (w : World) (hi : Nat) (P : Nat → Prop) : List Fn → List Value → Prop
  | [], us => us = []
  | f :: r, us => ∃ u v ut, us = .string f.name :: u :: .int .i64 f.body.kind :: .int .i64 f.body.num :: v :: ut ∧ f.sort.In w 0 hi u ∧ f.body.In w P v ∧ f.name.size ≤ maxLen ∧ FnHalf w hi P r ut
theorem FnHalf.keep {w w' : World} {hi : Nat} {P : Nat → Prop} (h0 : ∀ b, b < hi → w'.heap[b]? = w.heap[b]?) (hb : ∀ b, P b → w'.heap[b]? = w.heap[b]?) : ∀ (l : List Fn) {us : List Value}, FnHalf w hi P l us → FnHalf w' hi P l us
  | [], us, h => by simpa [FnHalf] using h
  | f :: r, us, h => by
    simp only [FnHalf] at h ⊢
    obtain ⟨u, v, ut, h1, h2, h3, h4, h5⟩ := h
    exact ⟨u, v, ut, h1, S.In.keep (fun p _ hp => World.cell?_of_block (h0 _ hp)) _ h2, T.In.keep hb _ h3, h4, FnHalf.keep h0 hb r h5⟩
theorem FnHalf.more {w : World} {hi : Nat} {P Q : Nat → Prop} (hb : ∀ b, P b → Q b) : ∀ (l : List Fn) {us : List Value}, FnHalf w hi P l us → FnHalf w hi Q l us
  | [], us, h => by simpa [FnHalf] using h
  | f :: r, us, h => by
    simp only [FnHalf] at h ⊢
    obtain ⟨u, v, ut, h1, h2, h3, h4, h5⟩ := h
    exact ⟨u, v, ut, h1, h2, T.In.more hb _ h3, h4, FnHalf.more hb r h5⟩
theorem FnHalf.row {w : World} {hi H : Nat} {P : Nat → Prop} (hH : hi ≤ H) (hP : ∀ b, P b → b < H) : ∀ (l : List Fn) {us : List Value}, FnHalf w hi P l us → FnRow w H l us
  | [], us, h => by simpa [FnHalf, FnRow] using h
  | f :: r, us, h => by
    simp only [FnHalf] at h
    simp only [FnRow]
    obtain ⟨u, v, ut, h1, h2, h3, h4, h5⟩ := h
    exact ⟨u, v, ut, h1, S.In.more (Nat.le_refl _) hH _ h2, T.In.more hP _ h3, h4, FnHalf.row hH hP r h5⟩
theorem FnHalf.snoc {w : World} {hi : Nat} {P : Nat → Prop} {f : Fn} {u v : Value} (hs : f.sort.In w 0 hi u) (ht : f.body.In w P v) (hl : f.name.size ≤ maxLen) : ∀ {l : List Fn} {us : List Value}, FnHalf w hi P l us →
    FnHalf w hi P (l ++ [f]) (us ++ [.string f.name, u, .int .i64 f.body.kind, .int .i64 f.body.num, v])
  | [], us, h => by
    simp only [FnHalf] at h
    subst h
    simp only [List.nil_append, FnHalf]
    exact ⟨u, v, [], rfl, hs, ht, hl, rfl⟩
  | g :: r, us, h => by
    simp only [FnHalf] at h
    obtain ⟨u', v', ut, rfl, h2, h3, h4, h5⟩ := h
    simp only [List.cons_append, FnHalf]
    exact ⟨u', v', _, rfl, h2, h3, h4, h5.snoc hs ht hl⟩

/-- What the loop that builds the smaller scheme holds: the functions fs so far. -/
structure RoundL (sy : List Sy) (fs : List Fn) (hi B : Nat) (w0 : World) (sv v1 : Value) (us : List Value) (w : World) : Prop where
  own : w.ownsRow (B + 1) 52 5 v1 fs.length us
  row : FnHalf w hi (fun b => B + 1 ≤ b ∧ b < w.heap.size ∧ v1.ownBlock ≠ some b) fs us
  out : Blk w B 25 #[sv, v1]
  sy_ : SyIn w (fun b => b < hi) sy sv
  hi_ : hi ≤ B
  bel : Below B w0 w
  f1 : ∃ A n c, v1 = .slice A n c
theorem RoundL.start {sy : List Sy} {hi : Nat} {w : World} {sv : Value} (h : SyIn w (fun b => b < hi) sy sv) (hhi : hi ≤ w.heap.size) :
    RoundL sy [] hi w.heap.size w sv (.slice none 0 0) [] (w.alloc (.cells #[sv, .slice none 0 0] 25)) := by
  have hb : Below w.heap.size w (w.alloc (.cells #[sv, .slice none 0 0] 25)) := (Below.refl _ _).alloc (Nat.le_refl _) _
  exact ⟨⟨by simp, .inl ⟨rfl, rfl⟩⟩, by simp [FnHalf], Blk.new _ _ _, h.below hb hhi, hhi, hb, ⟨_, _, _, rfl⟩⟩
theorem RoundL.next {sy : List Sy} {fs : List Fn} {hi B : Nat} {w0 wr w2 w3 : World} {sv v1 : Value} {us : List Value} {x : Fn} {u v : Value} {us2 : List Value} {o o1 : Obj} {gg cap : Nat}
    (hr : RoundL sy fs hi B w0 sv v1 us wr) (hn : x.name.size ≤ maxLen) (hs1 : x.sort.In w2 0 hi u) (hb1 : Below (wr.heap.size + 1) (wr.alloc o).drew w2) (hz1 : wr.heap.size + 1 ≤ w2.heap.size)
    (hm2 : Mk (wr.heap.size + 1) w2 x.body.args v us2)
    (hown3 : w3.ownsRow (B + 1) 52 5 (.slice (some ⟨gg, 0, none⟩) (fs.length + 1) cap) (fs.length + 1) (us ++ [.string x.name, u, .int .i64 x.body.kind, .int .i64 x.body.num, v])) (hgrow : (w2.alloc o1).grownBy w3 v1.ownBlock)
    (hat : v1.ownBlock = some gg ∨ gg = w2.heap.size + 1) (hlt : gg < w3.heap.size) :
    RoundL sy (fs ++ [x]) hi B w0 sv (.slice (some ⟨gg, 0, none⟩) (fs.length + 1) cap) (us ++ [.string x.name, u, .int .i64 x.body.kind, .int .i64 x.body.num, v]) (w3.setCell ⟨B, 1, none⟩ (.slice (some ⟨gg, 0, none⟩) (fs.length + 1) cap)) := by
  have hB3 : B < wr.heap.size := hr.out.lt
  have hhB := hr.hi_
  have hk2 : ∀ b, b < wr.heap.size → w2.heap[b]? = wr.heap[b]? := fun b hb => (hb1.block b (by omega)).trans (Below.heap_alloc wr o b hb)
  have hG : Grew w2 w3 v1 (.slice (some ⟨gg, 0, none⟩) (fs.length + 1) cap) := Grew.of hgrow hat hlt
  have l1 : ∀ b, v1.ownBlock = some b → B + 1 ≤ b ∧ b < wr.heap.size := fun b hb => hr.own.lt b hb
  have hz3 := hG.size
  have hk3 : ∀ b, b < wr.heap.size → v1.ownBlock ≠ some b → w3.heap[b]? = wr.heap[b]? := fun b hb hne => (hG.keep b (by omega) hne).trans (hk2 b hb)
  have hk4 : ∀ b, b < w2.heap.size → v1.ownBlock ≠ some b → (w3.setCell ⟨B, 1, none⟩ (.slice (some ⟨gg, 0, none⟩) (fs.length + 1) cap)).heap[b]? = w2.heap[b]? ∨ b = B := fun b hb hne => by
    by_cases hbB : b = B
    · exact .inr hbB
    · exact .inl ((Below.heap_setCell w3 ⟨B, 1, none⟩ _ b hbB).trans (hG.keep b hb hne))
  have hzz : (w3.setCell ⟨B, 1, none⟩ (.slice (some ⟨gg, 0, none⟩) (fs.length + 1) cap)).heap.size = w3.heap.size := by simp [World.setCell]
  have hold : ∀ b, b < hi → (w3.setCell ⟨B, 1, none⟩ (.slice (some ⟨gg, 0, none⟩) (fs.length + 1) cap)).heap[b]? = wr.heap[b]? := fun b hb => by
    rcases hk4 b (by omega) (fun e => by have := (l1 b e).1; omega) with h | h
    · exact h.trans (hk2 b (by omega))
    · omega
  have hown : ∀ b, (Value.slice (some ⟨gg, 0, none⟩) (fs.length + 1) cap).ownBlock = some b → v1.ownBlock = some b ∨ w2.heap.size ≤ b := fun b hb => by
    rcases hG.at_ b hb with h | h
    · exact .inl h
    · exact .inr h.1
  refine ⟨?_, ?_, ?_, ?_, hhB, ?_, ⟨_, _, _, rfl⟩⟩
  · rw [List.length_append]
    exact owns_kept3 hown3 (fun b hb => Below.heap_setCell w3 ⟨B, 1, none⟩ _ b (by have := (hown3.lt b hb).1; show b ≠ B; omega))
  · refine FnHalf.snoc ?_ ?_ hn ?_
    · exact S.In.keep (fun p _ hp => World.cell?_of_block ((hold _ hp).trans (hk2 _ (by omega)).symm)) _ hs1
    · have ht := hm2.term
      refine (T.In.keep (fun b hb => ?_) _ ht).more (fun b hb => ⟨by have := hb.1; omega, by have := hb.2; rw [hzz]; omega, fun e => ?_⟩) _
      · rcases hk4 b hb.2 (fun e => by have := (l1 b e).2; have := hb.1; omega) with h | h
        · exact h
        · have := hb.1; omega
      · rcases hown b e with h | h
        · have := (l1 b h).2; have := hb.1; omega
        · have := hb.2; omega
    · refine (FnHalf.keep hold (fun b hb => ?_) fs hr.row).more (fun b hb => ⟨hb.1, by have := hb.2.1; rw [hzz]; omega, fun e => ?_⟩) fs
      · rcases hk4 b (by have := hb.2.1; omega) hb.2.2 with h | h
        · exact h.trans (hk2 b hb.2.1)
        · have := hb.1; omega
      · rcases hown b e with h | h
        · exact hb.2.2 h
        · have := hb.2.1; omega
  · have h1 : Blk w3 B 25 #[sv, v1] := (hk3 _ hB3 (fun e => by have := (l1 _ e).1; omega)).trans hr.out
    exact (h1.set_ 1 _).eq_ rfl
  · obtain ⟨A, n, c, h1, h2, h3, h4, h5, h6⟩ := hr.sy_
    exact ⟨A, n, c, h1, h2, h3, h4, h5.keep hold, h6⟩
  · refine Below.setCell (hr.bel.trans ?_) (by simp) _
    exact ⟨hG.os.trans hb1.os, hG.tape.trans hb1.tape, hG.output.trans hb1.output, by omega, fun b hb => hk3 b (by omega) (fun e => by have := (l1 _ e).1; omega)⟩
/-- It is a scheme. -/
theorem RoundL.scheme {sy : List Sy} {fs : List Fn} {hi B : Nat} {w0 w : World} {sv v1 : Value} {us : List Value} (h : RoundL sy fs hi B w0 sv v1 us w) : ScIn w w.heap.size ⟨sy, fs⟩ sv v1 := by
  have hl := h.out.lt
  have hh := h.hi_
  refine ⟨h.sy_.more (by omega), ?_⟩
  have hrow := FnHalf.row (H := w.heap.size) (by omega) (fun b hb => hb.2.1) _ h.row
  rcases h.own.2 with ⟨rfl, h0⟩ | ⟨g, cap, cur, rfl, h1, h2, h3, h4, h5, h6⟩
  · have hf : fs = [] := List.eq_nil_of_length_eq_zero h0
    subst hf
    simp only [FnRow] at hrow
    subst hrow
    exact ⟨none, 0, 0, [], rfl, rfl, Nat.le_refl _, by omega, .inl rfl, by simp [FnRow]⟩
  · have hg := h.own.lt g rfl
    exact ⟨_, _, _, us, rfl, rfl, h3, by simpa [maxLen] using h4, .inr ⟨_, rfl, hg.2, h.own.cells (g := g) rfl⟩, hrow⟩
end Go.Proofs.YthgkgjbjiiedaaaGreatDoor
