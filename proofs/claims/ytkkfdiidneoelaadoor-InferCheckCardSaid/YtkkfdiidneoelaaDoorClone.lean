/-
  sorts.clone and the reference's Copy: what they return is the sort, each array in a block of its own.
-/
import Derived.Test.YtkkfdiidneoelaaDoorSize
import Derived.Deep.RegionLaw
import Derived.Deep.AppendLies
import Derived.OwnWalk
namespace Go.Proofs.YtkkfdiidneoelaaDoor
open Go.RowKit

mutual
/-- A cell's value is the sort, each array in a block of its own; fp: the blocks. -/
def S.Sep (w : World) : S → Value → List Nat → Prop
  | .mk l, v, fp => ∃ us rest, w.ownsRow 0 41 1 v l.length us ∧ S.SepL w l us rest ∧ fp = v.ownBlock.toList ++ rest
def S.SepL (w : World) : List S → List Value → List Nat → Prop
  | [], us, fp => us = [] ∧ fp = []
  | s :: r, us, fp => ∃ u ut f1 f2, us = u :: ut ∧ s.Sep w u f1 ∧ S.SepL w r ut f2 ∧ fp = f1 ++ f2
end
theorem owns_kept {w w' : World} {base : Nat} {e : TypeId} {size : Nat} {v : Value} {n : Nat} {xs : List Value} (h : w.ownsRow base e size v n xs) (hk : ∀ b, v.ownBlock = some b → w'.heap[b]? = w.heap[b]?) : w'.ownsRow base e size v n xs := by
  refine ⟨h.1, ?_⟩
  rcases h.2 with h2 | ⟨g, cap, cur, rfl, h3, h4, h5⟩
  · exact .inl h2
  · exact .inr ⟨g, cap, cur, rfl, h3, (hk g rfl).trans h4, h5⟩
mutual
theorem S.Sep.keep {w w' : World} : ∀ (s : S) {v : Value} {fp : List Nat}, s.Sep w v fp → (∀ b ∈ fp, w'.heap[b]? = w.heap[b]?) → s.Sep w' v fp
  | .mk l, v, fp, h, hb => by
    simp only [S.Sep] at h ⊢
    obtain ⟨us, rest, h1, h2, rfl⟩ := h
    exact ⟨us, rest, owns_kept h1 (fun b hb' => hb b (by simp [hb'])), S.SepL.keep l h2 (fun b hb' => hb b (by simp [hb'])), rfl⟩
theorem S.SepL.keep {w w' : World} : ∀ (l : List S) {us : List Value} {fp : List Nat}, S.SepL w l us fp → (∀ b ∈ fp, w'.heap[b]? = w.heap[b]?) → S.SepL w' l us fp
  | [], us, fp, h, _ => by simpa [S.SepL] using h
  | s :: r, us, fp, h, hb => by
    simp only [S.SepL] at h ⊢
    obtain ⟨u, ut, f1, f2, rfl, h1, h2, rfl⟩ := h
    exact ⟨u, ut, f1, f2, rfl, S.Sep.keep s h1 (fun b hb' => hb b (by simp [hb'])), S.SepL.keep r h2 (fun b hb' => hb b (by simp [hb'])), rfl⟩
end
theorem S.SepL.snoc {w : World} {x : S} {u : Value} {g : List Nat} (hx : x.Sep w u g) : ∀ (l : List S) {us : List Value} {fp : List Nat}, S.SepL w l us fp → S.SepL w (l ++ [x]) (us ++ [u]) (fp ++ g)
  | [], us, fp, h => by
    simp only [S.SepL] at h
    obtain ⟨rfl, rfl⟩ := h
    simp only [List.nil_append, S.SepL]
    exact ⟨u, [], g, [], rfl, hx, ⟨rfl, rfl⟩, by simp⟩
  | s :: r, us, fp, h => by
    simp only [S.SepL] at h
    obtain ⟨u', ut, f1, f2, rfl, h1, h2, rfl⟩ := h
    simp only [List.cons_append, S.SepL]
    exact ⟨u', ut ++ [u], f1, f2 ++ g, rfl, h1, S.SepL.snoc hx r h2, by simp⟩
mutual
theorem S.Sep.in_ {w : World} {lo hi : Nat} : ∀ (s : S) {v : Value} {fp : List Nat}, s.Sep w v fp → (∀ b ∈ fp, lo ≤ b ∧ b < hi) → s.In w lo hi v
  | .mk l, v, fp, h, hb => by
    simp only [S.Sep] at h
    obtain ⟨us, rest, h1, h2, rfl⟩ := h
    simp only [S.In]
    have hlen := h1.1
    rcases h1.2 with ⟨rfl, hl⟩ | ⟨g, cap, cur, rfl, h3, h4, h5, h6, h7⟩
    · have : l = [] := List.eq_nil_of_length_eq_zero hl
      subst this
      exact ⟨_, _, _, rfl, rfl, Nat.le_refl _, by omega, by simp [S.All]⟩
    · refine ⟨_, _, _, rfl, rfl, h5, by simpa [maxLen] using h6, ?_⟩
      have hg := hb g (by simp [Value.ownBlock])
      exact S.SepL.all l h2 (fun b hb' => hb b (by simp [hb'])) (fun j u hu => by
        have := h1.cells (g := g) rfl j u hu
        simpa using this) hg.1 hg.2
theorem S.SepL.all {w : World} {lo hi : Nat} : ∀ (l : List S) {us : List Value} {fp : List Nat} {ad : Addr} {i : Nat}, S.SepL w l us fp → (∀ b ∈ fp, lo ≤ b ∧ b < hi) →
    (∀ j u, us[j]? = some u → w.cell? (ad.add (i + j)) = some u) → lo ≤ ad.block → ad.block < hi → S.All w lo hi (some ad) i l
  | [], us, fp, ad, i, _, _, _, _, _ => by simp [S.All]
  | s :: r, us, fp, ad, i, h, hb, hc, h1, h2 => by
    simp only [S.SepL] at h
    obtain ⟨u, ut, f1, f2, rfl, h3, h4, rfl⟩ := h
    simp only [S.All]
    refine ⟨⟨ad, u, rfl, h1, h2, by simpa using hc 0 u rfl, S.Sep.in_ s h3 (fun b hb' => hb b (by simp [hb']))⟩, S.SepL.all r h4 (fun b hb' => hb b (by simp [hb'])) (fun j u' hu => ?_) h1 h2⟩
    have := hc (j + 1) u' (by simpa using hu)
    rwa [show i + (j + 1) = i + 1 + j from by omega] at this
end

theorem S.Sep.form {w : World} {s : S} {v : Value} {fp : List Nat} (h : s.Sep w v fp) : ∃ A n c, v = .slice A n c := by
  obtain ⟨l⟩ := s
  simp only [S.Sep] at h
  obtain ⟨us, rest, h1, _⟩ := h
  rcases h1.2 with ⟨rfl, _⟩ | ⟨g, cap, cur, rfl, _⟩
  · exact ⟨_, _, _, rfl⟩
  · exact ⟨_, _, _, rfl⟩
theorem sort_info : (Tryd.prog.info? 41).map (fun i => (i.zero, i.size, i.bytes)) = some (some (.agg #[.slice none 0 0]), 1, 24) := by kernel_rfl

/-- What clone leaves: a value that is the sort in blocks of its own, from block number B on. -/
def Cloned (s : S) (B : Nat) (w : World) (e : Ending) (w' : World) : Prop :=
  ∃ v fp, e = .returned (.agg #[v]) ∧ s.Sep w' v fp ∧ fp.Nodup ∧ (∀ b ∈ fp, B ≤ b ∧ b < w'.heap.size) ∧ Below w.heap.size w w'

/-- What the loop of clone holds behind k rounds. -/
structure Round (l : List S) (B : Nat) (w0 : World) (k : Nat) (cv : Value) (us : List Value) (fp : List Nat) (w : World) : Prop where
  own : w.ownsRow (B + 3) 41 1 cv k us
  sep : S.SepL w (l.take k) us fp
  nod : (cv.ownBlock.toList ++ fp).Nodup
  rng : ∀ b ∈ fp, B + 3 ≤ b ∧ b < w.heap.size
  blk : Blk w (B + 1 + 1) 41 #[cv]
  res : Blk w (B + 1) 41 #[.slice none 0 0]
  bel : Below B w0 w

theorem Round.next {l : List S} {B : Nat} {w0 wr w1 w2 : World} {k : Nat} {cv : Value} {us : List Value} {fp fp1 : List Nat} {x : S} {v1 : Value} {gg cap : Nat} {o o1 : Obj}
    (hr : Round l B w0 k cv us fp wr) (hx : l[k]? = some x) (hsep1 : x.Sep w1 v1 fp1) (hnod1 : fp1.Nodup) (hrng1 : ∀ b ∈ fp1, wr.heap.size + 1 ≤ b ∧ b < w1.heap.size)
    (hbb1 : Below (wr.heap.size + 1) (wr.alloc o).drew w1) (hwz : wr.heap.size + 1 ≤ w1.heap.size)
    (hown2 : w2.ownsRow (B + 3) 41 1 (.slice (some ⟨gg, 0, none⟩) (k + 1) cap) (k + 1) (us ++ [v1])) (hgrow : (w1.alloc o1).grownBy w2 cv.ownBlock)
    (hat : cv.ownBlock = some gg ∨ gg = w1.heap.size + 1) :
    Round l B w0 (k + 1) (.slice (some ⟨gg, 0, none⟩) (k + 1) cap) (us ++ [v1]) (fp ++ fp1) (w2.setCell ⟨B + 1 + 1, 0, none⟩ (.slice (some ⟨gg, 0, none⟩) (k + 1) cap)) := by
  have hB3 : B + 1 + 1 < wr.heap.size := hr.blk.lt
  have hgl := hown2.lt gg rfl
  have hsz2 : w1.heap.size + 1 ≤ w2.heap.size := by have := hgrow.size; simpa using this
  have hcvlt : ∀ b, cv.ownBlock = some b → B + 3 ≤ b ∧ b < wr.heap.size := fun b hb => hr.own.lt b hb
  have hfar : ∀ b, b < w1.heap.size → cv.ownBlock ≠ some b → b ≠ B + 1 + 1 → (w2.setCell ⟨B + 1 + 1, 0, none⟩ (.slice (some ⟨gg, 0, none⟩) (k + 1) cap)).heap[b]? = w1.heap[b]? := by
    intro b hb hc hne
    rw [Below.heap_setCell _ _ _ _ hne, hgrow.block b (by simp; omega) (fun e => hc e.symm), Below.heap_alloc _ _ _ hb]
  have hfar0 : ∀ b, b < wr.heap.size → cv.ownBlock ≠ some b → b ≠ B + 1 + 1 → (w2.setCell ⟨B + 1 + 1, 0, none⟩ (.slice (some ⟨gg, 0, none⟩) (k + 1) cap)).heap[b]? = wr.heap[b]? := by
    intro b hb hc hne
    rw [hfar b (by omega) hc hne, hbb1.block b (by omega)]
    exact Below.heap_alloc wr o b hb
  have hnod := List.nodup_append.1 hr.nod
  have hnf : ∀ b ∈ fp, cv.ownBlock ≠ some b := fun b hb he => hnod.2.2 b (by simp [he]) b hb rfl
  refine ⟨owns_kept hown2 (fun b hb => ?_), ?_, ?_, ?_, ?_, ?_, ?_⟩
  · have hb' : gg = b := by simpa [Value.ownBlock] using hb
    exact Below.heap_setCell _ _ _ _ (by show b ≠ B + 1 + 1; omega)
  · rw [List.take_add_one, hx]
    refine S.SepL.snoc (hsep1.keep _ (fun b hb => hfar b (hrng1 b hb).2 (fun he => by have := hcvlt b he; have := hrng1 b hb; omega) (by have := hrng1 b hb; omega))) _ (hr.sep.keep _ (fun b hb => hfar0 b (hr.rng b hb).2 (hnf b hb) (by have := hr.rng b hb; omega)))
  · have hdis : ∀ a ∈ fp, ∀ b ∈ fp1, a ≠ b := fun a ha b hb => by have := hr.rng a ha; have := hrng1 b hb; omega
    have h2 : (fp ++ fp1).Nodup := List.nodup_append.2 ⟨hnod.2.1, hnod1, hdis⟩
    simp only [Value.ownBlock, Option.toList, List.cons_append, List.nil_append]
    refine List.nodup_cons.2 ⟨fun hm => ?_, h2⟩
    rcases List.mem_append.1 hm with hm | hm
    · rcases hat with he | he
      · exact hnf gg hm he
      · have := hr.rng gg hm; omega
    · rcases hat with he | he
      · have := hcvlt gg he; have := hrng1 gg hm; omega
      · have := hrng1 gg hm; omega
  · intro b hb
    have hsz : w2.heap.size = (w2.setCell ⟨B + 1 + 1, 0, none⟩ (.slice (some ⟨gg, 0, none⟩) (k + 1) cap)).heap.size := by simp [World.setCell]
    rcases List.mem_append.1 hb with hb | hb
    · have := hr.rng b hb; omega
    · have := hrng1 b hb; omega
  · have h1 : Blk w2 (B + 1 + 1) 41 #[cv] := (hgrow.block _ (by simp; omega) (fun e => by have := hcvlt _ e.symm; omega)).trans (((((hr.blk.alloc o).drew).below hbb1 (by omega)).alloc o1))
    exact h1.set_ 0 _
  · exact (hfar0 (B + 1) (by omega) (fun e => by have := hcvlt _ e; omega) (by omega)).trans hr.res
  · refine ((hr.bel.alloc (by omega) o).drew.trans (hbb1.mono (by omega))).trans ?_
    refine (((Below.refl _ _).alloc (by omega) o1).grown hgrow (by simp; omega) (fun b hb => by have := hcvlt b hb; omega)).setCell (by simp; omega) _

theorem own_form {w : World} {base : Nat} {e : TypeId} {size : Nat} {v : Value} {n : Nat} {xs : List Value} (h : w.ownsRow base e size v n xs) : ∃ A n c, v = .slice A n c := by
  rcases h.2 with ⟨rfl, _⟩ | ⟨g, cap, cur, rfl, _⟩
  · exact ⟨_, _, _, rfl⟩
  · exact ⟨_, _, _, rfl⟩
theorem Round.done {l : List S} {B : Nat} {w0 wr : World} {cv : Value} {us : List Value} {fp : List Nat} (hr : Round l B w0 l.length cv us fp wr) (u : Value) :
    (S.mk l).Sep (wr.setCell ⟨B + 1, 0, none⟩ u) cv (cv.ownBlock.toList ++ fp) ∧ (cv.ownBlock.toList ++ fp).Nodup ∧ (∀ b ∈ cv.ownBlock.toList ++ fp, B + 3 ≤ b ∧ b < (wr.setCell ⟨B + 1, 0, none⟩ u).heap.size) ∧ Below B w0 (wr.setCell ⟨B + 1, 0, none⟩ u) := by
  have hcvlt : ∀ b, cv.ownBlock = some b → B + 3 ≤ b ∧ b < wr.heap.size := fun b hb => hr.own.lt b hb
  have hall : ∀ b ∈ cv.ownBlock.toList ++ fp, B + 3 ≤ b ∧ b < wr.heap.size := by
    intro b hb
    rcases List.mem_append.1 hb with hb | hb
    · exact hcvlt b (by simpa using hb)
    · exact hr.rng b hb
  have hs : (S.mk l).Sep wr cv (cv.ownBlock.toList ++ fp) := by
    simp only [S.Sep]
    refine ⟨us, fp, ⟨hr.own.1, ?_⟩, by have := hr.sep; rwa [List.take_length] at this, rfl⟩
    rcases hr.own.2 with h | ⟨g, cap, cur, h1, h2, h3⟩
    · exact .inl h
    · exact .inr ⟨g, cap, cur, h1, Nat.zero_le _, h3⟩
  refine ⟨hs.keep _ (fun b hb => Below.heap_setCell _ _ _ _ (by have := hall b hb; show b ≠ B + 1; omega)), hr.nod, fun b hb => by have := hall b hb; simpa [World.setCell] using this, hr.bel.setCell (by simp) _⟩
theorem Round.start (l : List S) (w : World) (o : Obj) : Round l w.heap.size w 0 (.slice none 0 0) [] [] (((w.alloc o).alloc (.cells #[.slice none 0 0] 41)).alloc (.cells #[.slice none 0 0] 41)) where
  own := ⟨by simp, .inl ⟨rfl, rfl⟩⟩
  sep := by simp [S.SepL]
  nod := by simp [Value.ownBlock]
  rng := by simp
  blk := by simpa using Blk.new ((w.alloc o).alloc (.cells #[.slice none 0 0] 41)) 41 #[.slice none 0 0]
  res := (by simpa using Blk.new (w.alloc o) 41 #[.slice none 0 0] : Blk ((w.alloc o).alloc (.cells #[.slice none 0 0] 41)) (w.heap.size + 1) 41 #[.slice none 0 0]).alloc _
  bel := (((Below.refl _ _).alloc (Nat.le_refl _) _).alloc (by simp) _).alloc (by simp; omega) _

end Go.Proofs.YtkkfdiidneoelaaDoor
