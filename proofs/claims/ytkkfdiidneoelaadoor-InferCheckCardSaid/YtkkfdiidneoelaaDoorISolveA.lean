/-
  infer.solve: what holds while the heads' guesses are made.
-/
import Derived.Test.YtkkfdiidneoelaaDoorISort
import Derived.Test.YtkkfdiidneoelaaDoorICheck
namespace Go.Proofs.YtkkfdiidneoelaaDoor
open Go.RowKit

theorem own_ne {w : World} {base : Nat} {e t : TypeId} {size n g : Nat} {v : Value} {xs : List Value} {cs : Array Value} (h : w.ownsRow base e size v n xs) (hg : Blk w g t cs) (hne : e ≠ t) : v.ownBlock ≠ some g := by
  rcases h.2 with ⟨rfl, _⟩ | ⟨g', cap, cur, rfl, _, hh, _⟩
  · simp [Value.ownBlock]
  · intro he
    have : g' = g := by simpa [Value.ownBlock] using he
    subst this
    unfold Blk at hg
    rw [hh] at hg
    injection hg with hg
    injection hg with _ ht
    exact hne ht
theorem Ps.keep' {B : Nat} {w w' : World} {l : List Nat} {v : Value} (h : Ps B w l v) (hk : ∀ b, v.ownBlock = some b → w'.heap[b]? = w.heap[b]?) : Ps B w' l v := owns_kept3 h hk
/-- A loose function, without its name. -/
def Lz.lo (f : Lz) : Lo := (f.params.toNat, f.body)
/-- The heads' guesses, as far as they are made. -/
structure SvAt (w : World) (ls : List Lo) (rs fs ss uf us : List Nat) (vf vs : Value) (G : Gr) (ps : List Nat) (wr : World) : Prop where
  bg : Begun ls rs fs ss G
  gs : Gs wr ps G (fun _ => 0)
  nf : Nodes ps fs uf
  ns : Nodes ps ss us
  pf : Ps (w.heap.size + 1) wr uf vf
  p2 : Ps (w.heap.size + 1) wr us vs
  sep : ∀ b, vf.ownBlock = some b → vs.ownBlock ≠ some b
  box : Blk wr w.heap.size 109 #[.slice none 0 0, vf, vs]
  base : ∀ p ∈ ps, w.heap.size + 1 ≤ p
  bel : Below w.heap.size w wr
theorem SvAt.start (w : World) : SvAt w [] [] [] [] [] [] (.slice none 0 0) (.slice none 0 0) [] [] (w.alloc (.cells #[.slice none 0 0, .slice none 0 0, .slice none 0 0] 109)) :=
  ⟨.nil, ⟨rfl, fun i j p h => by simp at h, fun i p d h => by simp at h⟩, .nil, .nil, Ps.nil _ _, Ps.nil _ _, fun b h => by simp [Value.ownBlock] at h, Blk.new _ _ _, fun p h => by simp at h, (Below.refl _ _).alloc (Nat.le_refl _) _⟩
section
variable {w wr w1 w2 : World} {ls : List Lo} {rs fs ss uf us : List Nat} {vf vs : Value} {G G' : Gr} {ps m : List Nat} {top p n cap gg : Nat} {o o2 : Obj}
/-- What stays behind one more guess, ahead of the store into the box: of the blocks that there were, only that of one slice has turned. -/
theorem SvAt.step (h : SvAt w ls rs fs ss uf us vf vs G ps wr) (hb1 : Below (wr.heap.size + 1) (wr.alloc o).drew w1) (hz1 : wr.heap.size + 1 ≤ w1.heap.size) (hg1 : Gs w1 (ps ++ m) G' (fun _ => 0)) (hm : ∀ b ∈ m, wr.heap.size + 1 ≤ b)
    (v : Value) (xs : List Value) (hv : wr.ownsRow (w.heap.size + 1) 76 1 v n xs) (hgrow : (w1.alloc o2).grownBy w2 v.ownBlock) :
    Gs w2 (ps ++ m) G' (fun _ => 0) ∧ Blk w2 w.heap.size 109 #[.slice none 0 0, vf, vs] ∧ (∀ b ∈ ps ++ m, w.heap.size + 1 ≤ b) ∧ Below w.heap.size w w2 ∧ wr.heap.size + 2 ≤ w2.heap.size ∧
      ∀ b, b < wr.heap.size → v.ownBlock ≠ some b → w2.heap[b]? = wr.heap[b]? := by
  have hzr := h.bel.size
  have hlt := h.box.lt
  have hvl := fun b hb => World.ownsRow.lt hv b hb
  have hq : ∀ b, b < wr.heap.size → v.ownBlock ≠ some b → w2.heap[b]? = wr.heap[b]? := fun b hb hn => by
    have e1 : (w1.alloc o2).heap[b]? = w1.heap[b]? := Below.heap_alloc w1 o2 b (by omega)
    have e2 : w1.heap[b]? = (wr.alloc o).heap[b]? := hb1.block b (by omega)
    have e3 : (wr.alloc o).heap[b]? = wr.heap[b]? := Below.heap_alloc wr o b hb
    exact (((hgrow.block b (by simp; omega) (fun e => hn e.symm)).trans e1).trans e2).trans e3
  refine ⟨?_, ?_, fun b hb => ?_, ?_, ?_, hq⟩
  · refine hg1.keep fun b hb => ?_
    have hbl := hg1.lt hb
    have hne : v.ownBlock ≠ some b := by
      intro e
      have hlo := hvl b e
      rcases List.mem_append.1 hb with hb' | hb'
      · obtain ⟨i, hi, rfl⟩ := List.mem_iff_getElem.1 hb'
        have h1 : ps[i]? = some ps[i] := List.getElem?_eq_getElem hi
        obtain ⟨d, hd⟩ := h.gs.nd h1
        obtain ⟨sm, kd, fr, to_, hk, _⟩ := h.gs.at_ i _ d h1 hd
        exact own_ne hv hk (by decide) e
      · have := hm b hb'; omega
    exact (hgrow.block b (by simp; omega) (fun e => hne e.symm)).trans (Below.heap_alloc w1 o2 b hbl)
  · exact (hq _ hlt (fun e => by have := hvl _ e; omega)).trans h.box
  · rcases List.mem_append.1 hb with hb | hb
    · exact h.base b hb
    · have := hm b hb; omega
  · have b1 : Below w.heap.size w (wr.alloc o).drew := (h.bel.alloc hzr o).drew
    exact ((b1.trans (hb1.mono (by omega))).alloc (by omega) o2).grown hgrow (by simp; omega) (fun b hb => by have := hvl b hb; omega)
  · have h3 : (w1.alloc o2).heap.size ≤ w2.heap.size := hgrow.size
    simp at h3; omega
theorem SvAt.nextS {r : Nat} (h : SvAt w ls rs fs ss uf us vf vs G ps wr) (he : FnExt G G' false r top) (hp : (ps ++ m)[top]? = some p) (hwz : wr.heap.size + 1 ≤ w1.heap.size)
    (hst : Gs w2 (ps ++ m) G' (fun _ => 0) ∧ Blk w2 w.heap.size 109 #[.slice none 0 0, vf, vs] ∧ (∀ b ∈ ps ++ m, w.heap.size + 1 ≤ b) ∧ Below w.heap.size w w2 ∧ wr.heap.size + 2 ≤ w2.heap.size ∧
      ∀ b, b < wr.heap.size → vs.ownBlock ≠ some b → w2.heap[b]? = wr.heap[b]?)
    (hown2 : w2.ownsRow (w.heap.size + 1) 76 1 (.slice (some ⟨gg, 0, none⟩) (us.length + 1) cap) (us.length + 1) (us.map pv ++ [pv p])) (hat : vs.ownBlock = some gg ∨ gg = w1.heap.size + 1) :
    SvAt w ls (rs ++ [r]) fs (ss ++ [top]) uf (us ++ [p]) vf (.slice (some ⟨gg, 0, none⟩) (us.length + 1) cap) G' (ps ++ m) (w2.setCell ⟨w.heap.size, 2, none⟩ (.slice (some ⟨gg, 0, none⟩) (us.length + 1) cap)) := by
  obtain ⟨h1, h2, h3, h4, h5, h6⟩ := hst
  have hfar : ∀ (b : Nat) (u : Value), w.heap.size + 1 ≤ b → (w2.setCell ⟨w.heap.size, 2, none⟩ u).heap[b]? = w2.heap[b]? := fun b u hb => Below.heap_setCell w2 ⟨w.heap.size, 2, none⟩ u b (by show b ≠ w.heap.size; omega)
  have hx : Ps (w.heap.size + 1) w2 (us ++ [p]) (.slice (some ⟨gg, 0, none⟩) (us.length + 1) cap) := by
    unfold Ps
    rw [List.map_append, List.length_append]
    exact hown2
  refine ⟨h.bg.sym he, h1.keep fun b hb => hfar b _ (h3 b hb), h.nf.more m, (h.ns.more m).snoc hp, ?_, hx.keep fun b hb _ => hfar b _ hb, ?_, (h2.set_ 2 _).eq_ (by simp), h3, h4.setCell (by simp) _⟩
  · refine h.pf.keep' fun b hb => ?_
    have hlt := h.pf.lt hb
    exact (hfar b _ hlt.1).trans (h6 b hlt.2 (h.sep b hb))
  · intro b hb
    have e : (Value.slice (some ⟨gg, 0, none⟩) (us.length + 1) cap).ownBlock = some gg := rfl
    rw [e]
    rcases hat with hat | hat
    · rw [← hat]; exact h.sep b hb
    · have := h.pf.lt hb; intro e2; injection e2 with e2; omega
theorem SvAt.nextF {l : Lo} (h : SvAt w ls rs fs ss uf us vf vs G ps wr) (he : FnExt G G' true l.1 top) (hp : (ps ++ m)[top]? = some p) (hwz : wr.heap.size + 1 ≤ w1.heap.size)
    (hst : Gs w2 (ps ++ m) G' (fun _ => 0) ∧ Blk w2 w.heap.size 109 #[.slice none 0 0, vf, vs] ∧ (∀ b ∈ ps ++ m, w.heap.size + 1 ≤ b) ∧ Below w.heap.size w w2 ∧ wr.heap.size + 2 ≤ w2.heap.size ∧
      ∀ b, b < wr.heap.size → vf.ownBlock ≠ some b → w2.heap[b]? = wr.heap[b]?)
    (hown2 : w2.ownsRow (w.heap.size + 1) 76 1 (.slice (some ⟨gg, 0, none⟩) (uf.length + 1) cap) (uf.length + 1) (uf.map pv ++ [pv p])) (hat : vf.ownBlock = some gg ∨ gg = w1.heap.size + 1) :
    SvAt w (ls ++ [l]) rs (fs ++ [top]) ss (uf ++ [p]) us (.slice (some ⟨gg, 0, none⟩) (uf.length + 1) cap) vs G' (ps ++ m) (w2.setCell ⟨w.heap.size, 1, none⟩ (.slice (some ⟨gg, 0, none⟩) (uf.length + 1) cap)) := by
  obtain ⟨h1, h2, h3, h4, h5, h6⟩ := hst
  have hfar : ∀ (b : Nat) (u : Value), w.heap.size + 1 ≤ b → (w2.setCell ⟨w.heap.size, 1, none⟩ u).heap[b]? = w2.heap[b]? := fun b u hb => Below.heap_setCell w2 ⟨w.heap.size, 1, none⟩ u b (by show b ≠ w.heap.size; omega)
  have hx : Ps (w.heap.size + 1) w2 (uf ++ [p]) (.slice (some ⟨gg, 0, none⟩) (uf.length + 1) cap) := by
    unfold Ps
    rw [List.map_append, List.length_append]
    exact hown2
  refine ⟨h.bg.fun_ he, h1.keep fun b hb => hfar b _ (h3 b hb), (h.nf.more m).snoc hp, h.ns.more m, (hx.keep fun b hb _ => hfar b _ hb), ?_, ?_, (h2.set_ 1 _).eq_ (by simp), h3, h4.setCell (by simp) _⟩
  · refine h.p2.keep' fun b hb => ?_
    have hlt := h.p2.lt hb
    exact (hfar b _ hlt.1).trans (h6 b hlt.2 (fun e => h.sep b e hb))
  · intro b hb
    have e : (Value.slice (some ⟨gg, 0, none⟩) (uf.length + 1) cap).ownBlock = some gg := rfl
    rw [e] at hb
    rcases hat with hat | hat
    · exact h.sep b (hat.trans hb)
    · intro e2; have := h.p2.lt e2; injection hb with hb; omega
end
theorem Ps.not_in {B : Nat} {w : World} {us ps : List Nat} {v : Value} {G : Gr} {vis : Nat → Int} (h : Ps B w us v) (hg : Gs w ps G vis) : ∀ b, v.ownBlock = some b → b ∉ ps := by
  intro b hb hm
  obtain ⟨i, hi, rfl⟩ := List.mem_iff_getElem.1 hm
  have h1 : ps[i]? = some ps[i] := List.getElem?_eq_getElem hi
  obtain ⟨d, hd⟩ := hg.nd h1
  obtain ⟨sm, kd, fr, to_, hk, _⟩ := hg.at_ i _ d h1 hd
  exact own_ne h hk (by decide) hb
theorem Ps.saves_ {B : Nat} {w w' : World} {us ps : List Nat} {v : Value} {G : Gr} {vis : Nat → Int} (h : Ps B w us v) (hg : Gs w ps G vis) (hs : Saves (· ∈ ps) w w') : Ps B w' us v :=
  h.keep' fun b hb => hs.block b (h.lt hb).2 (h.not_in hg b hb)
theorem Ps.prd_ {B : Nat} {w : World} {us ps : List Nat} {v : Value} {G : Gr} {vis : Nat → Int} (h : Ps B w us v) (hg : Gs w ps G vis) : PRd w (fun b => b < w.heap.size ∧ b ∉ ps) us v := by
  obtain ⟨A, c, rfl⟩ := h.form
  refine ⟨A, c, rfl, fun i p hi => ?_⟩
  obtain ⟨ad, rfl, h1, h2, h3⟩ := h.cell hi
  rcases h.2 with ⟨e, _⟩ | ⟨g, cap, cur, e, _⟩
  · cases e
  · injection e with e _ _
    injection e with e
    subst e
    exact ⟨_, rfl, ⟨h2, h.not_in hg _ rfl⟩, h3⟩
/-- So many bodies are done. -/
structure Sv3 (w : World) (ls : List Lo) (fs ss uf us : List Nat) (vf vs : Value) (G0 : Gr) (k : Nat) (G : Gr) (ps : List Nat) (wr : World) : Prop where
  go : Going ls fs ss G0 k G
  gs : Gs wr ps G (fun _ => 0)
  nf : Nodes ps fs uf
  ns : Nodes ps ss us
  pf : Ps (w.heap.size + 1) wr uf vf
  p2 : Ps (w.heap.size + 1) wr us vs
  box : ∃ A n c, Blk wr w.heap.size 109 #[.slice A n c, vf, vs]
  base : ∀ p ∈ ps, w.heap.size + 1 ≤ p
  bel : Below w.heap.size w wr
theorem SvAt.three {w wr : World} {ls : List Lo} {rs fs ss uf us : List Nat} {vf vs : Value} {G : Gr} {ps : List Nat} (h : SvAt w ls rs fs ss uf us vf vs G ps wr) : Sv3 w ls fs ss uf us vf vs G 0 G ps wr :=
  ⟨.start h.bg.good, h.gs, h.nf, h.ns, h.pf, h.p2, ⟨_, _, _, h.box⟩, h.base, h.bel⟩
theorem fin_list {v : Nat → D} : ∀ {fs : List Nat}, (∀ f ∈ fs, (v f).fin) → ∃ a : List S, a.length = fs.length ∧ ∀ (j f : Nat) (s : S), fs[j]? = some f → a[j]? = some s → v f = s.emb
  | [], _ => ⟨[], rfl, fun j f s h => by simp at h⟩
  | f :: r, h => by
    obtain ⟨s, hs⟩ := h f (by simp)
    obtain ⟨a, h1, h2⟩ := fin_list (fs := r) (fun g hg => h g (by simp [hg]))
    refine ⟨s :: a, by simp [h1], fun j g t hg ht => ?_⟩
    cases j with
    | zero => simp at hg ht; subst hg ht; exact hs
    | succ j => exact h2 j g t (by simpa using hg) (by simpa using ht)
/-- A new node that is o. -/
theorem tree_on {G : Gr} (hG : Good G) (v : Nat → D) (hv : Sol G v) : ∃ v', On G (G ++ [.tree]) v v' := ⟨_, On.one hG (d := .tree) hv D.o (if_pos rfl) (fun _ => D.fin_o)⟩
theorem tree_back {G : Gr} (v : Nat → D) (hv : Sol (G ++ [.tree]) v) : Sol G v ∧ v G.length = D.o := Sol.more.1 hv
end Go.Proofs.YtkkfdiidneoelaaDoor
