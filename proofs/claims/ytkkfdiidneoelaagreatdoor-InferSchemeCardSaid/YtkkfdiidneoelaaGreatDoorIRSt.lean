/-
  The reference's Sorts: what it holds in memory.
-/
import Derived.Test.YtkkfdiidneoelaaGreatDoorIRSort
import Derived.Test.YtkkfdiidneoelaaGreatDoorIROut
import Derived.Test.YtkkfdiidneoelaaGreatDoorIRRnd
import Derived.Test.YtkkfdiidneoelaaGreatDoorISolveB
import Derived.Test.YtkkfdiidneoelaaGreatDoorGR
namespace Go.Proofs.YtkkfdiidneoelaaGreatDoor
open Go.RowKit

theorem intsl_info : (Tryz.prog.info? 45).map (fun i => (i.zero, i.size, i.bytes)) = some (some (.slice none 0 0), 1, 24) := by kernel_rfl
/-- The graph, the heads' nodes, and the nodes of parameters. -/
structure M2 (w : World) (p B : Nat) (G : Gr) (gv : Value) (fs ss : List Nat) (qss : List (List Nat)) (h0 h1 h2 pv : Value) (pus : List Value) (wr : World) : Prop where
  rg : RG p wr G gv
  hb : Blk wr B 137 #[h0, h1, h2]
  z1 : Zs w.heap.size wr (nints fs) h1
  z2 : Zs w.heap.size wr (nints ss) h2
  s12 : ∀ b, h1.ownBlock = some b → h2.ownBlock ≠ some b
  po : wr.ownsRow w.heap.size 45 1 pv qss.length pus
  par : ∀ (j : Nat) (qs : List Nat), qss[j]? = some qs → ∃ u, pus[j]? = some u ∧ Zs w.heap.size wr (nints qs) u ∧ ∀ b, u.ownBlock = some b → h1.ownBlock ≠ some b ∧ h2.ownBlock ≠ some b
  gb : ∀ b, gv.ownBlock = some b → w.heap.size ≤ b
  hp : w.heap.size ≤ p ∧ w.heap.size ≤ B
  bel : Below w.heap.size w wr
section
variable {w wr w' w2 : World} {p B : Nat} {G G' : Gr} {gv gv' : Value} {fs ss : List Nat} {qss : List (List Nat)} {h0 h1 h2 pv : Value} {pus : List Value}
theorem M2.pB (h : M2 w p B G gv fs ss qss h0 h1 h2 pv pus wr) : p ≠ B ∧ gv.ownBlock ≠ some B := by
  refine ⟨fun e => ?_, own_ne h.rg.own h.hb (by decide)⟩
  have h1 := h.rg.box
  have h2 := h.hb
  unfold Blk at h1 h2
  rw [e, h2] at h1
  injection h1 with h1
  injection h1 with _ ht
  exact absurd ht (by decide)
/-- Kept where nothing but one other block has turned. -/
theorem M2.other (h : M2 w p B G gv fs ss qss h0 h1 h2 pv pus wr) {X : Option Nat} (hs : Saves (fun b => X = some b) wr w') (hX : ∀ b, X = some b → w.heap.size ≤ b ∧ b ≠ p ∧ b ≠ B ∧ gv.ownBlock ≠ some b ∧ h1.ownBlock ≠ some b ∧ h2.ownBlock ≠ some b ∧ pv.ownBlock ≠ some b ∧ ∀ u ∈ pus, u.ownBlock ≠ some b) :
    M2 w p B G gv fs ss qss h0 h1 h2 pv pus w' := by
  have hk : ∀ b, b < wr.heap.size → X ≠ some b → w'.heap[b]? = wr.heap[b]? := fun b hb hn => hs.block b hb hn
  have l1 := fun b hb => (h.z1.lt (b := b) hb).2
  have l2 := fun b hb => (h.z2.lt (b := b) hb).2
  have l3 := fun b hb => (h.po.lt b hb).2
  refine ⟨h.rg.keep (hk p h.rg.box.lt (fun e => (hX p e).2.1 rfl)) (fun b hb => hk b (h.rg.lt hb) (fun e => (hX b e).2.2.2.1 hb)), (hk B h.hb.lt (fun e => (hX B e).2.2.1 rfl)).trans h.hb,
    owns_kept3 h.z1 fun b hb => hk b (l1 b hb) (fun e => (hX b e).2.2.2.2.1 hb), owns_kept3 h.z2 fun b hb => hk b (l2 b hb) (fun e => (hX b e).2.2.2.2.2.1 hb), h.s12,
    owns_kept3 h.po fun b hb => hk b (l3 b hb) (fun e => (hX b e).2.2.2.2.2.2.1 hb), fun j qs hj => ?_, h.gb, h.hp, h.bel.trans (hs.below (h.bel.size) (fun k hk' hm => by have := (hX k hm).1; omega))⟩
  obtain ⟨u, e1, e2, e3⟩ := h.par j qs hj
  exact ⟨u, e1, owns_kept3 e2 fun b hb => hk b (e2.lt hb).2 (fun e => (hX b e).2.2.2.2.2.2.2 u (List.mem_of_getElem? e1) hb), e3⟩
theorem M2.below (h : M2 w p B G gv fs ss qss h0 h1 h2 pv pus wr) (hb : Below wr.heap.size wr w') : M2 w p B G gv fs ss qss h0 h1 h2 pv pus w' :=
  h.other (X := none) ⟨hb.os, hb.tape, hb.output, hb.size, fun k hk _ => hb.block k hk⟩ (fun b e => by cases e)
/-- The graph has gone on. -/
theorem M2.rt (h : M2 w p B G gv fs ss qss h0 h1 h2 pv pus wr) (hg : RG p w' G' gv') (ht : RT p wr gv w' gv') : M2 w p B G' gv' fs ss qss h0 h1 h2 pv pus w' := by
  refine ⟨hg, (ht.block h.hb.lt (fun e => h.pB.1 e.symm) h.pB.2).trans h.hb, h.z1.rt h.rg ht, h.z2.rt h.rg ht, h.s12, ?_, fun j qs hj => ?_, ht.base h.bel.size h.gb, h.hp, h.bel.trans (ht.below h.bel.size h.hp.1 h.gb)⟩
  · exact owns_kept3 h.po fun b hb => ht.block (h.po.lt b hb).2 (fun e => own_ne h.po h.rg.box (by decide) (by rw [← e]; exact hb)) (fun e => own_own_ne h.po h.rg.own (by decide) b hb e)
  · obtain ⟨u, e1, e2, e3⟩ := h.par j qs hj
    exact ⟨u, e1, e2.rt h.rg ht, e3⟩
/-- One cell of the heads' box is written. -/
theorem M2.head0 (h : M2 w p B G gv fs ss qss h0 h1 h2 pv pus wr) (u : Value) : M2 w p B G gv fs ss qss u h1 h2 pv pus (wr.setCell ⟨B, 0, none⟩ u) := by
  have hk : ∀ b, b ≠ B → (wr.setCell ⟨B, 0, none⟩ u).heap[b]? = wr.heap[b]? := fun b hb => Below.heap_setCell wr ⟨B, 0, none⟩ u b hb
  have ne1 : h1.ownBlock ≠ some B := own_ne h.z1 h.hb (by decide)
  have ne2 : h2.ownBlock ≠ some B := own_ne h.z2 h.hb (by decide)
  have ne3 : pv.ownBlock ≠ some B := own_ne h.po h.hb (by decide)
  refine ⟨h.rg.keep (hk p h.pB.1) (fun b hb => hk b (fun e => h.pB.2 (e ▸ hb))), (h.hb.set_ 0 u).eq_ rfl, owns_kept3 h.z1 fun b hb => hk b (fun e => ne1 (e ▸ hb)), owns_kept3 h.z2 fun b hb => hk b (fun e => ne2 (e ▸ hb)), h.s12,
    owns_kept3 h.po fun b hb => hk b (fun e => ne3 (e ▸ hb)), fun j qs hj => ?_, h.gb, h.hp, h.bel.setCell h.hp.2 _⟩
  obtain ⟨u', e1, e2, e3⟩ := h.par j qs hj
  exact ⟨u', e1, owns_kept3 e2 fun b hb => hk b (fun e => own_ne e2 h.hb (by decide) (e ▸ hb)), e3⟩
/-- A symbol's node. -/
theorem M2.put2 {o : Obj} {gg cap top : Nat} (h : M2 w p B G gv fs ss qss h0 h1 h2 pv pus wr)
    (hown : w2.ownsRow w.heap.size 3 1 (.slice (some ⟨gg, 0, none⟩) (ss.length + 1) cap) (ss.length + 1) ((nints ss).map (Value.int .i64) ++ [.int .i64 (top : Int)])) (hgrow : (wr.alloc o).grownBy w2 h2.ownBlock) (hat : h2.ownBlock = some gg ∨ gg = wr.heap.size + 1) :
    M2 w p B G gv fs (ss ++ [top]) qss h0 h1 (.slice (some ⟨gg, 0, none⟩) (ss.length + 1) cap) pv pus (w2.setCell ⟨B, 2, none⟩ (.slice (some ⟨gg, 0, none⟩) (ss.length + 1) cap)) := by
  have hz2 := hgrow.size
  rw [World.size_alloc] at hz2
  have hfar : ∀ b, b < wr.heap.size → h2.ownBlock ≠ some b → w2.heap[b]? = wr.heap[b]? := fun b hb hne => by
    rw [hgrow.block b (by rw [World.size_alloc]; omega) (fun e => hne e.symm), Below.heap_alloc _ _ _ hb]
  have hset : ∀ b, b ≠ B → (w2.setCell ⟨B, 2, none⟩ (.slice (some ⟨gg, 0, none⟩) (ss.length + 1) cap)).heap[b]? = w2.heap[b]? := fun b hb => Below.heap_setCell w2 ⟨B, 2, none⟩ _ b hb
  have ne2 : h2.ownBlock ≠ some B := own_ne h.z2 h.hb (by decide)
  have ne1 : h1.ownBlock ≠ some B := own_ne h.z1 h.hb (by decide)
  have ne3 : pv.ownBlock ≠ some B := own_ne h.po h.hb (by decide)
  have hBl := h.hb.lt
  have hgo : ∀ b, (Value.slice (some ⟨gg, 0, none⟩) (ss.length + 1) cap).ownBlock = some b → gg = b := fun b hb => by simpa [Value.ownBlock] using hb
  have hnew : ∀ b, b < wr.heap.size → h2.ownBlock ≠ some b → gg ≠ b := fun b hb hne e => by
    rcases hat with h3 | h3
    · exact hne (by rw [h3, e])
    · omega
  have hgB : gg ≠ B := hnew B hBl ne2
  refine ⟨h.rg.keep ((hset p h.pB.1).trans (hfar p h.rg.box.lt (own_ne h.z2 h.rg.box (by decide)))) (fun b hb => (hset b (fun e => h.pB.2 (e ▸ hb))).trans (hfar b (h.rg.lt hb) (fun e => own_own_ne h.z2 h.rg.own (by decide) b e hb))), ?_, ?_, ?_, ?_, ?_, ?_, h.gb, h.hp, ?_⟩
  · have h1 : Blk w2 B 137 #[h0, h1, h2] := (hfar B hBl ne2).trans h.hb
    exact (h1.set_ 2 _).eq_ rfl
  · exact owns_kept3 h.z1 fun b hb => (hset b (fun e => ne1 (e ▸ hb))).trans (hfar b (h.z1.lt hb).2 (h.s12 b hb))
  · have e : (nints (ss ++ [top])).map (Value.int .i64) = (nints ss).map (Value.int .i64) ++ [.int .i64 (top : Int)] := by simp [nints]
    unfold Zs
    rw [e, nints_len, List.length_append]
    exact owns_kept3 hown fun b hb => hset b (fun e => hgB ((hgo b hb).trans e))
  · intro b hb e
    exact hnew b (h.z1.lt hb).2 (h.s12 b hb) (hgo b e)
  · exact owns_kept3 h.po fun b hb => (hset b (fun e => ne3 (e ▸ hb))).trans (hfar b (h.po.lt b hb).2 (fun e => own_own_ne h.po h.z2 (by decide) b hb e))
  · intro j qs hj
    obtain ⟨u', e1, e2, e3⟩ := h.par j qs hj
    exact ⟨u', e1, owns_kept3 e2 fun b hb => (hset b (fun e => own_ne e2 h.hb (by decide) (e ▸ hb))).trans (hfar b (e2.lt hb).2 (e3 b hb).2), fun b hb => ⟨(e3 b hb).1, fun e => hnew b (e2.lt hb).2 (e3 b hb).2 (hgo b e)⟩⟩
  · exact ((h.bel.alloc h.bel.size o).grown hgrow (by rw [World.size_alloc]; have := h.bel.size; omega) (fun b hb => (h.z2.lt hb).1)).setCell h.hp.2 _
/-- A function's node. -/
theorem M2.put1 {o : Obj} {gg cap top : Nat} (h : M2 w p B G gv fs ss qss h0 h1 h2 pv pus wr)
    (hown : w2.ownsRow w.heap.size 3 1 (.slice (some ⟨gg, 0, none⟩) (fs.length + 1) cap) (fs.length + 1) ((nints fs).map (Value.int .i64) ++ [.int .i64 (top : Int)])) (hgrow : (wr.alloc o).grownBy w2 h1.ownBlock) (hat : h1.ownBlock = some gg ∨ gg = wr.heap.size + 1) :
    M2 w p B G gv (fs ++ [top]) ss qss h0 (.slice (some ⟨gg, 0, none⟩) (fs.length + 1) cap) h2 pv pus (w2.setCell ⟨B, 1, none⟩ (.slice (some ⟨gg, 0, none⟩) (fs.length + 1) cap)) := by
  have hz2 := hgrow.size
  rw [World.size_alloc] at hz2
  have hfar : ∀ b, b < wr.heap.size → h1.ownBlock ≠ some b → w2.heap[b]? = wr.heap[b]? := fun b hb hne => by
    rw [hgrow.block b (by rw [World.size_alloc]; omega) (fun e => hne e.symm), Below.heap_alloc _ _ _ hb]
  have hset : ∀ b, b ≠ B → (w2.setCell ⟨B, 1, none⟩ (.slice (some ⟨gg, 0, none⟩) (fs.length + 1) cap)).heap[b]? = w2.heap[b]? := fun b hb => Below.heap_setCell w2 ⟨B, 1, none⟩ _ b hb
  have ne2 : h2.ownBlock ≠ some B := own_ne h.z2 h.hb (by decide)
  have ne1 : h1.ownBlock ≠ some B := own_ne h.z1 h.hb (by decide)
  have ne3 : pv.ownBlock ≠ some B := own_ne h.po h.hb (by decide)
  have hBl := h.hb.lt
  have s21 : ∀ b, h2.ownBlock = some b → h1.ownBlock ≠ some b := fun b hb e => h.s12 b e hb
  have hgo : ∀ b, (Value.slice (some ⟨gg, 0, none⟩) (fs.length + 1) cap).ownBlock = some b → gg = b := fun b hb => by simpa [Value.ownBlock] using hb
  have hnew : ∀ b, b < wr.heap.size → h1.ownBlock ≠ some b → gg ≠ b := fun b hb hne e => by
    rcases hat with h3 | h3
    · exact hne (by rw [h3, e])
    · omega
  have hgB : gg ≠ B := hnew B hBl ne1
  refine ⟨h.rg.keep ((hset p h.pB.1).trans (hfar p h.rg.box.lt (own_ne h.z1 h.rg.box (by decide)))) (fun b hb => (hset b (fun e => h.pB.2 (e ▸ hb))).trans (hfar b (h.rg.lt hb) (fun e => own_own_ne h.z1 h.rg.own (by decide) b e hb))), ?_, ?_, ?_, ?_, ?_, ?_, h.gb, h.hp, ?_⟩
  · have h1 : Blk w2 B 137 #[h0, h1, h2] := (hfar B hBl ne1).trans h.hb
    exact (h1.set_ 1 _).eq_ rfl
  · have e : (nints (fs ++ [top])).map (Value.int .i64) = (nints fs).map (Value.int .i64) ++ [.int .i64 (top : Int)] := by simp [nints]
    unfold Zs
    rw [e, nints_len, List.length_append]
    exact owns_kept3 hown fun b hb => hset b (fun e => hgB ((hgo b hb).trans e))
  · exact owns_kept3 h.z2 fun b hb => (hset b (fun e => ne2 (e ▸ hb))).trans (hfar b (h.z2.lt hb).2 (s21 b hb))
  · intro b hb e
    exact hnew b (h.z2.lt e).2 (s21 b e) (hgo b hb)
  · exact owns_kept3 h.po fun b hb => (hset b (fun e => ne3 (e ▸ hb))).trans (hfar b (h.po.lt b hb).2 (fun e => own_own_ne h.po h.z1 (by decide) b hb e))
  · intro j qs hj
    obtain ⟨u', e1, e2, e3⟩ := h.par j qs hj
    exact ⟨u', e1, owns_kept3 e2 fun b hb => (hset b (fun e => own_ne e2 h.hb (by decide) (e ▸ hb))).trans (hfar b (e2.lt hb).2 (e3 b hb).1), fun b hb => ⟨fun e => hnew b (e2.lt hb).2 (e3 b hb).1 (hgo b e), (e3 b hb).2⟩⟩
  · exact ((h.bel.alloc h.bel.size o).grown hgrow (by rw [World.size_alloc]; have := h.bel.size; omega) (fun b hb => (h.z1.lt hb).1)).setCell h.hp.2 _
/-- The nodes of a function's parameters. -/
theorem M2.putP {o : Obj} {gg cap : Nat} {qs : List Nat} {fv : Value} (h : M2 w p B G gv fs ss qss h0 h1 h2 pv pus wr) (hz : Zs w.heap.size wr (nints qs) fv) (hf : ∀ b, fv.ownBlock = some b → h1.ownBlock ≠ some b ∧ h2.ownBlock ≠ some b)
    (hown : w2.ownsRow w.heap.size 45 1 (.slice (some ⟨gg, 0, none⟩) (qss.length + 1) cap) (qss.length + 1) (pus ++ [fv])) (hgrow : (wr.alloc o).grownBy w2 pv.ownBlock) :
    M2 w p B G gv fs ss (qss ++ [qs]) h0 h1 h2 (.slice (some ⟨gg, 0, none⟩) (qss.length + 1) cap) (pus ++ [fv]) w2 := by
  have hz2 := hgrow.size
  rw [World.size_alloc] at hz2
  have hfar : ∀ b, b < wr.heap.size → pv.ownBlock ≠ some b → w2.heap[b]? = wr.heap[b]? := fun b hb hne => by
    rw [hgrow.block b (by rw [World.size_alloc]; omega) (fun e => hne e.symm), Below.heap_alloc _ _ _ hb]
  have nez : ∀ {l : List Int} {u : Value}, Zs w.heap.size wr l u → ∀ b, u.ownBlock = some b → pv.ownBlock ≠ some b := fun hu b hb => own_own_ne hu h.po (by decide) b hb
  refine ⟨h.rg.keep (hfar p h.rg.box.lt (own_ne h.po h.rg.box (by decide))) (fun b hb => hfar b (h.rg.lt hb) (fun e => own_own_ne h.po h.rg.own (by decide) b e hb)), (hfar B h.hb.lt (own_ne h.po h.hb (by decide))).trans h.hb,
    owns_kept3 h.z1 fun b hb => hfar b (h.z1.lt hb).2 (nez h.z1 b hb), owns_kept3 h.z2 fun b hb => hfar b (h.z2.lt hb).2 (nez h.z2 b hb), h.s12, by rw [List.length_append]; exact hown, fun j q hj => ?_, h.gb, h.hp,
    (h.bel.alloc h.bel.size o).grown hgrow (by rw [World.size_alloc]; have := h.bel.size; omega) (fun b hb => (h.po.lt b hb).1)⟩
  have hpl : pus.length = qss.length := by have := h.po.1; omega
  rcases getElem?_snoc hj with hj2 | ⟨hj2, rfl⟩
  · obtain ⟨u', e1, e2, e3⟩ := h.par j q hj2
    exact ⟨u', by rw [List.getElem?_append_left (List.getElem?_eq_some_iff.1 e1).1]; exact e1, owns_kept3 e2 fun b hb => hfar b (e2.lt hb).2 (nez e2 b hb), e3⟩
  · exact ⟨fv, by rw [hj2, ← hpl]; simp, owns_kept3 hz fun b hb => hfar b (hz.lt hb).2 (nez hz b hb), hf⟩
/-- All slices of numbers lie below F. -/
theorem M2.lts (h : M2 w p B G gv fs ss qss h0 h1 h2 pv pus wr) : ∀ b, (h1.ownBlock = some b ∨ h2.ownBlock = some b ∨ pv.ownBlock = some b ∨ ∃ u ∈ pus, u.ownBlock = some b) → b < wr.heap.size := by
  intro b hb
  rcases hb with hb | hb | hb | ⟨u, hu, hb⟩
  · exact (h.z1.lt hb).2
  · exact (h.z2.lt hb).2
  · exact (h.po.lt b hb).2
  · obtain ⟨j, hj⟩ := List.getElem?_of_mem hu
    have hjl := (List.getElem?_eq_some_iff.1 hj).1
    have hpl : pus.length = qss.length := by have := h.po.1; omega
    obtain ⟨u', e1, e2, _⟩ := h.par j _ (List.getElem?_eq_getElem (by omega))
    rw [hj] at e1
    cases e1
    exact (e2.lt hb).2
/-- A new slice of numbers grows. -/
theorem M2.grow {F gg cap z : Nat} {l : List Nat} {fv : Value} {o : Obj} (h : M2 w p B G gv fs ss qss h0 h1 h2 pv pus wr) (hz : Zs F wr (nints l) fv) (hF : w.heap.size ≤ F) (hlt : ∀ b, (h1.ownBlock = some b ∨ h2.ownBlock = some b ∨ pv.ownBlock = some b ∨ ∃ u ∈ pus, u.ownBlock = some b) → b < F)
    (hown : w2.ownsRow F 3 1 (.slice (some ⟨gg, 0, none⟩) (l.length + 1) cap) (l.length + 1) ((nints l).map (Value.int .i64) ++ [.int .i64 (z : Int)])) (hgrow : (wr.alloc o).grownBy w2 fv.ownBlock) :
    M2 w p B G gv fs ss qss h0 h1 h2 pv pus w2 ∧ Zs F w2 (nints (l ++ [z])) (.slice (some ⟨gg, 0, none⟩) (l.length + 1) cap) := by
  have hz2 := hgrow.size
  rw [World.size_alloc] at hz2
  refine ⟨h.other (X := fv.ownBlock) ⟨hgrow.os, hgrow.tape, hgrow.output, by omega, fun b hb hn => ?_⟩ (fun b hb => ?_), ?_⟩
  · rw [hgrow.block b (by rw [World.size_alloc]; omega) (fun e => hn e.symm), Below.heap_alloc _ _ _ hb]
  · have hFb := (hz.lt hb).1
    refine ⟨by omega, fun e => own_ne hz h.rg.box (by decide) (by rw [← e]; exact hb), fun e => own_ne hz h.hb (by decide) (by rw [← e]; exact hb), fun e => own_own_ne hz h.rg.own (by decide) b hb e, fun e => ?_, fun e => ?_, fun e => ?_, fun u hu e => ?_⟩
    · have := hlt b (.inl e); omega
    · have := hlt b (.inr (.inl e)); omega
    · have := hlt b (.inr (.inr (.inl e))); omega
    · have := hlt b (.inr (.inr (.inr ⟨u, hu, e⟩))); omega
  · have e : (nints (l ++ [z])).map (Value.int .i64) = (nints l).map (Value.int .i64) ++ [.int .i64 (z : Int)] := by simp [nints]
    unfold Zs
    rw [e, nints_len, List.length_append]
    exact hown
/-- A new slice of numbers lies beside all. -/
theorem M2.aside {F : Nat} {l : List Int} {fv : Value} (h : M2 w p B G gv fs ss qss h0 h1 h2 pv pus wr) (hz : Zs F wr l fv) (hF : w.heap.size ≤ F) (hlt : ∀ b, (h1.ownBlock = some b ∨ h2.ownBlock = some b ∨ pv.ownBlock = some b ∨ ∃ u ∈ pus, u.ownBlock = some b) → b < F)
    (hs : Saves (fun b => fv.ownBlock = some b) wr w') : M2 w p B G gv fs ss qss h0 h1 h2 pv pus w' := by
  refine h.other (X := fv.ownBlock) hs fun b hb => ?_
  have hFb := (hz.lt hb).1
  refine ⟨by omega, fun e => own_ne hz h.rg.box (by decide) (by rw [← e]; exact hb), fun e => own_ne hz h.hb (by decide) (by rw [← e]; exact hb), fun e => own_own_ne hz h.rg.own (by decide) b hb e, fun e => ?_, fun e => ?_, fun e => ?_, fun u hu e => ?_⟩
  · have := hlt b (.inl e); omega
  · have := hlt b (.inr (.inl e)); omega
  · have := hlt b (.inr (.inr (.inl e))); omega
  · have := hlt b (.inr (.inr (.inr ⟨u, hu, e⟩))); omega
end
theorem RoundS.next2 {l : List S} {ps : List Nat} {w0 wr w1 w2 : World} {k : Nat} {cv : Value} {us : List Value} {fp fp1 : List Nat} {x : S} {v1 : Value} {gg cap : Nat} {o1 : Obj}
    (hr : RoundS l ps w0 k cv us fp wr) (hps : ∀ b ∈ ps, b < w0.heap.size) (hx : l[k]? = some x) (hsep1 : x.Sep w1 v1 fp1) (hnod1 : fp1.Nodup) (hrng1 : ∀ b ∈ fp1, wr.heap.size ≤ b ∧ b < w1.heap.size)
    (hbb1 : Saves (· ∈ ps) wr w1)
    (hown2 : w2.ownsRow w0.heap.size 50 1 (.slice (some ⟨gg, 0, none⟩) (k + 1) cap) (k + 1) (us ++ [v1])) (hgrow : (w1.alloc o1).grownBy w2 cv.ownBlock)
    (hat : cv.ownBlock = some gg ∨ gg = w1.heap.size + 1) :
    RoundS l ps w0 (k + 1) (.slice (some ⟨gg, 0, none⟩) (k + 1) cap) (us ++ [v1]) (fp ++ fp1) w2 := by
  have hwz := hbb1.size
  have hw0 := hr.sav.size
  have hsz2 : w1.heap.size + 1 ≤ w2.heap.size := by have := hgrow.size; simp at this; omega
  have hcvlt : ∀ b, cv.ownBlock = some b → w0.heap.size ≤ b ∧ b < wr.heap.size := fun b hb => hr.own.lt b hb
  have hnp : ∀ b, w0.heap.size ≤ b → b ∉ ps := fun b hb hm => by have := hps b hm; omega
  have hal : ∀ b, b < w1.heap.size → (w1.alloc o1).heap[b]? = w1.heap[b]? := fun b hb => Below.heap_alloc _ _ _ hb
  have hfar : ∀ b, b < w1.heap.size → cv.ownBlock ≠ some b → w2.heap[b]? = w1.heap[b]? := by
    intro b hb hc
    rw [hgrow.block b (by simp; omega) (fun e => hc e.symm), hal b hb]
  have hfar0 : ∀ b, w0.heap.size ≤ b → b < wr.heap.size → cv.ownBlock ≠ some b → w2.heap[b]? = wr.heap[b]? := by
    intro b h0 hb hc
    rw [hfar b (by omega) hc, hbb1.block b hb (hnp b h0)]
  have hnod := List.nodup_append.1 hr.nod
  have hnf : ∀ b ∈ fp, cv.ownBlock ≠ some b := fun b hb he => hnod.2.2 b (by simp [he]) b hb rfl
  refine ⟨hown2, ?_, ?_, ?_, ?_⟩
  · rw [List.take_add_one, hx]
    refine S.SepL.snoc (hsep1.keep _ (fun b hb => hfar b (hrng1 b hb).2 (fun he => by have := hcvlt b he; have := hrng1 b hb; omega))) _ (hr.sep.keep _ (fun b hb => hfar0 b (by have := hr.rng b hb; omega) (hr.rng b hb).2 (hnf b hb)))
  · have hdis : ∀ a ∈ fp, ∀ b ∈ fp1, a ≠ b := fun a ha b hb => by have := hr.rng a ha; have := hrng1 b hb; omega
    have h2 : (fp ++ fp1).Nodup := List.nodup_append.2 ⟨hnod.2.1, hnod1, hdis⟩
    simp only [Value.ownBlock, Option.toList, List.cons_append, List.nil_append]
    refine List.nodup_cons.2 ⟨fun hm => ?_, h2⟩
    rcases List.mem_append.1 hm with hm | hm
    · rcases hat with he | he
      · exact hnf gg hm he
      · have := hr.rng gg hm; omega
    · rcases hat with he | he
      · have := hcvlt gg he; have := hrng1 gg hm; omega
      · have := hrng1 gg hm; omega
  · intro b hb
    rcases List.mem_append.1 hb with hb | hb
    · have := hr.rng b hb; omega
    · have := hrng1 b hb; omega
  · have h1 := (hr.sav.trans hbb1).alloc o1
    refine ⟨hgrow.os.trans h1.os, hgrow.tape.trans h1.tape, hgrow.output.trans h1.output, Nat.le_trans h1.size hgrow.size, fun b hb hn => ?_⟩
    exact (hgrow.block b (by simp; omega) (fun e => by have := hcvlt b e.symm; omega)).trans (h1.block b hb hn)
end Go.Proofs.YtkkfdiidneoelaaGreatDoor
