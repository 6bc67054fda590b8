/-
  infer.solve: what holds while the heads' guesses are made.
  (*guess).endless: a contract.
  slices.ContainsFunc at guesses, and whether one of them is endless: contracts.
-/
import Derived.Test.YtkkfdiidneoelaaGreatDoorGN
import Derived.Test.YtkkfdiidneoelaaGreatDoorGM
namespace Go.Proofs.YtkkfdiidneoelaaGreatDoor
open Go.RowKit

theorem own_ne {w : World} {base : Nat} {e t : TypeId} {size n g : Nat} {v : Value} {xs : List Value} {cs : Array Value} (h : w.ownsRow base e size v n xs) (hg : Blk w g t cs) (hne : e ≠ t) : v.ownBlock ≠ some g := by
  rcases h.2 with ⟨rfl, _⟩ | ⟨g', cap, cur, rfl, _, hh, _⟩
  · simp [Value.ownBlock]
  · intro he
    have : g' = g := by simpa [Value.ownBlock] using he
    subst this
    unfold Blk at hg
    rw [hh] at hg
    injection hg with hg
    injection hg with _ ht
    exact hne ht
theorem Ps.keep' {B : Nat} {w w' : World} {l : List Nat} {v : Value} (h : Ps B w l v) (hk : ∀ b, v.ownBlock = some b → w'.heap[b]? = w.heap[b]?) : Ps B w' l v := owns_kept3 h hk
/-- A loose function, without its name. -/
def Lz.lo (f : Lz) : Lo := (f.params.toNat, f.body)
/-- The heads' guesses, as far as they are made. -/
structure SvAt (w : World) (ls : List Lo) (rs fs ss uf us : List Nat) (vf vs : Value) (G : Gr) (ps : List Nat) (wr : World) : Prop where
  bg : Begun ls rs fs ss G
  gs : Gs wr ps G (fun _ => 0)
  nf : Nodes ps fs uf
  ns : Nodes ps ss us
  pf : Ps (w.heap.size + 1) wr uf vf
  p2 : Ps (w.heap.size + 1) wr us vs
  sep : ∀ b, vf.ownBlock = some b → vs.ownBlock ≠ some b
  box : Blk wr w.heap.size 183 #[.slice none 0 0, vf, vs]
  base : ∀ p ∈ ps, w.heap.size + 1 ≤ p
  bel : Below w.heap.size w wr
theorem SvAt.start (w : World) : SvAt w [] [] [] [] [] [] (.slice none 0 0) (.slice none 0 0) [] [] (w.alloc (.cells #[.slice none 0 0, .slice none 0 0, .slice none 0 0] 183)) :=
  ⟨.nil, ⟨rfl, fun i j p h => by simp at h, fun i p d h => by simp at h⟩, .nil, .nil, Ps.nil _ _, Ps.nil _ _, fun b h => by simp [Value.ownBlock] at h, Blk.new _ _ _, fun p h => by simp at h, (Below.refl _ _).alloc (Nat.le_refl _) _⟩
section
variable {w wr w1 w2 : World} {ls : List Lo} {rs fs ss uf us : List Nat} {vf vs : Value} {G G' : Gr} {ps m : List Nat} {top p n cap gg : Nat} {o o2 : Obj}
/-- What stays behind one more guess, ahead of the store into the box: of the blocks that there were, only that of one slice has turned. -/
theorem SvAt.step (h : SvAt w ls rs fs ss uf us vf vs G ps wr) (hb1 : Below (wr.heap.size + 1) (wr.alloc o).drew w1) (hz1 : wr.heap.size + 1 ≤ w1.heap.size) (hg1 : Gs w1 (ps ++ m) G' (fun _ => 0)) (hm : ∀ b ∈ m, wr.heap.size + 1 ≤ b)
    (v : Value) (xs : List Value) (hv : wr.ownsRow (w.heap.size + 1) 127 1 v n xs) (hgrow : (w1.alloc o2).grownBy w2 v.ownBlock) :
    Gs w2 (ps ++ m) G' (fun _ => 0) ∧ Blk w2 w.heap.size 183 #[.slice none 0 0, vf, vs] ∧ (∀ b ∈ ps ++ m, w.heap.size + 1 ≤ b) ∧ Below w.heap.size w w2 ∧ wr.heap.size + 2 ≤ w2.heap.size ∧
      ∀ b, b < wr.heap.size → v.ownBlock ≠ some b → w2.heap[b]? = wr.heap[b]? := by
  have hzr := h.bel.size
  have hlt := h.box.lt
  have hvl := fun b hb => World.ownsRow.lt hv b hb
  have hq : ∀ b, b < wr.heap.size → v.ownBlock ≠ some b → w2.heap[b]? = wr.heap[b]? := fun b hb hn => by
    have e1 : (w1.alloc o2).heap[b]? = w1.heap[b]? := Below.heap_alloc w1 o2 b (by omega)
    have e2 : w1.heap[b]? = (wr.alloc o).heap[b]? := hb1.block b (by omega)
    have e3 : (wr.alloc o).heap[b]? = wr.heap[b]? := Below.heap_alloc wr o b hb
    exact (((hgrow.block b (by simp; omega) (fun e => hn e.symm)).trans e1).trans e2).trans e3
  refine ⟨?_, ?_, fun b hb => ?_, ?_, ?_, hq⟩
  · refine hg1.keep fun b hb => ?_
    have hbl := hg1.lt hb
    have hne : v.ownBlock ≠ some b := by
      intro e
      have hlo := hvl b e
      rcases List.mem_append.1 hb with hb' | hb'
      · obtain ⟨i, hi, rfl⟩ := List.mem_iff_getElem.1 hb'
        have h1 : ps[i]? = some ps[i] := List.getElem?_eq_getElem hi
        obtain ⟨d, hd⟩ := h.gs.nd h1
        obtain ⟨sm, kd, fr, to_, hk, _⟩ := h.gs.at_ i _ d h1 hd
        exact own_ne hv hk (by decide) e
      · have := hm b hb'; omega
    exact (hgrow.block b (by simp; omega) (fun e => hne e.symm)).trans (Below.heap_alloc w1 o2 b hbl)
  · exact (hq _ hlt (fun e => by have := hvl _ e; omega)).trans h.box
  · rcases List.mem_append.1 hb with hb | hb
    · exact h.base b hb
    · have := hm b hb; omega
  · have b1 : Below w.heap.size w (wr.alloc o).drew := (h.bel.alloc hzr o).drew
    exact ((b1.trans (hb1.mono (by omega))).alloc (by omega) o2).grown hgrow (by simp; omega) (fun b hb => by have := hvl b hb; omega)
  · have h3 : (w1.alloc o2).heap.size ≤ w2.heap.size := hgrow.size
    simp at h3; omega
theorem SvAt.nextS {r : Nat} (h : SvAt w ls rs fs ss uf us vf vs G ps wr) (he : FnExt G G' false r top) (hp : (ps ++ m)[top]? = some p) (hwz : wr.heap.size + 1 ≤ w1.heap.size)
    (hst : Gs w2 (ps ++ m) G' (fun _ => 0) ∧ Blk w2 w.heap.size 183 #[.slice none 0 0, vf, vs] ∧ (∀ b ∈ ps ++ m, w.heap.size + 1 ≤ b) ∧ Below w.heap.size w w2 ∧ wr.heap.size + 2 ≤ w2.heap.size ∧
      ∀ b, b < wr.heap.size → vs.ownBlock ≠ some b → w2.heap[b]? = wr.heap[b]?)
    (hown2 : w2.ownsRow (w.heap.size + 1) 127 1 (.slice (some ⟨gg, 0, none⟩) (us.length + 1) cap) (us.length + 1) (us.map pv ++ [pv p])) (hat : vs.ownBlock = some gg ∨ gg = w1.heap.size + 1) :
    SvAt w ls (rs ++ [r]) fs (ss ++ [top]) uf (us ++ [p]) vf (.slice (some ⟨gg, 0, none⟩) (us.length + 1) cap) G' (ps ++ m) (w2.setCell ⟨w.heap.size, 2, none⟩ (.slice (some ⟨gg, 0, none⟩) (us.length + 1) cap)) := by
  obtain ⟨h1, h2, h3, h4, h5, h6⟩ := hst
  have hfar : ∀ (b : Nat) (u : Value), w.heap.size + 1 ≤ b → (w2.setCell ⟨w.heap.size, 2, none⟩ u).heap[b]? = w2.heap[b]? := fun b u hb => Below.heap_setCell w2 ⟨w.heap.size, 2, none⟩ u b (by show b ≠ w.heap.size; omega)
  have hx : Ps (w.heap.size + 1) w2 (us ++ [p]) (.slice (some ⟨gg, 0, none⟩) (us.length + 1) cap) := by
    unfold Ps
    rw [List.map_append, List.length_append]
    exact hown2
  refine ⟨h.bg.sym he, h1.keep fun b hb => hfar b _ (h3 b hb), h.nf.more m, (h.ns.more m).snoc hp, ?_, hx.keep fun b hb _ => hfar b _ hb, ?_, (h2.set_ 2 _).eq_ (by simp), h3, h4.setCell (by simp) _⟩
  · refine h.pf.keep' fun b hb => ?_
    have hlt := h.pf.lt hb
    exact (hfar b _ hlt.1).trans (h6 b hlt.2 (h.sep b hb))
  · intro b hb
    have e : (Value.slice (some ⟨gg, 0, none⟩) (us.length + 1) cap).ownBlock = some gg := rfl
    rw [e]
    rcases hat with hat | hat
    · rw [← hat]; exact h.sep b hb
    · have := h.pf.lt hb; intro e2; injection e2 with e2; omega
theorem SvAt.nextF {l : Lo} (h : SvAt w ls rs fs ss uf us vf vs G ps wr) (he : FnExt G G' true l.1 top) (hp : (ps ++ m)[top]? = some p) (hwz : wr.heap.size + 1 ≤ w1.heap.size)
    (hst : Gs w2 (ps ++ m) G' (fun _ => 0) ∧ Blk w2 w.heap.size 183 #[.slice none 0 0, vf, vs] ∧ (∀ b ∈ ps ++ m, w.heap.size + 1 ≤ b) ∧ Below w.heap.size w w2 ∧ wr.heap.size + 2 ≤ w2.heap.size ∧
      ∀ b, b < wr.heap.size → vf.ownBlock ≠ some b → w2.heap[b]? = wr.heap[b]?)
    (hown2 : w2.ownsRow (w.heap.size + 1) 127 1 (.slice (some ⟨gg, 0, none⟩) (uf.length + 1) cap) (uf.length + 1) (uf.map pv ++ [pv p])) (hat : vf.ownBlock = some gg ∨ gg = w1.heap.size + 1) :
    SvAt w (ls ++ [l]) rs (fs ++ [top]) ss (uf ++ [p]) us (.slice (some ⟨gg, 0, none⟩) (uf.length + 1) cap) vs G' (ps ++ m) (w2.setCell ⟨w.heap.size, 1, none⟩ (.slice (some ⟨gg, 0, none⟩) (uf.length + 1) cap)) := by
  obtain ⟨h1, h2, h3, h4, h5, h6⟩ := hst
  have hfar : ∀ (b : Nat) (u : Value), w.heap.size + 1 ≤ b → (w2.setCell ⟨w.heap.size, 1, none⟩ u).heap[b]? = w2.heap[b]? := fun b u hb => Below.heap_setCell w2 ⟨w.heap.size, 1, none⟩ u b (by show b ≠ w.heap.size; omega)
  have hx : Ps (w.heap.size + 1) w2 (uf ++ [p]) (.slice (some ⟨gg, 0, none⟩) (uf.length + 1) cap) := by
    unfold Ps
    rw [List.map_append, List.length_append]
    exact hown2
  refine ⟨h.bg.fun_ he, h1.keep fun b hb => hfar b _ (h3 b hb), (h.nf.more m).snoc hp, h.ns.more m, (hx.keep fun b hb _ => hfar b _ hb), ?_, ?_, (h2.set_ 1 _).eq_ (by simp), h3, h4.setCell (by simp) _⟩
  · refine h.p2.keep' fun b hb => ?_
    have hlt := h.p2.lt hb
    exact (hfar b _ hlt.1).trans (h6 b hlt.2 (fun e => h.sep b e hb))
  · intro b hb
    have e : (Value.slice (some ⟨gg, 0, none⟩) (uf.length + 1) cap).ownBlock = some gg := rfl
    rw [e] at hb
    rcases hat with hat | hat
    · exact h.sep b (hat.trans hb)
    · intro e2; have := h.p2.lt e2; injection hb with hb; omega
end
theorem Ps.not_in {B : Nat} {w : World} {us ps : List Nat} {v : Value} {G : Gr} {vis : Nat → Int} (h : Ps B w us v) (hg : Gs w ps G vis) : ∀ b, v.ownBlock = some b → b ∉ ps := by
  intro b hb hm
  obtain ⟨i, hi, rfl⟩ := List.mem_iff_getElem.1 hm
  have h1 : ps[i]? = some ps[i] := List.getElem?_eq_getElem hi
  obtain ⟨d, hd⟩ := hg.nd h1
  obtain ⟨sm, kd, fr, to_, hk, _⟩ := hg.at_ i _ d h1 hd
  exact own_ne h hk (by decide) hb
theorem Ps.saves_ {B : Nat} {w w' : World} {us ps : List Nat} {v : Value} {G : Gr} {vis : Nat → Int} (h : Ps B w us v) (hg : Gs w ps G vis) (hs : Saves (· ∈ ps) w w') : Ps B w' us v :=
  h.keep' fun b hb => hs.block b (h.lt hb).2 (h.not_in hg b hb)
theorem Ps.prd_ {B : Nat} {w : World} {us ps : List Nat} {v : Value} {G : Gr} {vis : Nat → Int} (h : Ps B w us v) (hg : Gs w ps G vis) : PRd w (fun b => b < w.heap.size ∧ b ∉ ps) us v := by
  obtain ⟨A, c, rfl⟩ := h.form
  refine ⟨A, c, rfl, fun i p hi => ?_⟩
  obtain ⟨ad, rfl, h1, h2, h3⟩ := h.cell hi
  rcases h.2 with ⟨e, _⟩ | ⟨g, cap, cur, e, _⟩
  · cases e
  · injection e with e _ _
    injection e with e
    subst e
    exact ⟨_, rfl, ⟨h2, h.not_in hg _ rfl⟩, h3⟩
/-- So many bodies are done. -/
structure Sv3 (w : World) (ls : List Lo) (fs ss uf us : List Nat) (vf vs : Value) (G0 : Gr) (k : Nat) (G : Gr) (ps : List Nat) (wr : World) : Prop where
  go : Going ls fs ss G0 k G
  gs : Gs wr ps G (fun _ => 0)
  nf : Nodes ps fs uf
  ns : Nodes ps ss us
  pf : Ps (w.heap.size + 1) wr uf vf
  p2 : Ps (w.heap.size + 1) wr us vs
  box : ∃ A n c, Blk wr w.heap.size 183 #[.slice A n c, vf, vs]
  base : ∀ p ∈ ps, w.heap.size + 1 ≤ p
  bel : Below w.heap.size w wr
theorem SvAt.three {w wr : World} {ls : List Lo} {rs fs ss uf us : List Nat} {vf vs : Value} {G : Gr} {ps : List Nat} (h : SvAt w ls rs fs ss uf us vf vs G ps wr) : Sv3 w ls fs ss uf us vf vs G 0 G ps wr :=
  ⟨.start h.bg.good, h.gs, h.nf, h.ns, h.pf, h.p2, ⟨_, _, _, h.box⟩, h.base, h.bel⟩
theorem fin_list {v : Nat → D} : ∀ {fs : List Nat}, (∀ f ∈ fs, (v f).fin) → ∃ a : List S, a.length = fs.length ∧ ∀ (j f : Nat) (s : S), fs[j]? = some f → a[j]? = some s → v f = s.emb
  | [], _ => ⟨[], rfl, fun j f s h => by simp at h⟩
  | f :: r, h => by
    obtain ⟨s, hs⟩ := h f (by simp)
    obtain ⟨a, h1, h2⟩ := fin_list (fs := r) (fun g hg => h g (by simp [hg]))
    refine ⟨s :: a, by simp [h1], fun j g t hg ht => ?_⟩
    cases j with
    | zero => simp at hg ht; subst hg ht; exact hs
    | succ j => exact h2 j g t (by simpa using hg) (by simpa using ht)
/-- A new node that is o. -/
theorem tree_on {G : Gr} (hG : Good G) (v : Nat → D) (hv : Sol G v) : ∃ v', On G (G ++ [.tree]) v v' := ⟨_, On.one hG (d := .tree) hv D.o (if_pos rfl) (fun _ => D.fin_o)⟩
theorem tree_back {G : Gr} (v : Nat → D) (hv : Sol (G ++ [.tree]) v) : Sol G v ∧ v G.length = D.o := Sol.more.1 hv
end Go.Proofs.YtkkfdiidneoelaaGreatDoor

namespace Go.Proofs.YtkkfdiidneoelaaGreatDoor
open Go.RowKit

/-- A search's marks: what is behind ends, what is inside has x's tree as a part. -/
structure Marks (G : Gr) (v : Nat → D) (vis : Nat → Int) (x : Nat) : Prop where
  behind : ∀ y : Nat, y < G.length → vis y = 2 → (v y).fin
  inside : ∀ y : Nat, y < G.length → vis y = 1 → ∀ u, Sol G u → D.Part (u x) (u y)
  three : ∀ y : Nat, y < G.length → vis y = 0 ∨ vis y = 1 ∨ vis y = 2
/-- The nodes that are ahead. -/
def aheads (G : Gr) (vis : Nat → Int) : Nat := (List.range G.length).countP fun y => decide (vis y = 0)
theorem countP_lt {p q : Nat → Bool} {l : List Nat} {x : Nat} (hx : x ∈ l) (hpq : ∀ y ∈ l, q y = true → p y = true) (h1 : p x = true) (h2 : q x = false) : l.countP q < l.countP p := by
  induction l with
  | nil => simp at hx
  | cons a r ih =>
    have hle : r.countP q ≤ r.countP p := by
      clear ih hx
      induction r with
      | nil => simp
      | cons b s ihs =>
        have := ihs (fun y hy => hpq y (by simp at hy ⊢; rcases hy with h | h <;> simp [h]))
        have hb := hpq b (by simp)
        simp only [List.countP_cons]
        cases hqb : q b with
        | false => simp; omega
        | true => rw [hb hqb]; simp; omega
    simp only [List.countP_cons]
    rcases List.mem_cons.1 hx with rfl | hx
    · rw [h1, h2]; simp; omega
    · have := ih hx (fun y hy => hpq y (by simp [hy]))
      have ha := hpq a (by simp)
      cases hqa : q a with
      | false => simp; omega
      | true => rw [ha hqa]; simp; omega
theorem aheads_lt {G : Gr} {vis : Nat → Int} {x : Nat} (hx : x < G.length) (h : vis x = 0) {z : Int} (hz : z ≠ 0) : aheads G (visAt vis x z) < aheads G vis := by
  refine countP_lt (x := x) (by simpa using hx) (fun y _ hy => ?_) (by simpa using h) (by simp [visAt, hz])
  by_cases hyx : y = x
  · subst hyx
    simp [visAt] at hy
    exact absurd hy hz
  · simpa [visAt, hyx] using hy
theorem aheads_le {G : Gr} {vis vis' : Nat → Int} (h : ∀ y, vis' y = 0 → vis y = 0) : aheads G vis' ≤ aheads G vis := by
  unfold aheads
  refine List.countP_mono_left fun y _ hy => ?_
  simp only [decide_eq_true_eq] at hy ⊢
  exact h y hy
/-- What endless answers. -/
def EndPost (ps : List Nat) (G : Gr) (v : Nat → D) (vis : Nat → Int) (x : Nat) (w : World) (e : Ending) (w' : World) : Prop :=
  ∃ (ok : Bool) (G' : Gr) (vis' : Nat → Int), e = .returned (.bool ok) ∧ Alike G G' ∧ Gs w' ps G' vis' ∧ Saves (· ∈ ps) w w' ∧
    (ok = true → ∀ u, Sol G u → ¬ (u x).fin) ∧
    (ok = false → (v x).fin ∧ (∀ y, y < G.length → vis' y = 2 → (v y).fin) ∧ (∀ y, vis' y = 1 ↔ vis y = 1) ∧ (∀ y, y < G.length → vis' y = 0 ∨ vis' y = 1 ∨ vis' y = 2) ∧ ∀ y, vis' y = 0 → vis y = 0)
theorem aheads_len {G G' : Gr} (h : G'.length = G.length) (vis : Nat → Int) : aheads G' vis = aheads G vis := by unfold aheads; rw [h]
theorem Marks.alike {G G' : Gr} {v : Nat → D} {vis : Nat → Int} {x : Nat} (h : Marks G v vis x) (ha : Alike G G') : Marks G' v vis x := by
  have hl := ha.len
  exact ⟨fun y hy => h.behind y (by omega), fun y hy h1 u hu => h.inside y (by omega) h1 u ((ha.sol u).1 hu), fun y hy => h.three y (by omega)⟩
/-- The marks for a part of a node that is inside. -/
theorem Marks.part {G : Gr} {v : Nat → D} {vis vis1 vis2 : Nat → Int} {x r a : Nat} (h : Marks G v vis x) (hx : ∀ u, Sol G u → u x = u r) (hp : ∀ u, Sol G u → D.Part (u a) (u r))
    (h1 : ∀ y, vis2 y = 1 ↔ vis1 y = 1) (h2 : ∀ y, y < G.length → vis2 y = 2 → (v y).fin) (h3 : ∀ y, y < G.length → vis2 y = 0 ∨ vis2 y = 1 ∨ vis2 y = 2) (he : vis1 = visAt vis r 1) : Marks G v vis2 a := by
  refine ⟨h2, fun y hy hz u hu => ?_, h3⟩
  have hz1 := (h1 y).1 hz
  subst he
  by_cases hyr : y = r
  · subst hyr; exact hp u hu
  · have : vis y = 1 := by simpa [visAt, hyr] using hz1
    have h4 := h.inside y hy this u hu
    rw [hx u hu] at h4
    exact (hp u hu).trans h4

/-- A call of endless, with so many nodes ahead. -/
def EndCall (m : Nat) : Prop := ∀ (ps : List Nat) (G : Gr) (v : Nat → D) (vis : Nat → Int) (x p : Nat) (w : World), aheads G vis < m → Good G → Can G v → Gs w ps G vis → ps[x]? = some p → Marks G v vis x →
    Calls Tryz.prog 118 #[pv p] w (EndPost ps G v vis x w)
set_option maxRecDepth 100000 in
set_option maxHeartbeats 1600000 in
theorem endless_step (m : Nat) (ih : EndCall m) : EndCall (m + 1) := by
  intro ps G v vis x p w hm hG hv hgs hx hmk
  have hxl : x < G.length := by have := hgs.len; have := (List.getElem?_eq_some_iff.1 hx).1; omega
  obtain ⟨r, k, he⟩ := hG.ends x hxl
  have HC := Lib.hid (last_any ps G vis x p r k w hG hgs hx he)
  have HE := Lib.hid he
  have HV := Lib.hid hv
  have HM := Lib.hid hm
  have HMK := Lib.hid hmk
  have HIH := Lib.hid ih
  have HX : Hid (∀ u, Sol G u → u x = u r) := Lib.hid fun u hu => hu.ends he
  clear hm hG hv hgs hx hmk he ih
  go_enter Tryz.func118, Tryz.ntmps118
  go_wp2_with fail
  refine HC.out.mono ?_
  rintro e w1 ⟨G1, p1, hp1, rfl, ha1, hg1, ht1⟩
  obtain ⟨d, hd0, hdr⟩ := HE.out.at_
  have hd := ha1.stays r d hd0 hdr
  have hrl : r < G.length := HE.out.lt.2
  obtain ⟨sm, kd, fr, to_, hb, hl⟩ := hg1.at_ _ _ _ hp1 hd
  have c1 := hb.cell 1
  have c2 := hb.cell 2
  have c4 := hb.cell 4
  have f4 := hb.frozen 4
  simp only [gcells, List.getElem?_toArray, List.getElem?_cons_zero, List.getElem?_cons_succ] at c1 c2 c4
  have HP1 := Lib.hid hp1
  have HA1 := Lib.hid ha1
  have HG1 := Lib.hid hg1
  have HT1 := Lib.hid ht1
  have HD0 := Lib.hid hd0
  clear hp1 ha1 hg1 ht1 hd0 hd
  by_cases harr : ∃ a b, d = .arrow a b
  · obtain ⟨a, b, rfl⟩ := harr
    obtain ⟨rfl, rfl, ⟨pa, hpa, rfl⟩, pb, hpb, rfl⟩ := hl
    have HS : Hid (∀ u, Sol G u → u r = D.arr (u a) (u b)) := Lib.hid fun u hu => hu r (.arrow a b) HD0.out
    rcases HMK.out.three r hrl with h0 | h1 | h2
    · have hvis1 : aheads G1 (visAt vis r 1) < m := by
        rw [aheads_len HA1.out.len]
        have := aheads_lt hrl h0 (z := 1) (by decide)
        have := HM.out
        omega
      have hg2 := HG1.out.mark HP1.out 1
      have hal : a < G.length := by have := HG1.out.len; have := (List.getElem?_eq_some_iff.1 hpa).1; have := HA1.out.len; omega
      have hM1 : Marks G v (visAt vis r 1) a := HMK.out.part (vis := vis) (r := r) HX.out (fun u hu => by rw [HS.out u hu]; exact .left _ _) (fun _ => Iff.rfl)
        (fun y hy hz => by
          by_cases hyr : y = r
          · subst hyr; simp [visAt] at hz
          · exact HMK.out.behind y hy (by simpa [visAt, hyr] using hz))
        (fun y hy => by
          by_cases hyr : y = r
          · subst hyr; simp [visAt]
          · simpa [visAt, hyr] using HMK.out.three y hy) rfl
      have hca := HIH.out ps G1 v (visAt vis r 1) a pa _ hvis1 HA1.out.good (HV.out.alike HA1.out) hg2 hpa (hM1.alike HA1.out)
      have HCA := Lib.hid hca
      have HPA := Lib.hid hpa
      have HPB := Lib.hid hpb
      have HPM : Hid (p1 ∈ ps) := Lib.hid (List.mem_of_getElem? HP1.out)
      have H0 := Lib.hid h0
      have HVL := Lib.hid hvis1
      rw [h0] at c4
      clear hpa hpb h0 hvis1 hg2 hal hM1 hca
      go_wp2_with fail
      refine HCA.out.mono ?_
      rintro e w3 ⟨ok, G3, vis2, rfl, ha3, hg3, hs3, hyes, hno⟩
      cases ok with
      | true =>
        have HF : Hid (EndPost ps G v vis x w (.returned (.bool true)) w3) := by
          refine Lib.hid ⟨true, G3, vis2, rfl, HA1.out.trans ha3, hg3, (HT1.out.sav.setCell (.inl HPM.out) _).trans hs3, fun _ u hu => ?_, fun h => by cases h⟩
          rw [HX.out u hu, HS.out u hu]
          exact fun h => hyes rfl u ((HA1.out.sol u).2 hu) (D.fin_parts h).1
        clear ha3 hg3 hs3 hyes hno
        go_wp2_with fail
        go_ret
        exact HF.out
      | false =>
        obtain ⟨hfa, hf2, h12, h3, h02⟩ := hno rfl
        have hlen := HA1.out.len
        have hlen3 := ha3.len
        have hd3 := ha3.stays r _ (HA1.out.stays r _ HD0.out rfl) rfl
        obtain ⟨sm3, kd3, fr3, to3, hb3, hl3⟩ := hg3.at_ _ _ _ HP1.out hd3
        obtain ⟨rfl, rfl, ⟨pa', hpa', rfl⟩, pb', hpb', rfl⟩ := hl3
        obtain rfl : pb = pb' := by have := HPB.out.symm.trans hpb'; injection this
        have c33 := hb3.cell 3
        simp only [gcells, List.getElem?_toArray, List.getElem?_cons_zero, List.getElem?_cons_succ] at c33
        have hM2 : Marks G v vis2 b := HMK.out.part (vis := vis) (r := r) HX.out (fun u hu => by rw [HS.out u hu]; exact .right _ _) h12 (fun y hy => hf2 y (by omega)) (fun y hy => h3 y (by omega)) rfl
        have hv2 : aheads G3 vis2 < m := by
          rw [aheads_len hlen3]
          have := aheads_le (G := G1) h02
          have := HVL.out
          omega
        have hcb := HIH.out ps G3 v vis2 b pb w3 hv2 ha3.good ((HV.out.alike HA1.out).alike ha3) hg3 hpb' (hM2.alike (HA1.out.trans ha3))
        have HCB := Lib.hid hcb
        have HA3 := Lib.hid (HA1.out.trans ha3)
        have HS3 := Lib.hid ((HT1.out.sav.setCell (p := ⟨p1, 4, none⟩) (.inl HPM.out) (.int .i64 1)).trans hs3)
        have H2 : Hid ((v a).fin ∧ (∀ y, vis2 y = 1 ↔ visAt vis r 1 y = 1) ∧ (∀ y, vis2 y = 0 → visAt vis r 1 y = 0)) := Lib.hid ⟨hfa, h12, h02⟩
        clear hcb hv2 hM2 hfa hf2 h12 h3 h02 hyes hno ha3 hg3 hs3 hd3 hb3 hpa' hpb' c1 c2 c4 f4
        go_wp2_with fail
        refine HCB.out.mono ?_
        rintro e w4 ⟨ok2, G4, vis3, rfl, ha4, hg4, hs4, hyes, hno⟩
        cases ok2 with
        | true =>
          have HF : Hid (EndPost ps G v vis x w (.returned (.bool true)) w4) := by
            refine Lib.hid ⟨true, G4, vis3, rfl, HA3.out.trans ha4, hg4, HS3.out.trans hs4, fun _ u hu => ?_, fun h => by cases h⟩
            rw [HX.out u hu, HS.out u hu]
            exact fun h => hyes rfl u ((HA3.out.sol u).2 hu) (D.fin_parts h).2
          clear ha4 hg4 hs4 hyes hno
          go_wp2_with fail
          go_ret
          exact HF.out
        | false =>
          obtain ⟨hfb, hf3, h13, h33, h03⟩ := hno rfl
          have hd4 := ha4.stays r _ (HA3.out.stays r _ HD0.out rfl) rfl
          obtain ⟨sm4, kd4, fr4, to4, hb4, _⟩ := hg4.at_ _ _ _ HP1.out hd4
          have c44 := hb4.cell 4
          have f44 := hb4.frozen 4
          simp only [gcells, List.getElem?_toArray, List.getElem?_cons_zero, List.getElem?_cons_succ] at c44
          have HF : Hid (EndPost ps G v vis x w (.returned (.bool false)) (w4.setCell ⟨p1, 4, none⟩ (.int .i64 2))) := by
            obtain ⟨hfa, h12, h02⟩ := H2.out
            have hl4 := (HA3.out.trans ha4).len
            have hrv : (v r).fin := by rw [HS.out v HV.out.sol]; exact D.fin_arr hfa hfb
            refine Lib.hid ⟨false, G4, visAt vis3 r 2, rfl, HA3.out.trans ha4, hg4.mark HP1.out 2, (HS3.out.trans hs4).setCell (.inl HPM.out) _, (fun h => by cases h), fun _ => ⟨?_, fun y hy hz => ?_, fun y => ?_, fun y hy => ?_, fun y hz => ?_⟩⟩
            · rw [HX.out v HV.out.sol]; exact hrv
            · by_cases hyr : y = r
              · subst hyr; exact hrv
              · exact hf3 y (by have := HA3.out.len; omega) (by simpa [visAt, hyr] using hz)
            · by_cases hyr : y = r
              · subst hyr; simp [visAt, H0.out]
              · have e1 : visAt vis3 r 2 y = vis3 y := by simp [visAt, hyr]
                have e2 : visAt vis r 1 y = vis y := by simp [visAt, hyr]
                rw [e1, h13 y, h12 y, e2]
            · by_cases hyr : y = r
              · subst hyr; simp [visAt]
              · simpa [visAt, hyr] using h33 y (by have := HA3.out.len; omega)
            · by_cases hyr : y = r
              · subst hyr; simp [visAt] at hz
              · have e1 : visAt vis3 r 2 y = vis3 y := by simp [visAt, hyr]
                have e2 : visAt vis r 1 y = vis y := by simp [visAt, hyr]
                rw [e1] at hz
                rw [← e2]
                exact h02 y (h03 y hz)
          clear ha4 hg4 hs4 hyes hno hfb hf3 h13 h33 h03 hd4 hb4
          go_wp2_with fail
          go_ret
          exact HF.out
    · have HF : Hid (EndPost ps G v vis x w (.returned (.bool true)) w1) := by
        refine Lib.hid ⟨true, G1, vis, rfl, HA1.out, HG1.out, HT1.out.sav, fun _ u hu => ?_, fun h => by cases h⟩
        have h3 := HMK.out.inside r hrl h1 u hu
        rw [HX.out u hu] at h3 ⊢
        exact h3.inf
      rw [h1] at c4
      clear hpa hpb hb h1
      go_wp2_with fail
      go_ret
      exact HF.out
    · have HF : Hid (EndPost ps G v vis x w (.returned (.bool false)) w1) := by
        refine Lib.hid ⟨false, G1, vis, rfl, HA1.out, HG1.out, HT1.out.sav, (fun h => by cases h), fun _ => ⟨?_, HMK.out.behind, fun _ => Iff.rfl, HMK.out.three, fun _ h => h⟩⟩
        rw [HX.out v HV.out.sol]
        exact HMK.out.behind r hrl h2
      rw [h2] at c4
      clear hpa hpb hb h2
      go_wp2_with fail
      go_ret
      exact HF.out
  · have hk : ¬ kd = 2 ∧ v r = D.o := by
      cases d with
      | open_ => exact ⟨by rw [hl.2]; decide, HV.out.open_ r HD0.out⟩
      | tree => exact ⟨by rw [hl.2]; decide, HV.out.sol r .tree HD0.out⟩
      | arrow a b => exact (harr ⟨a, b, rfl⟩).elim
      | link z => cases hdr
    obtain ⟨hk, ho⟩ := hk
    have HF : Hid (EndPost ps G v vis x w (.returned (.bool false)) w1) := by
      refine Lib.hid ⟨false, G1, vis, rfl, HA1.out, HG1.out, HT1.out.sav, (fun h => by cases h), fun _ => ⟨?_, HMK.out.behind, fun _ => Iff.rfl, HMK.out.three, fun _ h => h⟩⟩
      rw [HX.out v HV.out.sol, ho]
      exact D.fin_o
    clear ho harr hdr hl hb
    go_wp2_with fail
    go_ret
    exact HF.out
theorem endless_all (m : Nat) : EndCall m := by
  induction m with
  | zero => intro ps G v vis x p w hm; omega
  | succ m ih => exact endless_step m ih
end Go.Proofs.YtkkfdiidneoelaaGreatDoor

namespace Go.Proofs.YtkkfdiidneoelaaGreatDoor
open Go.RowKit

/-- So many guesses end. -/
def IxAt (ps : List Nat) (G : Gr) (v : Nat → D) (fs : List Nat) (w : World) (i : Value) (wr : World) : Prop :=
  ∃ (k : Nat) (G' : Gr) (vis : Nat → Int), k ≤ fs.length ∧ i = .int .i64 (k : Int) ∧ Alike G G' ∧ Gs wr ps G' vis ∧ Saves (· ∈ ps) w wr ∧ (∀ y, y < G.length → vis y = 2 → (v y).fin) ∧ (∀ y, vis y ≠ 1) ∧ (∀ y, y < G.length → vis y = 0 ∨ vis y = 1 ∨ vis y = 2) ∧
    ∀ (j f : Nat), j < k → fs[j]? = some f → (v f).fin
/-- Whether one of them is endless. -/
def IxPost (ps : List Nat) (G : Gr) (v : Nat → D) (fs : List Nat) (w : World) (ok : Bool) (w' : World) : Prop :=
  ∃ (G' : Gr) (vis : Nat → Int), Alike G G' ∧ Gs w' ps G' vis ∧ Saves (· ∈ ps) w w' ∧
    (ok = true → ∃ x, x < G.length ∧ ∀ u, Sol G u → ¬ (u x).fin) ∧ (ok = false → ∀ f ∈ fs, (v f).fin)

set_option maxRecDepth 100000 in
set_option maxHeartbeats 1600000 in
theorem index_any (ps : List Nat) (G : Gr) (v : Nat → D) (fs us : List Nat) (B : Nat) (val : Value) (w : World) (hG : Good G) (hv : Can G v) (hgs : Gs w ps G (fun _ => 0)) (hn : Nodes ps fs us) (hp : Ps B w us val) (hnp : ∀ b, val.ownBlock = some b → b ∉ ps) :
    Calls Tryz.prog 154 #[val, .func (.func 118) #[] #[]] w fun e w' => ∃ (ok : Bool) (i : Int), e = .returned (.int .i64 i) ∧ (ok = true ↔ 0 ≤ i) ∧ IxPost ps G v fs w ok w' := by
  have hcall := Tryz.call118
  obtain ⟨A, c, rfl⟩ := hp.form
  have HG := Lib.hid hG
  have HV := Lib.hid hv
  have HN := Lib.hid hn
  have HP := Lib.hid hp
  have HNP := Lib.hid hnp
  have hlen : fs.length = us.length := hn.1.symm
  have HL := Lib.hid hlen
  have H0 : Hid (IxAt ps G v fs w (.int .i64 0) w) := Lib.hid ⟨0, G, fun _ => 0, Nat.zero_le _, rfl, .refl hG, hgs, Saves.refl _ _, fun y _ h => by simp at h, fun y => by simp, fun y _ => .inl rfl, fun j f h => absurd h (by omega)⟩
  have hul : us.length ≤ 9223372036854775807 := by
    rcases hp.2 with ⟨_, h0⟩ | ⟨g, cap, cur, _, _, _, h1, h2, _⟩
    · omega
    · simp only [maxLen] at h2; omega
  clear hG hv hgs hn hp hnp hlen
  go_enter Tryz.func154, Tryz.ntmps154
  go_wp2_with fail
  go_loopw [8] (fun i wr => IxAt ps G v fs w i wr) (fun i _ => us.length - (intOf i).toNat)
  case atStart => exact H0.out
  case round =>
    obtain ⟨k, G1, vis, hk, rfl, ha, hg, hs, hf2, hn1, h3, hfin⟩ := hrel
    by_cases hlt : k < us.length
    · obtain ⟨f, hf⟩ : ∃ f, fs[k]? = some f := ⟨fs[k]'(by have := HL.out; omega), List.getElem?_eq_getElem _⟩
      obtain ⟨p, hu, hpx⟩ := HN.out.2 k _ hf
      obtain ⟨ad, rfl, hB, hbl, hcl⟩ := HP.out.cell hu
      have hcl2 : wr.cell? (ad.add k) = some (pv p) := (World.cell?_of_block (by rw [block_of_add]; exact hs.block _ hbl (HNP.out _ (by
        rcases HP.out.2 with ⟨h1, _⟩ | ⟨g, cap, cur, h1, _⟩
        · cases h1
        · injection h1 with h1 _ _
          injection h1 with h1
          subst h1
          rfl)))).trans hcl
      have hmk : Marks G v vis f := ⟨hf2, fun y _ hz => absurd hz (hn1 y), h3⟩
      have hce := endless_all (aheads G1 vis + 1) ps G1 v vis _ p wr (by omega) ha.good (HV.out.alike ha) hg hpx (hmk.alike ha)
      have HCE := Lib.hid hce
      have HS : Hid (Alike G G1 ∧ Saves (· ∈ ps) w wr ∧ (∀ (j f : Nat), j < k → fs[j]? = some f → (v f).fin) ∧ (∀ y, vis y ≠ 1) ∧ fs[k]? = some f ∧ f < G.length) := Lib.hid ⟨ha, hs, hfin, hn1, hf, by
        have := ha.len
        have := hg.len
        have := (List.getElem?_eq_some_iff.1 hpx).1
        omega⟩
      have hk0 : (0 : Int) ≤ (k : Int) := by omega
      have hkl : (k : Int) < (us.length : Int) := by omega
      clear hf hu hpx hbl hcl hmk hce ha hg hs hf2 hn1 h3 hfin
      go_wp2_with fail
      refine HCE.out.mono ?_
      rintro e w2 ⟨ok, G2, vis2, rfl, ha2, hg2, hs2, hyes, hno⟩
      cases ok with
      | true =>
        have HF : Hid (∃ (ok : Bool) (i : Int), Ending.returned (.int .i64 (k : Int)) = .returned (.int .i64 i) ∧ (ok = true ↔ 0 ≤ i) ∧ IxPost ps G v fs w ok w2) := by
          obtain ⟨e1, e2, e3, e4, e5, e6⟩ := HS.out
          exact Lib.hid ⟨true, k, rfl, by simp, G2, vis2, e1.trans ha2, hg2, e2.trans hs2, fun _ => ⟨f, e6, fun u hu => hyes rfl u ((e1.sol u).2 hu)⟩, fun h => by cases h⟩
        clear ha2 hg2 hs2 hyes hno
        go_wp2_with fail
        go_ret
        exact HF.out
      | false =>
        have HF : Hid (IxAt ps G v fs w (.int .i64 ((k + 1 : Nat) : Int)) w2) := by
          obtain ⟨e1, e2, e3, e4, e5, e6⟩ := HS.out
          obtain ⟨h1, h2, h12, h33, h0⟩ := hno rfl
          have hl := e1.len
          refine Lib.hid ⟨k + 1, G2, vis2, by have := HL.out; omega, rfl, e1.trans ha2, hg2, e2.trans hs2, fun y hy => h2 y (by omega), fun y hz => e4 y ((h12 y).1 hz), fun y hy => h33 y (by omega), fun j g hj hg' => ?_⟩
          rcases Nat.lt_or_ge j k with hlt' | hge
          · exact e3 j g hlt' hg'
          · obtain rfl : j = k := by omega
            rw [e5] at hg'
            cases hg'
            exact h1
        clear ha2 hg2 hs2 hyes hno
        go_wp2_with fail
        go_roundw
        case rel => simpa using HF.out
        case measure => simp [intOf]; omega
    · have HF : Hid (∃ (ok : Bool) (i : Int), Ending.returned (.int .i64 (-1)) = .returned (.int .i64 i) ∧ (ok = true ↔ 0 ≤ i) ∧ IxPost ps G v fs w ok wr) := by
        refine Lib.hid ⟨false, -1, rfl, by simp, G1, vis, ha, hg, hs, (fun h => by cases h), fun _ f hf => ?_⟩
        obtain ⟨j, hj, rfl⟩ := List.mem_iff_getElem.1 hf
        exact hfin j _ (by have := HL.out; omega) (List.getElem?_eq_getElem hj)
      clear ha hg hs hf2 hn1 h3 hfin
      go_wp2_with fail
      go_ret
      exact HF.out
set_option maxHeartbeats 800000 in
theorem contains_any (ps : List Nat) (G : Gr) (v : Nat → D) (fs us : List Nat) (B : Nat) (val : Value) (w : World) (hG : Good G) (hv : Can G v) (hgs : Gs w ps G (fun _ => 0)) (hn : Nodes ps fs us) (hp : Ps B w us val) (hnp : ∀ b, val.ownBlock = some b → b ∉ ps) :
    Calls Tryz.prog 117 #[val, .func (.func 118) #[] #[]] w fun e w' => ∃ ok : Bool, e = .returned (.bool ok) ∧ IxPost ps G v fs w ok w' := by
  have HC := Lib.hid (index_any ps G v fs us B val w hG hv hgs hn hp hnp)
  obtain ⟨A, c, rfl⟩ := hp.form
  clear hG hv hgs hn hp hnp
  go_enter Tryz.func117, Tryz.ntmps117
  go_wp2_with fail
  refine HC.out.mono ?_
  rintro e w1 ⟨ok, i, rfl, hi, hpst⟩
  have HP := Lib.hid hpst
  have HI : Hid (decide (0 ≤ i) = ok) := Lib.hid (by cases ok <;> simp at hi ⊢ <;> omega)
  clear hpst hi
  go_wp2_with fail
  go_ret
  exact ⟨ok, ret_bool HI.out, HP.out⟩
end Go.Proofs.YtkkfdiidneoelaaGreatDoor
