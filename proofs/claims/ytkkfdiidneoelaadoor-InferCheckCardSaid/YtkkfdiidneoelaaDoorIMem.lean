/-
  Guesses of sorts in memory: a graph whose nodes are blocks.
-/
import Derived.Test.YtkkfdiidneoelaaDoorISolve
import Derived.Deep.LoopGhost
namespace Go.Proofs.YtkkfdiidneoelaaDoor
open Go.RowKit

/-- The address of a guess. -/
abbrev at0 (p : Nat) : Addr := ⟨p, 0, none⟩
/-- What the cells of a node hold. -/
def Nd.lies (ps : List Nat) : Nd → Option Addr → Int → Option Addr → Option Addr → Prop
  | .open_, sm, kd, _, _ => sm = none ∧ kd = 0
  | .tree, sm, kd, _, _ => sm = none ∧ kd = 1
  | .arrow a b, sm, kd, fr, to_ => sm = none ∧ kd = 2 ∧ (∃ p, ps[a]? = some p ∧ fr = some (at0 p)) ∧ ∃ q, ps[b]? = some q ∧ to_ = some (at0 q)
  | .link y, sm, _, _, _ => ∃ q, ps[y]? = some q ∧ sm = some (at0 q)
abbrev gcells (sm : Option Addr) (kd : Int) (fr to_ : Option Addr) (z : Int) : Array Value := #[.pointer sm, .int .i64 kd, .pointer fr, .pointer to_, .int .i64 z]
/-- The graph lies in the blocks ps; vis: how far a search has come. -/
structure Gs (w : World) (ps : List Nat) (G : Gr) (vis : Nat → Int) : Prop where
  len : ps.length = G.length
  inj : ∀ (i j p : Nat), ps[i]? = some p → ps[j]? = some p → i = j
  at_ : ∀ (i p : Nat) (d : Nd), ps[i]? = some p → G[i]? = some d → ∃ sm kd fr to_, Blk w p 116 (gcells sm kd fr to_ (vis i)) ∧ d.lies ps sm kd fr to_
section
variable {w w' : World} {ps : List Nat} {G : Gr} {vis : Nat → Int}
theorem Gs.ptr (h : Gs w ps G vis) {x : Nat} (hx : x < G.length) : ∃ p, ps[x]? = some p := by
  have : x < ps.length := by have := h.len; omega
  exact ⟨ps[x], List.getElem?_eq_getElem this⟩
theorem Gs.nd (h : Gs w ps G vis) {x p : Nat} (hx : ps[x]? = some p) : ∃ d, G[x]? = some d := by
  have : x < G.length := by have := h.len; have := (List.getElem?_eq_some_iff.1 hx).1; omega
  exact ⟨G[x], List.getElem?_eq_getElem this⟩
theorem Gs.lt (h : Gs w ps G vis) {p : Nat} (hp : p ∈ ps) : p < w.heap.size := by
  obtain ⟨i, hi, rfl⟩ := List.mem_iff_getElem.1 hp
  have h1 : ps[i]? = some ps[i] := List.getElem?_eq_getElem hi
  obtain ⟨d, hd⟩ := h.nd h1
  obtain ⟨sm, kd, fr, to_, hb, _⟩ := h.at_ i _ d h1 hd
  exact hb.lt
theorem Gs.keep (h : Gs w ps G vis) (hb : ∀ b ∈ ps, w'.heap[b]? = w.heap[b]?) : Gs w' ps G vis := by
  refine ⟨h.len, h.inj, fun i p d hp hd => ?_⟩
  obtain ⟨sm, kd, fr, to_, hk, hl⟩ := h.at_ i p d hp hd
  exact ⟨sm, kd, fr, to_, (hb p (List.mem_of_getElem? hp)).trans hk, hl⟩
theorem Gs.below (h : Gs w ps G vis) (hb : Below w.heap.size w w') : Gs w' ps G vis := h.keep fun b hb' => hb.block b (h.lt hb')
theorem Gs.saves {M : Nat → Prop} (h : Gs w ps G vis) (hs : Saves M w w') (hM : ∀ b ∈ ps, ¬ M b) : Gs w' ps G vis := h.keep fun b hb' => hs.block b (h.lt hb') (hM b hb')
theorem Gs.alloc (h : Gs w ps G vis) (o : Obj) : Gs (w.alloc o) ps G vis := h.below ((Below.refl _ _).alloc (Nat.le_refl _) o)
theorem Gs.drew (h : Gs w ps G vis) : Gs w.drew ps G vis := h.keep fun _ _ => rfl
theorem Gs.drewN (h : Gs w ps G vis) (n : Nat) : Gs (w.drewN n) ps G vis := h.keep fun _ _ => rfl
/-- A node becomes the same as another one. -/
theorem Gs.link (h : Gs w ps G vis) {x y p q : Nat} (hx : ps[x]? = some p) (hy : ps[y]? = some q) : Gs (w.setCell (at0 p) (.pointer (some (at0 q)))) ps (G.set x (.link y)) vis := by
  refine ⟨by simp [h.len], h.inj, fun i r d hr hd => ?_⟩
  by_cases hi : x = i
  · subst hi
    rw [hx] at hr
    cases hr
    obtain ⟨d0, hd0⟩ := h.nd hx
    rw [get_set_eq hd0] at hd
    cases hd
    obtain ⟨sm, kd, fr, to_, hb, _⟩ := h.at_ x p d0 hx hd0
    exact ⟨_, kd, fr, to_, (hb.set_ 0 _).eq_ (by simp [gcells]), q, hy, rfl⟩
  · rw [get_set_ne hi] at hd
    obtain ⟨sm, kd, fr, to_, hb, hl⟩ := h.at_ i r d hr hd
    exact ⟨sm, kd, fr, to_, hb.far (by rintro rfl; exact hi (h.inj _ _ _ hx hr)) _, hl⟩
/-- How far a search has come, at one node. -/
def visAt (vis : Nat → Int) (x : Nat) (z : Int) : Nat → Int := fun i => if i = x then z else vis i
theorem Gs.mark (h : Gs w ps G vis) {x p : Nat} (hx : ps[x]? = some p) (z : Int) : Gs (w.setCell ⟨p, 4, none⟩ (.int .i64 z)) ps G (visAt vis x z) := by
  refine ⟨h.len, h.inj, fun i r d hr hd => ?_⟩
  obtain ⟨sm, kd, fr, to_, hb, hl⟩ := h.at_ i r d hr hd
  by_cases hi : i = x
  · subst hi
    rw [hx] at hr
    cases hr
    exact ⟨sm, kd, fr, to_, (hb.set_ 4 _).eq_ (by simp [gcells, visAt]), hl⟩
  · refine ⟨sm, kd, fr, to_, ?_, hl⟩
    have e : visAt vis x z i = vis i := by simp [visAt, hi]
    rw [e]
    exact hb.far (by rintro rfl; exact hi (h.inj _ _ _ hr hx)) _
theorem Nd.lies_more {d : Nd} {sm fr to_ : Option Addr} {kd : Int} (h : d.lies ps sm kd fr to_) (q : Nat) : d.lies (ps ++ [q]) sm kd fr to_ := by
  have g : ∀ {i p : Nat}, ps[i]? = some p → (ps ++ [q])[i]? = some p := fun {i p} hi => by rw [List.getElem?_append_left (List.getElem?_eq_some_iff.1 hi).1]; exact hi
  cases d with
  | open_ => exact h
  | tree => exact h
  | arrow a b =>
    obtain ⟨h1, h2, ⟨p, h3, h4⟩, r, h5, h6⟩ := h
    exact ⟨h1, h2, ⟨p, g h3, h4⟩, r, g h5, h6⟩
  | link y =>
    obtain ⟨p, h1, h2⟩ := h
    exact ⟨p, g h1, h2⟩
/-- A new node. -/
theorem Gs.new (h : Gs w ps G vis) {d : Nd} {sm fr to_ : Option Addr} {kd : Int} (hd : d.lies ps sm kd fr to_) (hv : vis G.length = 0) :
    Gs (w.alloc (.cells (gcells sm kd fr to_ 0) 116)) (ps ++ [w.heap.size]) (G ++ [d]) vis := by
  have hl := h.len
  have old : ∀ {i p : Nat}, (ps ++ [w.heap.size])[i]? = some p → i < ps.length ∧ ps[i]? = some p ∧ p < w.heap.size ∨ i = ps.length ∧ p = w.heap.size := by
    intro i p hi
    rcases Nat.lt_or_ge i ps.length with hlt | hge
    · rw [List.getElem?_append_left hlt] at hi
      exact .inl ⟨hlt, hi, h.lt (List.mem_of_getElem? hi)⟩
    · have h1 := (List.getElem?_eq_some_iff.1 hi).1
      simp at h1
      have : i = ps.length := by omega
      subst this
      simp at hi
      exact .inr ⟨rfl, hi.symm⟩
  refine ⟨by simp [hl], fun i j p hi hj => ?_, fun i p e hi he => ?_⟩
  · rcases old hi with ⟨_, h2, h3⟩ | ⟨h1, h2⟩ <;> rcases old hj with ⟨_, h5, h6⟩ | ⟨h4, h5⟩
    · exact h.inj _ _ _ h2 h5
    · omega
    · omega
    · omega
  · rcases old hi with ⟨h1, h2, h3⟩ | ⟨h1, h2⟩
    · rw [List.getElem?_append_left (by omega)] at he
      obtain ⟨sm', kd', fr', to', hb, hl'⟩ := h.at_ i p e h2 he
      exact ⟨sm', kd', fr', to', hb.alloc _, Nd.lies_more hl' _⟩
    · subst h1 h2
      rw [hl] at he
      simp at he
      subst he
      refine ⟨sm, kd, fr, to_, ?_, Nd.lies_more hd _⟩
      rw [hl, hv]
      exact Blk.new w _ _
end

/-- Of the blocks that there were, only the first cells of those in ps may have turned. -/
structure Turns (ps : List Nat) (w w' : World) : Prop where
  sav : Saves (· ∈ ps) w w'
  rest : ∀ p ∈ ps, ∀ i : Nat, i ≠ 0 → w'.cell? ⟨p, i, none⟩ = w.cell? ⟨p, i, none⟩
theorem Turns.refl (ps : List Nat) (w : World) : Turns ps w w := ⟨Saves.refl _ _, fun _ _ _ _ => rfl⟩
theorem Turns.trans {ps : List Nat} {w w' w'' : World} (h : Turns ps w w') (k : Turns ps w' w'') : Turns ps w w'' := ⟨h.sav.trans k.sav, fun p hp i hi => (k.rest p hp i hi).trans (h.rest p hp i hi)⟩
theorem Turns.set_ {ps : List Nat} {w w' : World} (h : Turns ps w w') {p : Nat} (hp : p ∈ ps) (u : Value) : Turns ps w (w'.setCell (at0 p) u) :=
  ⟨h.sav.setCell (.inl hp) u, fun q hq i hi => (World.cell?_setCell_other w' (at0 p) ⟨q, i, none⟩ u (fun e => by injection e with _ e2; exact hi e2.symm)).trans (h.rest q hq i hi)⟩
theorem Turns.drewN {ps : List Nat} {w w' : World} (h : Turns ps w w') (n : Nat) : Turns ps w (w'.drewN n) := ⟨⟨h.sav.os, h.sav.tape, h.sav.output, h.sav.size, h.sav.block⟩, h.rest⟩
theorem Turns.bel {ps : List Nat} {w w' w'' : World} (h : Turns ps w w') (hb : Below w.heap.size w' w'') (ho : ∀ b ∈ ps, b < w.heap.size) : Turns ps w w'' :=
  ⟨⟨hb.os.trans h.sav.os, hb.tape.trans h.sav.tape, hb.output.trans h.sav.output, Nat.le_trans h.sav.size hb.size, fun k hk hm => (hb.block k hk).trans (h.sav.block k hk hm)⟩,
    fun p hp i hi => (World.cell?_of_block (hb.block p (ho p hp))).trans (h.rest p hp i hi)⟩
theorem Gs.bel {w w' : World} {ps : List Nat} {G : Gr} {vis : Nat → Int} {B : Nat} (h : Gs w ps G vis) (hb : Below B w w') (ho : ∀ b ∈ ps, b < B) : Gs w' ps G vis := h.keep fun b hb' => hb.block b (ho b hb')
theorem Turns.drew {ps : List Nat} {w w' : World} (h : Turns ps w w') : Turns ps w w'.drew := ⟨h.sav.drew, h.rest⟩

/-- What last answers: the root, on a way that may be shorter. -/
def Lasts (ps : List Nat) (G : Gr) (vis : Nat → Int) (r : Nat) (w : World) (e : Ending) (w' : World) : Prop :=
  ∃ G' q, ps[r]? = some q ∧ e = .returned (.pointer (some (at0 q))) ∧ Alike G G' ∧ Gs w' ps G' vis ∧ Turns ps w w'

/-- So far has the walk to the root come. -/
def Walks (ps : List Nat) (G : Gr) (vis : Nat → Int) (r : Nat) (w : World) (j : Nat) (v : Value) (wr : World) : Prop :=
  ∃ G' x p, v = .pointer (some (at0 p)) ∧ ps[x]? = some p ∧ Ends G' x r j ∧ Alike G G' ∧ Gs wr ps G' vis ∧ Turns ps w wr

set_option maxHeartbeats 400000 in
theorem last_any (ps : List Nat) (G : Gr) (vis : Nat → Int) (x p r k : Nat) (w : World) (hG : Good G) (hgs : Gs w ps G vis) (hx : ps[x]? = some p) (he : Ends G x r k) :
    Calls Tryd.prog 85 #[.pointer (some (at0 p))] w (Lasts ps G vis r w) := by
  have H0 : Hid (Walks ps G vis r w k (.pointer (some (at0 p))) w) := Lib.hid ⟨G, x, p, rfl, hx, he, .refl hG, hgs, Turns.refl _ _⟩
  clear hG hgs hx he
  go_enter Tryd.func85, Tryd.ntmps85
  go_wp2
  go_loopg [0] k (fun j v wr => Walks ps G vis r w j v wr)
  case atStart => exact H0.out
  case round =>
    obtain ⟨G', x', p', rfl, hx', he', ha, hg, hs⟩ := hrel
    have hpm : p' ∈ ps := List.mem_of_getElem? hx'
    cases he' with
    | @here _ d h1 h2 =>
      obtain ⟨sm, kd, fr, to_, hb, hl⟩ := hg.at_ _ _ _ hx' h1
      have hsm : sm = none := by cases d <;> first | exact hl.1 | cases h2
      subst hsm
      have hc := hb.cell 0
      simp at hc
      have HE : Hid (Lasts ps G vis r w (.returned (.pointer (some (at0 p')))) wr) := Lib.hid ⟨G', p', hx', rfl, ha, hg, hs⟩
      clear hx' h1 h2 hl ha hg hs hpm
      go_wp2
      go_ret
      exact HE.out
    | @step _ y _ j h1 h2 =>
      obtain ⟨sm, kd, fr, to_, hb, q, hq, rfl⟩ := hg.at_ _ _ _ hx' h1
      have hc := hb.cell 0
      simp at hc
      obtain ⟨d, hd⟩ := hg.nd hq
      obtain ⟨sm2, kd2, fr2, to2, hb2, hl2⟩ := hg.at_ _ _ _ hq hd
      have hc2 := hb2.cell 0
      simp at hc2
      have hpq : p' ≠ q := fun e => (ha.good.link h1).2 (hg.inj _ _ _ hq (e ▸ hx'))
      by_cases hlk : ∃ z, d = .link z
      · obtain ⟨z, rfl⟩ := hlk
        obtain ⟨q2, hq2, rfl⟩ := hl2
        have hf := hb.frozen 0
        have HW : Hid (∃ k', k' < j + 1 ∧ Walks ps G vis r w k' (.pointer (some (at0 q2))) (wr.setCell (at0 p') (.pointer (some (at0 q2))))) := by
          cases h2 with
          | here h3 h4 => rw [hd] at h3; cases h3; cases h4
          | @step _ _ _ j2 h3 h4 =>
            rw [hd] at h3
            cases h3
            obtain ⟨k', hk', he'⟩ := Ends.short h1 hd h4
            exact Lib.hid ⟨k', by omega, _, z, q2, rfl, hq2, he', ha.trans (Alike.short h1 hd ha.good), hg.link hx' hq2, hs.set_ hpm _⟩
        obtain ⟨k', hk', HW'⟩ := HW.out
        have HZ := Lib.hid HW'
        clear hx' h1 h2 hd ha hg hs hpm hq hq2 HW HW' hb hb2
        go_wp2
        go_roundg k'
        case measure => omega
        case rel => exact HZ.out
      · have hsm : sm2 = none := by
          cases d with
          | link z => exact (hlk ⟨z, rfl⟩).elim
          | _ => exact hl2.1
        subst hsm
        have HZ : Hid (Walks ps G vis r w j (.pointer (some (at0 q))) wr) := Lib.hid ⟨G', y, q, rfl, hq, h2, ha, hg, hs⟩
        clear hx' h1 h2 hd ha hg hs hpm hq hlk hl2 hb hb2
        go_wp2
        go_roundg j
        case measure => omega
        case rel => exact HZ.out
end Go.Proofs.YtkkfdiidneoelaaDoor
