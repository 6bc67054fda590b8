/-
  Guesses of sorts in memory: a graph whose nodes are blocks.
  join of guesses: a contract.
  (*guess).args: a contract.
-/
import Derived.Test.YtkkfdiidneoelaaGreatDoorGP
import Derived.Deep.LoopGhost
import Derived.Deep.RegionHeld3
import Derived.Deep.QuietTactic
import Derived.BigQuiet
import Derived.LaidEqlPtr
import Derived.Test.YtkkfdiidneoelaaGreatDoorGD
namespace Go.Proofs.YtkkfdiidneoelaaGreatDoor
open Go.RowKit

/-- The address of a guess. -/
abbrev at0 (p : Nat) : Addr := ⟨p, 0, none⟩
/-- What the cells of a node hold. -/
def Nd.lies (ps : List Nat) : Nd → Option Addr → Int → Option Addr → Option Addr → Prop
  | .open_, sm, kd, _, _ => sm = none ∧ kd = 0
  | .tree, sm, kd, _, _ => sm = none ∧ kd = 1
  | .arrow a b, sm, kd, fr, to_ => sm = none ∧ kd = 2 ∧ (∃ p, ps[a]? = some p ∧ fr = some (at0 p)) ∧ ∃ q, ps[b]? = some q ∧ to_ = some (at0 q)
  | .link y, sm, _, _, _ => ∃ q, ps[y]? = some q ∧ sm = some (at0 q)
abbrev gcells (sm : Option Addr) (kd : Int) (fr to_ : Option Addr) (z : Int) : Array Value := #[.pointer sm, .int .i64 kd, .pointer fr, .pointer to_, .int .i64 z]
/-- The graph lies in the blocks ps; vis: how far a search has come. -/
structure Gs (w : World) (ps : List Nat) (G : Gr) (vis : Nat → Int) : Prop where
  len : ps.length = G.length
  inj : ∀ (i j p : Nat), ps[i]? = some p → ps[j]? = some p → i = j
  at_ : ∀ (i p : Nat) (d : Nd), ps[i]? = some p → G[i]? = some d → ∃ sm kd fr to_, Blk w p 190 (gcells sm kd fr to_ (vis i)) ∧ d.lies ps sm kd fr to_
section
variable {w w' : World} {ps : List Nat} {G : Gr} {vis : Nat → Int}
theorem Gs.ptr (h : Gs w ps G vis) {x : Nat} (hx : x < G.length) : ∃ p, ps[x]? = some p := by
  have : x < ps.length := by have := h.len; omega
  exact ⟨ps[x], List.getElem?_eq_getElem this⟩
theorem Gs.nd (h : Gs w ps G vis) {x p : Nat} (hx : ps[x]? = some p) : ∃ d, G[x]? = some d := by
  have : x < G.length := by have := h.len; have := (List.getElem?_eq_some_iff.1 hx).1; omega
  exact ⟨G[x], List.getElem?_eq_getElem this⟩
theorem Gs.lt (h : Gs w ps G vis) {p : Nat} (hp : p ∈ ps) : p < w.heap.size := by
  obtain ⟨i, hi, rfl⟩ := List.mem_iff_getElem.1 hp
  have h1 : ps[i]? = some ps[i] := List.getElem?_eq_getElem hi
  obtain ⟨d, hd⟩ := h.nd h1
  obtain ⟨sm, kd, fr, to_, hb, _⟩ := h.at_ i _ d h1 hd
  exact hb.lt
theorem Gs.keep (h : Gs w ps G vis) (hb : ∀ b ∈ ps, w'.heap[b]? = w.heap[b]?) : Gs w' ps G vis := by
  refine ⟨h.len, h.inj, fun i p d hp hd => ?_⟩
  obtain ⟨sm, kd, fr, to_, hk, hl⟩ := h.at_ i p d hp hd
  exact ⟨sm, kd, fr, to_, (hb p (List.mem_of_getElem? hp)).trans hk, hl⟩
theorem Gs.below (h : Gs w ps G vis) (hb : Below w.heap.size w w') : Gs w' ps G vis := h.keep fun b hb' => hb.block b (h.lt hb')
theorem Gs.saves {M : Nat → Prop} (h : Gs w ps G vis) (hs : Saves M w w') (hM : ∀ b ∈ ps, ¬ M b) : Gs w' ps G vis := h.keep fun b hb' => hs.block b (h.lt hb') (hM b hb')
theorem Gs.alloc (h : Gs w ps G vis) (o : Obj) : Gs (w.alloc o) ps G vis := h.below ((Below.refl _ _).alloc (Nat.le_refl _) o)
theorem Gs.drew (h : Gs w ps G vis) : Gs w.drew ps G vis := h.keep fun _ _ => rfl
theorem Gs.drewN (h : Gs w ps G vis) (n : Nat) : Gs (w.drewN n) ps G vis := h.keep fun _ _ => rfl
/-- A node becomes the same as another one. -/
theorem Gs.link (h : Gs w ps G vis) {x y p q : Nat} (hx : ps[x]? = some p) (hy : ps[y]? = some q) : Gs (w.setCell (at0 p) (.pointer (some (at0 q)))) ps (G.set x (.link y)) vis := by
  refine ⟨by simp [h.len], h.inj, fun i r d hr hd => ?_⟩
  by_cases hi : x = i
  · subst hi
    rw [hx] at hr
    cases hr
    obtain ⟨d0, hd0⟩ := h.nd hx
    rw [get_set_eq hd0] at hd
    cases hd
    obtain ⟨sm, kd, fr, to_, hb, _⟩ := h.at_ x p d0 hx hd0
    exact ⟨_, kd, fr, to_, (hb.set_ 0 _).eq_ (by simp [gcells]), q, hy, rfl⟩
  · rw [get_set_ne hi] at hd
    obtain ⟨sm, kd, fr, to_, hb, hl⟩ := h.at_ i r d hr hd
    exact ⟨sm, kd, fr, to_, hb.far (by rintro rfl; exact hi (h.inj _ _ _ hx hr)) _, hl⟩
/-- How far a search has come, at one node. -/
def visAt (vis : Nat → Int) (x : Nat) (z : Int) : Nat → Int := fun i => if i = x then z else vis i
theorem Gs.mark (h : Gs w ps G vis) {x p : Nat} (hx : ps[x]? = some p) (z : Int) : Gs (w.setCell ⟨p, 4, none⟩ (.int .i64 z)) ps G (visAt vis x z) := by
  refine ⟨h.len, h.inj, fun i r d hr hd => ?_⟩
  obtain ⟨sm, kd, fr, to_, hb, hl⟩ := h.at_ i r d hr hd
  by_cases hi : i = x
  · subst hi
    rw [hx] at hr
    cases hr
    exact ⟨sm, kd, fr, to_, (hb.set_ 4 _).eq_ (by simp [gcells, visAt]), hl⟩
  · refine ⟨sm, kd, fr, to_, ?_, hl⟩
    have e : visAt vis x z i = vis i := by simp [visAt, hi]
    rw [e]
    exact hb.far (by rintro rfl; exact hi (h.inj _ _ _ hr hx)) _
theorem Nd.lies_more {d : Nd} {sm fr to_ : Option Addr} {kd : Int} (h : d.lies ps sm kd fr to_) (q : Nat) : d.lies (ps ++ [q]) sm kd fr to_ := by
  have g : ∀ {i p : Nat}, ps[i]? = some p → (ps ++ [q])[i]? = some p := fun {i p} hi => by rw [List.getElem?_append_left (List.getElem?_eq_some_iff.1 hi).1]; exact hi
  cases d with
  | open_ => exact h
  | tree => exact h
  | arrow a b =>
    obtain ⟨h1, h2, ⟨p, h3, h4⟩, r, h5, h6⟩ := h
    exact ⟨h1, h2, ⟨p, g h3, h4⟩, r, g h5, h6⟩
  | link y =>
    obtain ⟨p, h1, h2⟩ := h
    exact ⟨p, g h1, h2⟩
/-- A new node. -/
theorem Gs.new (h : Gs w ps G vis) {d : Nd} {sm fr to_ : Option Addr} {kd : Int} (hd : d.lies ps sm kd fr to_) (hv : vis G.length = 0) :
    Gs (w.alloc (.cells (gcells sm kd fr to_ 0) 190)) (ps ++ [w.heap.size]) (G ++ [d]) vis := by
  have hl := h.len
  have old : ∀ {i p : Nat}, (ps ++ [w.heap.size])[i]? = some p → i < ps.length ∧ ps[i]? = some p ∧ p < w.heap.size ∨ i = ps.length ∧ p = w.heap.size := by
    intro i p hi
    rcases Nat.lt_or_ge i ps.length with hlt | hge
    · rw [List.getElem?_append_left hlt] at hi
      exact .inl ⟨hlt, hi, h.lt (List.mem_of_getElem? hi)⟩
    · have h1 := (List.getElem?_eq_some_iff.1 hi).1
      simp at h1
      have : i = ps.length := by omega
      subst this
      simp at hi
      exact .inr ⟨rfl, hi.symm⟩
  refine ⟨by simp [hl], fun i j p hi hj => ?_, fun i p e hi he => ?_⟩
  · rcases old hi with ⟨_, h2, h3⟩ | ⟨h1, h2⟩ <;> rcases old hj with ⟨_, h5, h6⟩ | ⟨h4, h5⟩
    · exact h.inj _ _ _ h2 h5
    · omega
    · omega
    · omega
  · rcases old hi with ⟨h1, h2, h3⟩ | ⟨h1, h2⟩
    · rw [List.getElem?_append_left (by omega)] at he
      obtain ⟨sm', kd', fr', to', hb, hl'⟩ := h.at_ i p e h2 he
      exact ⟨sm', kd', fr', to', hb.alloc _, Nd.lies_more hl' _⟩
    · subst h1 h2
      rw [hl] at he
      simp at he
      subst he
      refine ⟨sm, kd, fr, to_, ?_, Nd.lies_more hd _⟩
      rw [hl, hv]
      exact Blk.new w _ _
end

/-- Of the blocks that there were, only the first cells of those in ps may have turned. -/
structure Turns (ps : List Nat) (w w' : World) : Prop where
  sav : Saves (· ∈ ps) w w'
  rest : ∀ p ∈ ps, ∀ i : Nat, i ≠ 0 → w'.cell? ⟨p, i, none⟩ = w.cell? ⟨p, i, none⟩
theorem Turns.refl (ps : List Nat) (w : World) : Turns ps w w := ⟨Saves.refl _ _, fun _ _ _ _ => rfl⟩
theorem Turns.trans {ps : List Nat} {w w' w'' : World} (h : Turns ps w w') (k : Turns ps w' w'') : Turns ps w w'' := ⟨h.sav.trans k.sav, fun p hp i hi => (k.rest p hp i hi).trans (h.rest p hp i hi)⟩
theorem Turns.set_ {ps : List Nat} {w w' : World} (h : Turns ps w w') {p : Nat} (hp : p ∈ ps) (u : Value) : Turns ps w (w'.setCell (at0 p) u) :=
  ⟨h.sav.setCell (.inl hp) u, fun q hq i hi => (World.cell?_setCell_other w' (at0 p) ⟨q, i, none⟩ u (fun e => by injection e with _ e2; exact hi e2.symm)).trans (h.rest q hq i hi)⟩
theorem Turns.drewN {ps : List Nat} {w w' : World} (h : Turns ps w w') (n : Nat) : Turns ps w (w'.drewN n) := ⟨⟨h.sav.os, h.sav.tape, h.sav.output, h.sav.size, h.sav.block⟩, h.rest⟩
theorem Turns.bel {ps : List Nat} {w w' w'' : World} (h : Turns ps w w') (hb : Below w.heap.size w' w'') (ho : ∀ b ∈ ps, b < w.heap.size) : Turns ps w w'' :=
  ⟨⟨hb.os.trans h.sav.os, hb.tape.trans h.sav.tape, hb.output.trans h.sav.output, Nat.le_trans h.sav.size hb.size, fun k hk hm => (hb.block k hk).trans (h.sav.block k hk hm)⟩,
    fun p hp i hi => (World.cell?_of_block (hb.block p (ho p hp))).trans (h.rest p hp i hi)⟩
theorem Gs.bel {w w' : World} {ps : List Nat} {G : Gr} {vis : Nat → Int} {B : Nat} (h : Gs w ps G vis) (hb : Below B w w') (ho : ∀ b ∈ ps, b < B) : Gs w' ps G vis := h.keep fun b hb' => hb.block b (ho b hb')
theorem Turns.drew {ps : List Nat} {w w' : World} (h : Turns ps w w') : Turns ps w w'.drew := ⟨h.sav.drew, h.rest⟩

/-- What last answers: the root, on a way that may be shorter. -/
def Lasts (ps : List Nat) (G : Gr) (vis : Nat → Int) (r : Nat) (w : World) (e : Ending) (w' : World) : Prop :=
  ∃ G' q, ps[r]? = some q ∧ e = .returned (.pointer (some (at0 q))) ∧ Alike G G' ∧ Gs w' ps G' vis ∧ Turns ps w w'

/-- So far has the walk to the root come. -/
def Walks (ps : List Nat) (G : Gr) (vis : Nat → Int) (r : Nat) (w : World) (j : Nat) (v : Value) (wr : World) : Prop :=
  ∃ G' x p, v = .pointer (some (at0 p)) ∧ ps[x]? = some p ∧ Ends G' x r j ∧ Alike G G' ∧ Gs wr ps G' vis ∧ Turns ps w wr

set_option maxHeartbeats 400000 in
theorem last_any (ps : List Nat) (G : Gr) (vis : Nat → Int) (x p r k : Nat) (w : World) (hG : Good G) (hgs : Gs w ps G vis) (hx : ps[x]? = some p) (he : Ends G x r k) :
    Calls Tryz.prog 153 #[.pointer (some (at0 p))] w (Lasts ps G vis r w) := by
  have H0 : Hid (Walks ps G vis r w k (.pointer (some (at0 p))) w) := Lib.hid ⟨G, x, p, rfl, hx, he, .refl hG, hgs, Turns.refl _ _⟩
  clear hG hgs hx he
  go_enter Tryz.func153, Tryz.ntmps153
  go_wp2
  go_loopg [0] k (fun j v wr => Walks ps G vis r w j v wr)
  case atStart => exact H0.out
  case round =>
    obtain ⟨G', x', p', rfl, hx', he', ha, hg, hs⟩ := hrel
    have hpm : p' ∈ ps := List.mem_of_getElem? hx'
    cases he' with
    | @here _ d h1 h2 =>
      obtain ⟨sm, kd, fr, to_, hb, hl⟩ := hg.at_ _ _ _ hx' h1
      have hsm : sm = none := by cases d <;> first | exact hl.1 | cases h2
      subst hsm
      have hc := hb.cell 0
      simp at hc
      have HE : Hid (Lasts ps G vis r w (.returned (.pointer (some (at0 p')))) wr) := Lib.hid ⟨G', p', hx', rfl, ha, hg, hs⟩
      clear hx' h1 h2 hl ha hg hs hpm
      go_wp2
      go_ret
      exact HE.out
    | @step _ y _ j h1 h2 =>
      obtain ⟨sm, kd, fr, to_, hb, q, hq, rfl⟩ := hg.at_ _ _ _ hx' h1
      have hc := hb.cell 0
      simp at hc
      obtain ⟨d, hd⟩ := hg.nd hq
      obtain ⟨sm2, kd2, fr2, to2, hb2, hl2⟩ := hg.at_ _ _ _ hq hd
      have hc2 := hb2.cell 0
      simp at hc2
      have hpq : p' ≠ q := fun e => (ha.good.link h1).2 (hg.inj _ _ _ hq (e ▸ hx'))
      by_cases hlk : ∃ z, d = .link z
      · obtain ⟨z, rfl⟩ := hlk
        obtain ⟨q2, hq2, rfl⟩ := hl2
        have hf := hb.frozen 0
        have HW : Hid (∃ k', k' < j + 1 ∧ Walks ps G vis r w k' (.pointer (some (at0 q2))) (wr.setCell (at0 p') (.pointer (some (at0 q2))))) := by
          cases h2 with
          | here h3 h4 => rw [hd] at h3; cases h3; cases h4
          | @step _ _ _ j2 h3 h4 =>
            rw [hd] at h3
            cases h3
            obtain ⟨k', hk', he'⟩ := Ends.short h1 hd h4
            exact Lib.hid ⟨k', by omega, _, z, q2, rfl, hq2, he', ha.trans (Alike.short h1 hd ha.good), hg.link hx' hq2, hs.set_ hpm _⟩
        obtain ⟨k', hk', HW'⟩ := HW.out
        have HZ := Lib.hid HW'
        clear hx' h1 h2 hd ha hg hs hpm hq hq2 HW HW' hb hb2
        go_wp2
        go_roundg k'
        case measure => omega
        case rel => exact HZ.out
      · have hsm : sm2 = none := by
          cases d with
          | link z => exact (hlk ⟨z, rfl⟩).elim
          | _ => exact hl2.1
        subst hsm
        have HZ : Hid (Walks ps G vis r w j (.pointer (some (at0 q))) wr) := Lib.hid ⟨G', y, q, rfl, hq, h2, ha, hg, hs⟩
        clear hx' h1 h2 hd ha hg hs hpm hq hlk hl2 hb hb2
        go_wp2
        go_roundg j
        case measure => omega
        case rel => exact HZ.out
end Go.Proofs.YtkkfdiidneoelaaGreatDoor

namespace Go.Proofs.YtkkfdiidneoelaaGreatDoor
open Go.RowKit

/-- There are trees with which two nodes may be the same. -/
def Unifies (G : Gr) (x y : Nat) : Prop := ∃ v, Sol G v ∧ v x = v y
theorem Joined.iff {G G' : Gr} {x y : Nat} {ok : Bool} (j : Joined G G' x y ok) : ok = true ↔ Unifies G x y := by
  constructor
  · intro h
    obtain ⟨v, hv⟩ := Can.exists j.good
    exact ⟨v, (j.yes h v).1 hv.sol⟩
  · rintro ⟨v, h1, h2⟩
    cases ok with
    | true => rfl
    | false => exact (j.no rfl v h1 h2).elim
theorem Unifies.bool (G : Gr) (x y : Nat) : ∃ ok : Bool, (ok = true ↔ Unifies G x y) := by
  by_cases h : Unifies G x y
  · exact ⟨true, by simp [h]⟩
  · exact ⟨false, by simp [h]⟩
/-- What join answers. -/
def JoinPost (ps : List Nat) (G : Gr) (vis : Nat → Int) (x y : Nat) (ok : Bool) (w : World) (e : Ending) (w' : World) : Prop :=
  e = .returned (.bool ok) ∧ ∃ G', Joined G G' x y ok ∧ Gs w' ps G' vis ∧ Turns ps w w'
/-- The way to two roots changes nothing. -/
theorem Joined.behind {G G1 G2 : Gr} {g h a b : Nat} {ok : Bool} (hs : Alike G G1) (hg : ∀ v, Sol G v → v g = v a) (hh : ∀ v, Sol G v → v h = v b) (j : Joined G1 G2 a b ok) : Joined G G2 g h ok := by
  have hl := hs.len
  have hr := hs.roots
  have hl2 := j.len
  have hr2 := j.roots
  refine ⟨j.good, by omega, by omega, fun e v => ?_, fun e v hv hh' => ?_⟩
  · rw [j.yes e v, hs.sol v]
    exact and_congr_right fun hv => by rw [hg v hv, hh v hv]
  · exact j.no e v ((hs.sol v).2 hv) (by rw [← hg v hv, ← hh v hv]; exact hh')
/-- The state at the two roots. -/
structure Roots (ps : List Nat) (G : Gr) (vis : Nat → Int) (x y : Nat) (w : World) (G' : Gr) (r s p q : Nat) (w' : World) : Prop where
  al : Alike G G'
  ex : ∀ v, Sol G v → v x = v r
  ey : ∀ v, Sol G v → v y = v s
  gs : Gs w' ps G' vis
  tu : Turns ps w w'
  hr : ps[r]? = some p
  hs : ps[s]? = some q
  rr : ∃ d, G'[r]? = some d ∧ d.root = true
  rs : ∃ d, G'[s]? = some d ∧ d.root = true
theorem JoinPost.of {ps : List Nat} {G G' G2 : Gr} {vis : Nat → Int} {x y r s p q : Nat} {ok : Bool} {w w1 w2 : World} (h : Roots ps G vis x y w G' r s p q w1) (j : Joined G' G2 r s ok) (hg : Gs w2 ps G2 vis) (ht : Turns ps w1 w2) :
    JoinPost ps G vis x y ok w (.returned (.bool ok)) w2 := ⟨rfl, G2, j.behind h.al h.ex h.ey, hg, h.tu.trans ht⟩
theorem JoinPost.ok_ {ps : List Nat} {G : Gr} {vis : Nat → Int} {x y : Nat} {ok ok' : Bool} {w w' : World} {e : Ending} (h : JoinPost ps G vis x y ok w e w') (hok : ok' = true ↔ Unifies G x y) : JoinPost ps G vis x y ok' w e w' := by
  obtain ⟨_, G', j, _⟩ := id h
  have : ok = ok' := by rw [Bool.eq_iff_iff, j.iff, hok]
  exact this ▸ h
theorem roots_pos {G : Gr} {r : Nat} {d : Nd} (h : G[r]? = some d) (hd : d.root = true) : 0 < roots G := by
  have := roots_set (e := .link 0) h
  rw [if_pos hd] at this
  simp [Nd.root] at this
  omega
/-- What the second pair of parts answers, where the first one is the same. -/
theorem Joined.second {G G1 : Gr} {a b p q r s : Nat} {ok : Bool} (ha : G[a]? = some (.arrow p q)) (hb : G[b]? = some (.arrow r s)) (hab : a ≠ b)
    (h1 : Joined (G.set a (.link b)) G1 p r true) (hok : ok = true ↔ Unifies G a b) : ok = true ↔ Unifies G1 q s := by
  obtain ⟨ok2, h2⟩ := Unifies.bool G1 q s
  rw [hok]
  constructor
  · rintro ⟨v, hv, hh⟩
    have g := (Sol.linked (b := b) ha).2 ⟨hv, hh⟩
    have g3 : v a = D.arr (v p) (v q) := hv a (.arrow p q) ha
    have g4 : v b = D.arr (v r) (v s) := hv b (.arrow r s) hb
    obtain ⟨e1, e2⟩ := D.arr_inj (g3.symm.trans (hh.trans g4))
    exact ⟨v, (h1.yes rfl v).2 ⟨g.1, e1⟩, e2⟩
  · rintro ⟨v, hv, hh⟩
    obtain ⟨g1, g2⟩ := (h1.yes rfl v).1 hv
    have g3 : v a = v b := g1 a (.link b) (get_set_eq ha)
    have g4 : v b = D.arr (v r) (v s) := g1 b (.arrow r s) (by rw [get_set_ne hab]; exact hb)
    have key : v a = D.arr (v p) (v q) := by rw [g3, g4, g2, hh]
    obtain ⟨h5, h6⟩ := (Sol.linked (b := b) ha).1 ⟨g1, key⟩
    exact ⟨v, h5, h6⟩

theorem guess_size : (Tryz.prog.info? 190).map (·.size) = some 5 := by kernel_rfl
theorem guess_same (p : Nat) (w : World) : (binOp .eql 127 (.pointer (some (at0 p))) (.pointer (some (at0 p)))).run Tryz.prog w = .ok (.bool true) w := by
  obtain ⟨j, hj, _⟩ := Option.map_eq_some_iff.1 guess_size
  exact run_eql_ptr_same w _ Tryz.underlying127 hj
theorem guess_other {p q : Nat} {w : World} {cp cq : Array Value} (h : ¬ p = q) (hp : Blk w p 190 cp) (hq : Blk w q 190 cq) :
    (binOp .eql 127 (.pointer (some (at0 p))) (.pointer (some (at0 q)))).run Tryz.prog w = .ok (.bool false) w := by
  obtain ⟨j, hj, hjs⟩ := Option.map_eq_some_iff.1 guess_size
  exact run_eql_ptr_other w Tryz.underlying127 hj (by rw [hjs]; decide) (fun e => h (by injection e)) hp hq

set_option maxRecDepth 100000 in
set_option maxHeartbeats 1600000 in
theorem join_any (m : Nat) : ∀ (ps : List Nat) (G : Gr) (vis : Nat → Int) (x y p q : Nat) (ok : Bool) (w : World), roots G ≤ m → Good G → Gs w ps G vis → ps[x]? = some p → ps[y]? = some q → (ok = true ↔ Unifies G x y) →
    Calls Tryz.prog 116 #[.pointer (some (at0 p)), .pointer (some (at0 q))] w (JoinPost ps G vis x y ok w) := by
  induction m with
  | zero =>
    intro ps G vis x y p q ok w hm hG hgs hx
    obtain ⟨r, k, he⟩ := hG.ends x (by have := hgs.len; have := (List.getElem?_eq_some_iff.1 hx).1; omega)
    obtain ⟨d, h1, h2⟩ := he.at_
    have := roots_pos h1 h2
    omega
  | succ m ih =>
    intro ps G vis x y p q ok w hm hG hgs hx hy hok
    have HI := Lib.hid ih
    have HM := Lib.hid hm
    have HO := Lib.hid hok
    clear ih hm hok
    obtain ⟨r, k, he⟩ := hG.ends x (by have := hgs.len; have := (List.getElem?_eq_some_iff.1 hx).1; omega)
    have HG := Lib.hid hG
    have HE := Lib.hid he
    have HC := Lib.hid (last_any ps G vis x p r k w hG hgs hx he)
    have HY := Lib.hid hy
    clear hG hgs hx he hy
    go_enter Tryz.func116, Tryz.ntmps116
    go_wp2_with fail
    refine HC.out.mono ?_
    rintro e w1 ⟨G1, p1, hp1, rfl, ha1, hg1, ht1⟩
    obtain ⟨s, l, he2⟩ := ha1.good.ends y (by have := hg1.len; have := (List.getElem?_eq_some_iff.1 HY.out).1; omega)
    have HC2 := Lib.hid (last_any ps G1 vis y q s l w1 ha1.good hg1 HY.out he2)
    have HP1 := Lib.hid hp1
    have HA1 := Lib.hid ha1
    have HE2 := Lib.hid he2
    have HT1 := Lib.hid ht1
    clear hp1 ha1 hg1 he2 ht1
    go_wp2_with fail
    refine HC2.out.mono ?_
    rintro e w2 ⟨G2, q1, hq1, rfl, ha2, hg2, ht2⟩
    have R : Roots ps G vis x y w G2 r s p1 q1 w2 := by
      have al := HA1.out.trans ha2
      refine ⟨al, fun v hv => hv.ends HE.out, fun v hv => ((HA1.out.sol v).2 hv).ends HE2.out, hg2, HT1.out.trans ht2, HP1.out, hq1, ?_, ?_⟩
      · obtain ⟨d, h1, h2⟩ := HE.out.at_
        exact ⟨d, al.stays r d h1 h2, h2⟩
      · obtain ⟨d, h1, h2⟩ := HE2.out.at_
        exact ⟨d, ha2.stays s d h1 h2, h2⟩
    have HP : Hid (p1 ∈ ps ∧ q1 ∈ ps) := Lib.hid ⟨List.mem_of_getElem? HP1.out, List.mem_of_getElem? hq1⟩
    clear HC HC2 HY HE HA1 HE2 HT1 HP1 hq1 ha2 hg2 ht2
    by_cases hrs : r = s
    · subst hrs
      have hpq : p1 = q1 := by have := R.hr.symm.trans R.hs; cases this; rfl
      subst hpq
      have HF : Hid (JoinPost ps G vis x y ok w (.returned (.bool true)) w2) := Lib.hid ((JoinPost.of R (.same R.al.good r) R.gs (.refl _ _)).ok_ HO.out)
      have heq := guess_same p1 w2
      clear R HP HI HM HO HG
      go_wp2_with fail
      go_ret
      exact HF.out
    · have hpq : ¬ p1 = q1 := fun e => hrs (R.gs.inj _ _ _ R.hr (e ▸ R.hs))
      obtain ⟨d1, hd1, hr1⟩ := R.rr
      obtain ⟨d2, hd2, hr2⟩ := R.rs
      obtain ⟨sm1, kd1, fr1, to1, hb1, hl1⟩ := R.gs.at_ _ _ _ R.hr hd1
      obtain ⟨sm2, kd2, fr2, to2, hb2, hl2⟩ := R.gs.at_ _ _ _ R.hs hd2
      have c10 := hb1.cell 0
      have c11 := hb1.cell 1
      have c12 := hb1.cell 2
      have c13 := hb1.cell 3
      have f10 := hb1.frozen 0
      have c20 := hb2.cell 0
      have c21 := hb2.cell 1
      have c22 := hb2.cell 2
      have c23 := hb2.cell 3
      have f20 := hb2.frozen 0
      simp only [gcells, List.getElem?_toArray, List.getElem?_cons_zero, List.getElem?_cons_succ] at c10 c11 c12 c13 c20 c21 c22 c23
      have hqp : ¬ q1 = p1 := fun e => hpq e.symm
      have HR := Lib.hid R
      have HRS := Lib.hid hrs
      have HD1 := Lib.hid hd1
      have HD2 := Lib.hid hd2
      have HR1 := Lib.hid hr1
      have HR2 := Lib.hid hr2
      have heq := guess_other hpq hb1 hb2
      clear R hrs hd1 hd2 hr1 hr2 hb1 hb2
      by_cases ho1 : d1 = .open_
      · subst ho1
        obtain ⟨rfl, rfl⟩ := hl1
        have HF : Hid (JoinPost ps G vis x y ok w (.returned (.bool true)) (w2.setCell (at0 p1) (.pointer (some (at0 q1))))) :=
          Lib.hid ((JoinPost.of HR.out (.open_ HR.out.al.good HD1.out HD2.out HR2.out HRS.out) (HR.out.gs.link HR.out.hr HR.out.hs) ((Turns.refl _ _).set_ HP.out.1 _)).ok_ HO.out)
        clear HI HM HO HG hl2
        go_wp2_with fail
        go_ret
        exact HF.out
      · by_cases ho2 : d2 = .open_
        · subst ho2
          obtain ⟨rfl, rfl⟩ := hl2
          have hk1 : ¬ kd1 = 0 := by
            cases d1 with
            | open_ => exact (ho1 rfl).elim
            | tree => rw [hl1.2]; decide
            | arrow a b => rw [hl1.2.1]; decide
            | link z => cases HR1.out
          have HF : Hid (JoinPost ps G vis x y ok w (.returned (.bool true)) (w2.setCell (at0 q1) (.pointer (some (at0 p1))))) :=
            Lib.hid ((JoinPost.of HR.out (Joined.open_ HR.out.al.good HD2.out HD1.out HR1.out (Ne.symm HRS.out)).swap (HR.out.gs.link HR.out.hs HR.out.hr) ((Turns.refl _ _).set_ HP.out.2 _)).ok_ HO.out)
          clear HI HM HO HG hl1 ho1
          go_wp2_with fail
          go_ret
          exact HF.out
        · cases d1 with
          | open_ => exact (ho1 rfl).elim
          | link z => cases HR1.out
          | tree =>
            obtain ⟨rfl, rfl⟩ := hl1
            cases d2 with
            | open_ => exact (ho2 rfl).elim
            | link z => cases HR2.out
            | tree =>
              obtain ⟨rfl, rfl⟩ := hl2
              have HF : Hid (∀ n, JoinPost ps G vis x y ok w (.returned (.bool true)) (((w2.setCell (at0 p1) (.pointer (some (at0 q1)))).drew).drewN n)) :=
                Lib.hid fun n => ((JoinPost.of HR.out (.tree HR.out.al.good HD1.out HD2.out HRS.out) ((HR.out.gs.link HR.out.hr HR.out.hs).drew.drewN n) (((Turns.refl _ _).set_ HP.out.1 _).drew.drewN n)).ok_ HO.out)
              clear HI HM HO HG ho1 ho2
              go_wp2_with fail
              go_region
              go_wp2_with fail
              go_quiet (fail)
              go_wp2_with fail
              go_ret
              exact HF.out _
            | arrow a b =>
              obtain ⟨rfl, rfl, _⟩ := hl2
              have HF : Hid (JoinPost ps G vis x y ok w (.returned (.bool false)) w2.drew) :=
                Lib.hid ((JoinPost.of HR.out (.differ1 HR.out.al.good HD1.out HD2.out) HR.out.gs.drew (Turns.refl _ _).drew).ok_ HO.out)
              clear HI HM HO HG ho1 ho2
              go_wp2_with fail
              go_region
              go_wp2_with fail
              go_ret
              exact HF.out
          | arrow a b =>
            obtain ⟨rfl, rfl, ⟨pa, hpa, rfl⟩, pb, hpb, rfl⟩ := hl1
            cases d2 with
            | open_ => exact (ho2 rfl).elim
            | link z => cases HR2.out
            | tree =>
              obtain ⟨rfl, rfl⟩ := hl2
              have HF : Hid (JoinPost ps G vis x y ok w (.returned (.bool false)) w2.drew) :=
                Lib.hid ((JoinPost.of HR.out (Joined.differ1 HR.out.al.good HD2.out HD1.out).swap HR.out.gs.drew (Turns.refl _ _).drew).ok_ HO.out)
              clear HI HM HO HG ho1 ho2 hpa hpb
              go_wp2_with fail
              go_region
              go_wp2_with fail
              go_ret
              exact HF.out
            | arrow c d =>
              obtain ⟨rfl, rfl, ⟨pc, hpc, rfl⟩, pd, hpd, rfl⟩ := hl2
              have hr3 : roots (G2.set r (.link s)) ≤ m := by
                have h1 := roots_set (e := .link s) HD1.out
                have h2 := HR.out.al.roots
                have h3 := HM.out
                simp [Nd.root] at h1
                omega
              have hg3 : Good (G2.set r (.link s)) := HR.out.al.good.linked HD1.out rfl HD2.out rfl HRS.out
              obtain ⟨ok1, hok1⟩ := Unifies.bool (G2.set r (.link s)) a c
              have HOK : Hid (ok = true ↔ Unifies G2 r s) := Lib.hid (by
                rw [HO.out]
                constructor
                · rintro ⟨v, h1, h2⟩
                  exact ⟨v, (HR.out.al.sol v).2 h1, by rw [← HR.out.ex v h1, ← HR.out.ey v h1]; exact h2⟩
                · rintro ⟨v, h1, h2⟩
                  have h3 := (HR.out.al.sol v).1 h1
                  exact ⟨v, h3, by rw [HR.out.ex v h3, HR.out.ey v h3]; exact h2⟩)
              generalize hK1 : (fun W => Gs W ps (G2.set r (.link s)) vis ∧ Turns ps w2 W) = K1
              generalize hK2 : (fun W => ∃ G4, Joined (G2.set r (.link s)) G4 a c ok1 ∧ Gs W ps G4 vis ∧ Turns ps w2 W) = K2
              have of1 : ∀ W, K1 W → Gs W ps (G2.set r (.link s)) vis ∧ Turns ps w2 W := fun W h => by rw [← hK1] at h; exact h
              have of2 : ∀ W, K2 W → ∃ G4, Joined (G2.set r (.link s)) G4 a c ok1 ∧ Gs W ps G4 vis ∧ Turns ps w2 W := fun W h => by rw [← hK2] at h; exact h
              have HC1 := Lib.hid (fun W (h : K1 W) => (HI.out ps (G2.set r (.link s)) vis a c pa pc ok1 W hr3 hg3 (of1 W h).1 hpa hpc hok1).mono fun e w' ⟨he, G4, j, g4, t4⟩ =>
                (⟨he, by rw [← hK2]; exact ⟨G4, j, g4, (of1 W h).2.trans t4⟩⟩ : e = _ ∧ K2 w'))
              have HF1 : Hid (ok1 = false → ∀ W, K2 W → JoinPost ps G vis x y ok w (.returned (.bool false)) W) := Lib.hid fun h1 W h => by
                obtain ⟨G4, j, g4, t4⟩ := of2 W h
                subst h1
                exact (JoinPost.of HR.out (Joined.arrowsNo HD1.out HD2.out j) g4 t4).ok_ HO.out
              have HC2 : Hid (ok1 = true → ∀ W, K2 W → Calls Tryz.prog 116 #[.pointer (some (at0 pb)), .pointer (some (at0 pd))] W fun e w' => e = Ending.returned (.bool ok) ∧ JoinPost ps G vis x y ok w (.returned (.bool ok)) w' ∧ Turns ps w2 w') := Lib.hid fun h1 W h => by
                obtain ⟨G4, j, g4, t4⟩ := of2 W h
                subst h1
                have hr4 := j.roots
                exact (HI.out ps G4 vis b d pb pd ok W (by omega) j.good g4 hpb hpd (Joined.second HD1.out HD2.out HRS.out j HOK.out)).mono fun e w' ⟨he, G5, j5, g5, t5⟩ =>
                  ⟨he, (JoinPost.of HR.out (Joined.arrows HD1.out HD2.out HRS.out j j5) g5 (t4.trans t5)).ok_ HO.out, t4.trans t5⟩
              have HS : Hid (∀ W, Turns ps w2 W → (W.cell? ⟨p1, 1, none⟩ = some (.int .i64 2) ∧ W.cell? ⟨p1, 2, none⟩ = some (.pointer (some (at0 pa))) ∧ W.cell? ⟨p1, 3, none⟩ = some (.pointer (some (at0 pb)))) ∧
                  W.cell? ⟨q1, 2, none⟩ = some (.pointer (some (at0 pc))) ∧ W.cell? ⟨q1, 3, none⟩ = some (.pointer (some (at0 pd)))) := Lib.hid fun W t => by
                have e := fun i hi => t.rest p1 HP.out.1 i hi
                have e' := fun i hi => t.rest q1 HP.out.2 i hi
                exact ⟨⟨(e 1 (by decide)).trans c11, (e 2 (by decide)).trans c12, (e 3 (by decide)).trans c13⟩, (e' 2 (by decide)).trans c22, (e' 3 (by decide)).trans c23⟩
              have HS1 := Lib.hid (fun W (h : K1 W) => HS.out W (of1 W h).2)
              have HS2 := Lib.hid (fun W (h : K2 W) => HS.out W (by obtain ⟨_, _, _, t⟩ := of2 W h; exact t))
              have k1 : K1 ((w2.setCell (at0 p1) (.pointer (some (at0 q1)))).drew.drew) := by rw [← hK1]; exact ⟨(HR.out.gs.link HR.out.hr HR.out.hs).drew.drew, ((Turns.refl _ _).set_ HP.out.1 _).drew.drew⟩
              clear hok1 hr3 hg3 hK1 hK2 of1 of2 HI HM HO HG HOK HR HRS HD1 HD2 HR1 HR2 HP hpa hpb hpc hpd ho1 ho2
              go_wp2_with fail
              go_region
              go_wp2_with fail
              generalize JoinPost ps G vis x y ok w = JP at *
              cases ok1 with
              | false =>
                refine wp_region_held_drew (S := (fun w' => (w'.cell? ⟨p1, 1, none⟩ = some (.int .i64 2) ∧ w'.cell? ⟨p1, 2, none⟩ = some (.pointer (some (at0 pa))) ∧ w'.cell? ⟨p1, 3, none⟩ = some (.pointer (some (at0 pb)))) ∧ w'.cell? ⟨q1, 2, none⟩ = some (.pointer (some (at0 pc))) ∧ w'.cell? ⟨q1, 3, none⟩ = some (.pointer (some (at0 pd))))) (by kernel_rfl) (HS1.out _ k1) (fun hHeld => ?_)
                refine wpAnyH_take (i := 0) (oi := { dst := some 47, op := Op.move (Operand.tmp 0), type := 127, pos := "solve.go:61", after := #[], guard := none }) (v := ?_) rfl (by kernel_rfl) (by kernel_rfl) (by kernel_rfl) (fun _ _ _ h => h) (Or.inl ⟨by kernel_rfl, ?_⟩) (by assumption) ?_
                rotate_left 1
                · intro w hSw
                  (try dsimp only at hSw)
                  go_simp <;> with_reducible rfl
                try simp only [Act.put]
                refine wpAnyH_take (i := 1) (oi := { dst := some 48, op := Op.nilCheck (Operand.tmp 47), type := 0, pos := "solve.go:61", after := #[{ on := 0, ground := Ground.data }], guard := none }) (v := ?_) rfl (by kernel_rfl) (by kernel_rfl) (by kernel_rfl) (fun _ _ _ h => h) (Or.inl ⟨by kernel_rfl, ?_⟩) (by assumption) ?_
                rotate_left 1
                · intro w hSw
                  (try dsimp only at hSw)
                  go_simp <;> with_reducible rfl
                try simp only [Act.put]
                refine wpAnyH_take (i := 2) (oi := { dst := some 49, op := Op.fieldAddr 190 (Operand.tmp 48) 1, type := 0, pos := "solve.go:61", after := #[{ on := 1, ground := Ground.data }], guard := none }) (v := ?_) rfl (by kernel_rfl) (by kernel_rfl) (by kernel_rfl) (fun _ _ _ h => h) (Or.inl ⟨by kernel_rfl, ?_⟩) (by assumption) ?_
                rotate_left 1
                · intro w hSw
                  (try dsimp only at hSw)
                  go_simp <;> with_reducible rfl
                try simp only [Act.put]
                refine wpAnyH_take (i := 3) (oi := { dst := some 50, op := Op.load 3 (Operand.tmp 49), type := 3, pos := "solve.go:61", after := #[{ on := 2, ground := Ground.data }], guard := none }) (v := ?_) rfl (by kernel_rfl) (by kernel_rfl) (by kernel_rfl) (fun _ _ _ h => h) (Or.inl ⟨by kernel_rfl, ?_⟩) (by assumption) ?_
                rotate_left 1
                · intro w hSw
                  (try dsimp only at hSw)
                  go_simp <;> with_reducible rfl
                try simp only [Act.put]
                refine wpAnyH_take (i := 4) (oi := { dst := some 51, op := Op.binOp BinOp.eql 3 (Operand.tmp 50) (Operand.const (Value.int IntKind.i64 1)) 3, type := 4, pos := "solve.go:61", after := #[{ on := 3, ground := Ground.data }], guard := none }) (v := ?_) rfl (by kernel_rfl) (by kernel_rfl) (by kernel_rfl) (fun _ _ _ h => h) (Or.inl ⟨by kernel_rfl, ?_⟩) (by assumption) ?_
                rotate_left 1
                · intro w hSw
                  (try dsimp only at hSw)
                  go_simp <;> with_reducible rfl
                try simp only [Act.put]
                refine wpAnyH_take (i := 5) (oi := { dst := some 52, op := Op.move (Operand.tmp 51), type := 4, pos := "solve.go:61", after := #[{ on := 4, ground := Ground.data }], guard := none }) (v := ?_) rfl (by kernel_rfl) (by kernel_rfl) (by kernel_rfl) (fun _ _ _ h => h) (Or.inl ⟨by kernel_rfl, ?_⟩) (by assumption) ?_
                rotate_left 1
                · intro w hSw
                  (try dsimp only at hSw)
                  go_simp <;> with_reducible rfl
                try simp only [Act.put]
                refine wpAnyH_take (i := 6) (oi := { dst := some 53, op := Op.move (Operand.tmp 0), type := 127, pos := "solve.go:61", after := #[{ on := 5, ground := Ground.guard }], guard := some (5, false) }) (v := ?_) rfl (by kernel_rfl) (by kernel_rfl) (by kernel_rfl) (fun _ _ _ h => h) (Or.inl ⟨by kernel_rfl, ?_⟩) (by assumption) ?_
                rotate_left 1
                · intro w hSw
                  (try dsimp only at hSw)
                  go_simp <;> with_reducible rfl
                try simp only [Act.put]
                refine wpAnyH_take (i := 7) (oi := { dst := some 54, op := Op.nilCheck (Operand.tmp 53), type := 0, pos := "solve.go:61", after := #[{ on := 6, ground := Ground.data }, { on := 5, ground := Ground.guard }], guard := some (5, false) }) (v := ?_) rfl (by kernel_rfl) (by kernel_rfl) (by kernel_rfl) (fun _ _ _ h => h) (Or.inl ⟨by kernel_rfl, ?_⟩) (by assumption) ?_
                rotate_left 1
                · intro w hSw
                  (try dsimp only at hSw)
                  go_simp <;> with_reducible rfl
                try simp only [Act.put]
                refine wpAnyH_take (i := 8) (oi := { dst := some 55, op := Op.fieldAddr 190 (Operand.tmp 54) 2, type := 0, pos := "solve.go:61", after := #[{ on := 7, ground := Ground.data }, { on := 5, ground := Ground.guard }], guard := some (5, false) }) (v := ?_) rfl (by kernel_rfl) (by kernel_rfl) (by kernel_rfl) (fun _ _ _ h => h) (Or.inl ⟨by kernel_rfl, ?_⟩) (by assumption) ?_
                rotate_left 1
                · intro w hSw
                  (try dsimp only at hSw)
                  go_simp <;> with_reducible rfl
                try simp only [Act.put]
                refine wpAnyH_take (i := 9) (oi := { dst := some 56, op := Op.load 127 (Operand.tmp 55), type := 127, pos := "solve.go:61", after := #[{ on := 8, ground := Ground.data }, { on := 5, ground := Ground.guard }], guard := some (5, false) }) (v := ?_) rfl (by kernel_rfl) (by kernel_rfl) (by kernel_rfl) (fun _ _ _ h => h) (Or.inl ⟨by kernel_rfl, ?_⟩) (by assumption) ?_
                rotate_left 1
                · intro w hSw
                  (try dsimp only at hSw)
                  go_simp <;> with_reducible rfl
                try simp only [Act.put]
                refine wpAnyH_take (i := 10) (oi := { dst := some 57, op := Op.move (Operand.tmp 1), type := 127, pos := "solve.go:61", after := #[{ on := 5, ground := Ground.guard }], guard := some (5, false) }) (v := ?_) rfl (by kernel_rfl) (by kernel_rfl) (by kernel_rfl) (fun _ _ _ h => h) (Or.inl ⟨by kernel_rfl, ?_⟩) (by assumption) ?_
                rotate_left 1
                · intro w hSw
                  (try dsimp only at hSw)
                  go_simp <;> with_reducible rfl
                try simp only [Act.put]
                refine wpAnyH_take (i := 11) (oi := { dst := some 58, op := Op.nilCheck (Operand.tmp 57), type := 0, pos := "solve.go:61", after := #[{ on := 10, ground := Ground.data }, { on := 5, ground := Ground.guard }], guard := some (5, false) }) (v := ?_) rfl (by kernel_rfl) (by kernel_rfl) (by kernel_rfl) (fun _ _ _ h => h) (Or.inl ⟨by kernel_rfl, ?_⟩) (by assumption) ?_
                rotate_left 1
                · intro w hSw
                  (try dsimp only at hSw)
                  go_simp <;> with_reducible rfl
                try simp only [Act.put]
                refine wpAnyH_take (i := 12) (oi := { dst := some 59, op := Op.fieldAddr 190 (Operand.tmp 58) 2, type := 0, pos := "solve.go:61", after := #[{ on := 11, ground := Ground.data }, { on := 5, ground := Ground.guard }], guard := some (5, false) }) (v := ?_) rfl (by kernel_rfl) (by kernel_rfl) (by kernel_rfl) (fun _ _ _ h => h) (Or.inl ⟨by kernel_rfl, ?_⟩) (by assumption) ?_
                rotate_left 1
                · intro w hSw
                  (try dsimp only at hSw)
                  go_simp <;> with_reducible rfl
                try simp only [Act.put]
                refine wpAnyH_take (i := 13) (oi := { dst := some 60, op := Op.load 127 (Operand.tmp 59), type := 127, pos := "solve.go:61", after := #[{ on := 12, ground := Ground.data }, { on := 5, ground := Ground.guard }], guard := some (5, false) }) (v := ?_) rfl (by kernel_rfl) (by kernel_rfl) (by kernel_rfl) (fun _ _ _ h => h) (Or.inl ⟨by kernel_rfl, ?_⟩) (by assumption) ?_
                rotate_left 1
                · intro w hSw
                  (try dsimp only at hSw)
                  go_simp <;> with_reducible rfl
                try simp only [Act.put]
                refine wpAnyH_ready (rs := [14]) (by kernel_rfl) (by simp) ?_
                refine AllReadyH.cons (o := { dst := some 61, op := Op.call { callee := Callee.value (Operand.func 116), args := #[Operand.tmp 56, Operand.tmp 60], argTypes := #[127, 127] }, type := 4, pos := "solve.go:61", after := #[{ on := 9, ground := Ground.data }, { on := 13, ground := Ground.data }, { on := 5, ground := Ground.chain }, { on := 5, ground := Ground.guard }], guard := some (5, false) }) rfl (fun K hK => ?_) ?_
                · skip
                  go_simp
                  go_at_call 116
                  refine (HC1.out _ k1).mono ?_
                  rintro e W1 ⟨rfl, K2W⟩
                  have C1 := HS2.out _ K2W
                  go_wp2_with fail
                  refine hK.out _ _ C1 (fun hHeld => ?_)
                  clear hK K
                  try simp only [Act.put]
                  refine wpAnyH_take (i := 15) (oi := { dst := some 62, op := Op.move (Operand.tmp 61), type := 4, pos := "solve.go:61", after := #[{ on := 14, ground := Ground.data }, { on := 14, ground := Ground.chain }, { on := 5, ground := Ground.guard }], guard := some (5, false) }) (v := ?_) rfl (by kernel_rfl) (by kernel_rfl) (by kernel_rfl) (fun _ _ _ h => h) (Or.inl ⟨by kernel_rfl, ?_⟩) (by assumption) ?_
                  rotate_left 1
                  · intro w hSw
                    (try dsimp only at hSw)
                    go_simp <;> with_reducible rfl
                  try simp only [Act.put]
                  refine wpAnyH_take (i := 16) (oi := { dst := some 63, op := Op.move (Operand.tmp 0), type := 127, pos := "solve.go:61", after := #[{ on := 15, ground := Ground.guard }], guard := some (15, true) }) (v := undef) rfl (by kernel_rfl) (by kernel_rfl) (by kernel_rfl) (fun _ _ _ h => h) (Or.inr ⟨by kernel_rfl, rfl⟩) (by assumption) ?_
                  try simp only [Act.put]
                  refine wpAnyH_take (i := 17) (oi := { dst := some 64, op := Op.nilCheck (Operand.tmp 63), type := 0, pos := "solve.go:61", after := #[{ on := 16, ground := Ground.data }, { on := 15, ground := Ground.guard }], guard := some (15, true) }) (v := undef) rfl (by kernel_rfl) (by kernel_rfl) (by kernel_rfl) (fun _ _ _ h => h) (Or.inr ⟨by kernel_rfl, rfl⟩) (by assumption) ?_
                  try simp only [Act.put]
                  refine wpAnyH_take (i := 18) (oi := { dst := some 65, op := Op.fieldAddr 190 (Operand.tmp 64) 3, type := 0, pos := "solve.go:61", after := #[{ on := 17, ground := Ground.data }, { on := 15, ground := Ground.guard }], guard := some (15, true) }) (v := undef) rfl (by kernel_rfl) (by kernel_rfl) (by kernel_rfl) (fun _ _ _ h => h) (Or.inr ⟨by kernel_rfl, rfl⟩) (by assumption) ?_
                  try simp only [Act.put]
                  refine wpAnyH_take (i := 19) (oi := { dst := some 66, op := Op.load 127 (Operand.tmp 65), type := 127, pos := "solve.go:61", after := #[{ on := 18, ground := Ground.data }, { on := 15, ground := Ground.guard }], guard := some (15, true) }) (v := undef) rfl (by kernel_rfl) (by kernel_rfl) (by kernel_rfl) (fun _ _ _ h => h) (Or.inr ⟨by kernel_rfl, rfl⟩) (by assumption) ?_
                  try simp only [Act.put]
                  refine wpAnyH_take (i := 20) (oi := { dst := some 67, op := Op.move (Operand.tmp 1), type := 127, pos := "solve.go:61", after := #[{ on := 15, ground := Ground.guard }], guard := some (15, true) }) (v := undef) rfl (by kernel_rfl) (by kernel_rfl) (by kernel_rfl) (fun _ _ _ h => h) (Or.inr ⟨by kernel_rfl, rfl⟩) (by assumption) ?_
                  try simp only [Act.put]
                  refine wpAnyH_take (i := 21) (oi := { dst := some 68, op := Op.nilCheck (Operand.tmp 67), type := 0, pos := "solve.go:61", after := #[{ on := 20, ground := Ground.data }, { on := 15, ground := Ground.guard }], guard := some (15, true) }) (v := undef) rfl (by kernel_rfl) (by kernel_rfl) (by kernel_rfl) (fun _ _ _ h => h) (Or.inr ⟨by kernel_rfl, rfl⟩) (by assumption) ?_
                  try simp only [Act.put]
                  refine wpAnyH_take (i := 22) (oi := { dst := some 69, op := Op.fieldAddr 190 (Operand.tmp 68) 3, type := 0, pos := "solve.go:61", after := #[{ on := 21, ground := Ground.data }, { on := 15, ground := Ground.guard }], guard := some (15, true) }) (v := undef) rfl (by kernel_rfl) (by kernel_rfl) (by kernel_rfl) (fun _ _ _ h => h) (Or.inr ⟨by kernel_rfl, rfl⟩) (by assumption) ?_
                  try simp only [Act.put]
                  refine wpAnyH_take (i := 23) (oi := { dst := some 70, op := Op.load 127 (Operand.tmp 69), type := 127, pos := "solve.go:61", after := #[{ on := 22, ground := Ground.data }, { on := 15, ground := Ground.guard }], guard := some (15, true) }) (v := undef) rfl (by kernel_rfl) (by kernel_rfl) (by kernel_rfl) (fun _ _ _ h => h) (Or.inr ⟨by kernel_rfl, rfl⟩) (by assumption) ?_
                  try simp only [Act.put]
                  refine wpAnyH_take (i := 24) (oi := { dst := some 71, op := Op.call { callee := Callee.value (Operand.func 116), args := #[Operand.tmp 66, Operand.tmp 70], argTypes := #[127, 127] }, type := 4, pos := "solve.go:61", after := #[{ on := 19, ground := Ground.data }, { on := 23, ground := Ground.data }, { on := 15, ground := Ground.chain }, { on := 15, ground := Ground.guard }], guard := some (15, true) }) (v := undef) rfl (by kernel_rfl) (by kernel_rfl) (by kernel_rfl) (fun _ _ _ h => h) (Or.inr ⟨by kernel_rfl, rfl⟩) (by assumption) ?_
                  try simp only [Act.put]
                  refine wpAnyH_take (i := 25) (oi := { dst := some 72, op := Op.pick (Operand.tmp 62) (Operand.tmp 71) (Operand.const (Value.bool false)), type := 4, pos := "solve.go:61", after := #[{ on := 15, ground := Ground.data }, { on := 24, ground := Ground.data }, { on := 5, ground := Ground.guard }], guard := some (5, false) }) (v := ?_) rfl (by kernel_rfl) (by kernel_rfl) (by kernel_rfl) (fun _ _ _ h => h) (Or.inl ⟨by kernel_rfl, ?_⟩) (by assumption) ?_
                  rotate_left 1
                  · intro w hSw
                    (try dsimp only at hSw)
                    go_simp <;> with_reducible rfl
                  try simp only [Act.put]
                  refine wpAnyH_take (i := 26) (oi := { dst := some 73, op := Op.pick (Operand.tmp 52) (Operand.const (Value.bool true)) (Operand.tmp 72), type := 4, pos := "solve.go:61", after := #[{ on := 5, ground := Ground.data }, { on := 25, ground := Ground.data }], guard := none }) (v := ?_) rfl (by kernel_rfl) (by kernel_rfl) (by kernel_rfl) (fun _ _ _ h => h) (Or.inl ⟨by kernel_rfl, ?_⟩) (by assumption) ?_
                  rotate_left 1
                  · intro w hSw
                    (try dsimp only at hSw)
                    go_simp <;> with_reducible rfl
                  try simp only [Act.put]
                  refine wpAnyH_take (i := 27) (oi := { dst := some 4, op := Op.assign (Operand.tmp 73), type := 4, pos := "solve.go:61", after := _, guard := none }) (v := ?_) rfl (by kernel_rfl) (by kernel_rfl) (by kernel_rfl) (fun _ _ _ h => h) (Or.inl ⟨by kernel_rfl, ?_⟩) (by assumption) ?_
                  rotate_left 1
                  · intro w hSw
                    (try dsimp only at hSw)
                    go_simp <;> with_reducible rfl
                  try simp only [Act.put]
                  refine wpAnyH_done (by kernel_rfl) ?_ _
                  go_wp2_with fail
                  simp only [List.setIfInBounds_toArray, List.set_cons_zero, List.set_cons_succ]
                  exact HF1.out trivial _ K2W
                exact AllReadyH.nil
              | true =>
                have HC3 := Lib.hid (HC2.out rfl)
                clear HC2
                go_region_held3 (fun w' => (w'.cell? ⟨p1, 1, none⟩ = some (.int .i64 2) ∧ w'.cell? ⟨p1, 2, none⟩ = some (.pointer (some (at0 pa))) ∧ w'.cell? ⟨p1, 3, none⟩ = some (.pointer (some (at0 pb)))) ∧ w'.cell? ⟨q1, 2, none⟩ = some (.pointer (some (at0 pc))) ∧ w'.cell? ⟨q1, 3, none⟩ = some (.pointer (some (at0 pd))))
                  (first
                    | exact HS1.out _ (by assumption)
                    | exact HS2.out _ (by assumption)
                    | exact HS.out _ (by assumption)
                    | go_keep
                    | assumption)
                  (first
                    | (go_at_call 116; ((with_reducible refine (HC1.out _ (by assumption)).mono ?_); rintro e W1 ⟨rfl, K2W⟩; have C1 := HS2.out _ K2W))
                    | (go_at_call 116; ((with_reducible refine (HC3.out _ (by assumption)).mono ?_); rintro e W2 ⟨rfl, FW, TW⟩; have C2 := HS.out _ TW)))
                all_goals
                  go_wp2_with fail
                  exact FW
end Go.Proofs.YtkkfdiidneoelaaGreatDoor

namespace Go.Proofs.YtkkfdiidneoelaaGreatDoor
open Go.RowKit

theorem pguess_info : (Tryz.prog.info? 127).map (fun i => (i.zero, i.size, i.bytes)) = some (some (.pointer none), 1, 8) := by kernel_rfl
abbrev pv (p : Nat) : Value := .pointer (some (at0 p))
/-- A slice of guesses, of an array of its own. -/
def Ps (B : Nat) (w : World) (us : List Nat) (v : Value) : Prop := w.ownsRow B 127 1 v us.length (us.map pv)
theorem Ps.nil (B : Nat) (w : World) : Ps B w [] (.slice none 0 0) := ⟨by simp, .inl ⟨rfl, rfl⟩⟩
theorem Ps.lt {B : Nat} {w : World} {l : List Nat} {v : Value} (h : Ps B w l v) {b : Nat} (hb : v.ownBlock = some b) : B ≤ b ∧ b < w.heap.size := World.ownsRow.lt h b hb
theorem Ps.keep {B : Nat} {w w' : World} {l : List Nat} {v : Value} (h : Ps B w l v) (hk : ∀ b, B ≤ b → b < w.heap.size → w'.heap[b]? = w.heap[b]?) : Ps B w' l v := owns_kept3 h (fun b hb => hk b (h.lt hb).1 (h.lt hb).2)
theorem Ps.below {B : Nat} {w w' : World} {l : List Nat} {v : Value} (h : Ps B w l v) (hb : Below w.heap.size w w') : Ps B w' l v := h.keep (fun b _ hl => hb.block b hl)
theorem Ps.less {B B' : Nat} {w : World} {l : List Nat} {v : Value} (h : Ps B w l v) (hb : B' ≤ B) : Ps B' w l v := owns_less h hb
theorem Ps.form {B : Nat} {w : World} {l : List Nat} {v : Value} (h : Ps B w l v) : ∃ A c, v = .slice A l.length c := by
  rcases h.2 with ⟨rfl, h0⟩ | ⟨g, cap, cur, rfl, _⟩
  · exact ⟨none, 0, by rw [h0]⟩
  · exact ⟨_, cap, rfl⟩
theorem Ps.cell {B : Nat} {w : World} {l : List Nat} {A : Option Addr} {n c : Nat} (h : Ps B w l (.slice A n c)) {j x : Nat} (hj : l[j]? = some x) : ∃ ad, A = some ad ∧ B ≤ ad.block ∧ ad.block < w.heap.size ∧ w.cell? (ad.add j) = some (pv x) := by
  rcases h.2 with ⟨_, h0⟩ | ⟨g, cap, cur, he, _⟩
  · have : l = [] := List.eq_nil_of_length_eq_zero h0
    subst this; simp at hj
  · injection he with e1 e2 e3
    subst e1
    have hg := h.lt (b := g) rfl
    exact ⟨_, rfl, hg.1, hg.2, World.ownsRow.cells h (g := g) rfl j _ (by simp [hj])⟩

/-- The blocks of some nodes. -/
def Nodes (ps qs us : List Nat) : Prop := us.length = qs.length ∧ ∀ i x : Nat, qs[i]? = some x → ∃ p, us[i]? = some p ∧ ps[x]? = some p
theorem Nodes.nil {ps : List Nat} : Nodes ps [] [] := ⟨rfl, fun i x h => by simp at h⟩
theorem Nodes.snoc {ps qs us : List Nat} {x p : Nat} (h : Nodes ps qs us) (hx : ps[x]? = some p) : Nodes ps (qs ++ [x]) (us ++ [p]) := by
  refine ⟨by simp [h.1], fun i y hi => ?_⟩
  rcases Nat.lt_or_ge i qs.length with hlt | hge
  · rw [List.getElem?_append_left hlt] at hi
    rw [List.getElem?_append_left (by rw [h.1]; exact hlt)]
    exact h.2 i y hi
  · rw [List.getElem?_append_right hge] at hi
    have h0 : i - qs.length = 0 := by
      have := (List.getElem?_eq_some_iff.1 hi).1
      simp at this; omega
    rw [h0] at hi
    simp at hi
    subst hi
    rw [List.getElem?_append_right (by rw [h.1]; exact hge), h.1, h0]
    exact ⟨p, by simp, hx⟩
theorem get_more {ps : List Nat} {x p : Nat} (h : ps[x]? = some p) (m : List Nat) : (ps ++ m)[x]? = some p := by rw [List.getElem?_append_left (List.getElem?_eq_some_iff.1 h).1]; exact h
theorem Nodes.more {ps qs us : List Nat} (h : Nodes ps qs us) (m : List Nat) : Nodes (ps ++ m) qs us := ⟨h.1, fun i x hi => by
  obtain ⟨p, h1, h2⟩ := h.2 i x hi
  exact ⟨p, h1, get_more h2 m⟩⟩

/-- So many different numbers below n are at most n. -/
theorem nodup_le : ∀ (n : Nat) (l : List Nat), l.Nodup → (∀ x ∈ l, x < n) → l.length ≤ n
  | 0, [], _, _ => Nat.le_refl _
  | 0, x :: r, _, h => absurd (h x (by simp)) (by omega)
  | n + 1, l, hd, h => by
    have h1 := nodup_le n (l.erase n) (hd.erase n) (fun x hx => by
      have h2 := List.mem_of_mem_erase hx
      have h3 := h x h2
      have h4 : x ≠ n := by
        rintro rfl
        exact (hd.not_mem_erase hx)
      omega)
    have h2 : l.length ≤ (l.erase n).length + 1 := by
      rw [List.length_erase]
      split <;> omega
    omega
theorem chain_nodes {G : Gr} {v : Nat → D} (hG : Good G) (hv : Can G v) : ∀ (ds : List D) (x : Nat), x < G.length → v x = chainD ds D.o →
    ∃ l : List Nat, l.length = ds.length ∧ l.Nodup ∧ ∀ r ∈ l, r < G.length ∧ ∃ es, v r = chainD es D.o ∧ es.length ≤ ds.length
  | [], _, _, _ => ⟨[], rfl, .nil, fun r h => by simp at h⟩
  | a :: t, x, hx, he => by
    obtain ⟨r, k, hk⟩ := hG.ends x hx
    have hr : v r = chainD (a :: t) D.o := (hv.sol.ends hk).symm.trans he
    obtain ⟨d, h1, h2⟩ := hk.at_
    obtain ⟨p, q, rfl, _, h4⟩ := hv.root_arr h1 h2 hr
    obtain ⟨l, g1, g2, g3⟩ := chain_nodes hG hv t q (hG.arrow r p q h1).2 h4
    refine ⟨r :: l, by simp [g1], List.nodup_cons.2 ⟨fun hm => ?_, g2⟩, fun s hs => ?_⟩
    · obtain ⟨_, es, e1, e2⟩ := g3 r hm
      have := chainD_len (hr.symm.trans e1)
      simp at this
      omega
    · rcases List.mem_cons.1 hs with rfl | hs
      · exact ⟨hk.lt.2, a :: t, hr, Nat.le_refl _⟩
      · obtain ⟨e0, es, e1, e2⟩ := g3 s hs
        exact ⟨e0, es, e1, by simp; omega⟩
theorem chain_le {G : Gr} {v : Nat → D} (hG : Good G) (hv : Can G v) {ds : List D} {x : Nat} (hx : x < G.length) (he : v x = chainD ds D.o) : ds.length ≤ G.length := by
  obtain ⟨l, h1, h2, h3⟩ := chain_nodes hG hv ds x hx he
  rw [← h1]
  exact nodup_le _ l h2 fun r hr => (h3 r hr).1

/-- What args answers: the nodes of the arguments. -/
def ArgsPost (ps : List Nat) (G : Gr) (vis : Nat → Int) (v : Nat → D) (ds : List D) (x : Nat) (w : World) (e : Ending) (w' : World) : Prop :=
  ∃ G' qs us val, e = .returned val ∧ Alike G G' ∧ Gs w' ps G' vis ∧ Turns ps w w' ∧ Nodes ps qs us ∧ Ps w.heap.size w' us val ∧ qs.map v = ds ∧ ∀ u, Sol G u → ∃ z, u x = chainD (qs.map u) z
/-- So far has args come: a root, and the arguments ahead of it. -/
def ArgsAt (ps : List Nat) (G : Gr) (vis : Nat → Int) (v : Nat → D) (ds : List D) (x : Nat) (w : World) (j : Nat) (g lv : Value) (wr : World) : Prop :=
  ∃ G' y p qs us rest d, g = pv p ∧ ps[y]? = some p ∧ G'[y]? = some d ∧ d.root = true ∧ Alike G G' ∧ Gs wr ps G' vis ∧ Turns ps w wr ∧ Nodes ps qs us ∧ Ps w.heap.size wr us lv ∧
    qs.map v ++ rest = ds ∧ rest.length = j ∧ v y = chainD rest D.o ∧ ∀ u, Sol G u → u x = chainD (qs.map u) (u y)

set_option maxRecDepth 100000 in
set_option maxHeartbeats 1600000 in
theorem args_any (ps : List Nat) (G : Gr) (vis : Nat → Int) (v : Nat → D) (ds : List D) (x p : Nat) (w : World) (hG : Good G) (hv : Can G v) (hlen : G.length ≤ 1000000) (hgs : Gs w ps G vis) (hx : ps[x]? = some p) (hd : v x = chainD ds D.o) :
    Calls Tryz.prog 114 #[pv p] w (ArgsPost ps G vis v ds x w) := by
  obtain ⟨i0, hi0, hz0, hz1, hz2⟩ := info_parts pguess_info
  have hxl : x < G.length := by have := hgs.len; have := (List.getElem?_eq_some_iff.1 hx).1; omega
  have hdl : ds.length ≤ 1000000 := Nat.le_trans (chain_le hG hv hxl hd) hlen
  have hold : ∀ b ∈ ps, b < w.heap.size := fun b hb => hgs.lt hb
  obtain ⟨r, k, he⟩ := hG.ends x hxl
  have HC := Lib.hid (last_any ps G vis x p r k w hG hgs hx he)
  have HE := Lib.hid he
  have HV := Lib.hid hv
  have HG := Lib.hid hG
  have HD := Lib.hid hd
  have HL := Lib.hid hdl
  have HZ1 := Lib.hid hz1
  have HZ2 := Lib.hid hz2
  clear hG hv hlen hgs hx hd he hdl hz1 hz2
  go_enter Tryz.func114, Tryz.ntmps114
  go_wp2_with fail
  refine HC.out.mono ?_
  rintro e w1 ⟨G1, p1, hp1, rfl, ha1, hg1, ht1⟩
  have H0 : Hid (ArgsAt ps G vis v ds x w ds.length (pv p1) (.slice none 0 0) w1) := by
    obtain ⟨d, h1, h2⟩ := HE.out.at_
    exact Lib.hid ⟨G1, r, p1, [], [], ds, d, rfl, hp1, ha1.stays r d h1 h2, h2, ha1, hg1, ht1, .nil, Ps.nil _ _, rfl, rfl, (HV.out.sol.ends HE.out).symm.trans HD.out, fun u hu => hu.ends HE.out⟩
  clear hp1 ha1 hg1 ht1
  go_wp2_with fail
  go_loopg [0, 3] ds.length (fun j g lv wr => ArgsAt ps G vis v ds x w j g lv wr)
  case atStart => exact H0.out
  case round =>
    obtain ⟨G', y, p', qs, us, rest, d, rfl, hy, hd, hr, ha, hg, ht, hn, hps, hsum, hrest, hvy, hu⟩ := hrel
    have hzr := ht.sav.size
    obtain ⟨sm, kd, fr, to_, hb, hl⟩ := hg.at_ _ _ _ hy hd
    have hv' := HV.out.alike ha
    cases rest with
    | nil =>
      have hdd := hv'.root_o hd hr hvy
      have hk : ¬ kd = 2 := by
        rcases hdd with rfl | rfl
        · rw [hl.2]; decide
        · rw [hl.2]; decide
      have hc1 := hb.cell 1
      simp at hc1
      have HF : Hid (ArgsPost ps G vis v ds x w (.returned u3) wr) := Lib.hid ⟨G', qs, us, u3, rfl, ha, hg, ht, hn, hps, by simpa using hsum, fun u h => ⟨_, hu u h⟩⟩
      clear hy hd hr ha hg ht hn hps hsum hrest hvy hu hb hl hv' hdd
      go_wp2_with fail
      go_ret
      exact HF.out
    | cons a t =>
      obtain ⟨a', b', rfl, hva, hvb⟩ := hv'.root_arr hd hr hvy
      obtain ⟨rfl, rfl, ⟨pa, hpa, rfl⟩, pb, hpb, rfl⟩ := hl
      have hc1 := hb.cell 1
      have hc2 := hb.cell 2
      simp at hc1 hc2
      have hbl := (ha.good.arrow y a' b' hd).2
      obtain ⟨s, l, hs⟩ := ha.good.ends b' hbl
      have hus : us.length + t.length + 1 = ds.length := by
        rw [← hsum, hn.1]
        simp
        omega
      have hcap : us.length + 1 ≤ 1000000 := by have := HL.out; omega
      have hvl : ∀ b, u3.ownBlock = some b → w.heap.size ≤ b ∧ b < wr.heap.size := fun b hb => hps.lt hb
      have hown1 : wr.ownsRow w.heap.size 127 1 u3 us.length (us.map pv) := hps
      have HR : Hid ((∀ u, Sol G u → u x = chainD ((qs ++ [a']).map u) (u b')) ∧ (qs ++ [a']).map v ++ t = ds ∧ Nodes ps (qs ++ [a']) (us ++ [pa]) ∧ t.length + 1 = gk ∧ v b' = chainD t D.o ∧ Alike G G' ∧ Ends G' b' s l ∧ ps[b']? = some pb ∧ Turns ps w wr) := by
        refine Lib.hid ⟨fun u h => ?_, by rw [← hsum, ← hva]; simp, hn.snoc hpa, hrest, hvb, ha, hs, hpb, ht⟩
        have h2 : u y = D.arr (u a') (u b') := ((ha.sol u).2 h) y _ hd
        rw [hu u h, h2, List.map_append, chainD_append]
        rfl
      have HN := Lib.hid hus
      have HY := Lib.hid hy
      clear hy hd hr ha ht hn hps hsum hrest hvy hu hv' hpa hpb hs hva hvb hus hbl
      have HGS := Lib.hid hg
      have HB := Lib.hid hb
      clear hg hb
      have hB2 : Below w.heap.size wr (wr.alloc (.cells #[pv pa] 127)) := (Below.refl _ _).alloc hzr _
      have HB2 := Lib.hid hB2
      clear hB2
      have HPP := Lib.hid (List.mem_of_getElem? HY.out)
      go_wp2_with
        (at_builtin
         refine wpList_append_lies _ rfl _ _ _ rfl w.heap.size 127 i0 _ 1 8 Tryz.underlying124 hi0 hz0 HZ1.out HZ2.out rfl (by omega) u3 _ (us.map pv) (by rfl) (hown1.alloc _)
           ⟨wr.heap.size, 0, none⟩ 1 1 [pv pa] (by rfl) (by rfl) (World.news_of_block (cs := #[pv pa]) (t := 127) (fr := (0, 0)) (heap_alloc_new wr _)) (fun u hu => by rw [List.mem_singleton.1 hu]; rfl) (by omega) (by simp only [maxLen]; omega) (by omega) (by simp; omega) (wr.heap.size + 1) (by simp) ?_
         intro gg cap2 w3 hown3 hgrow hat3 hlt3
         have HB3 := Lib.hid (HB2.out.grown hgrow (by simp; omega) (fun b hb => (hvl b hb).1))
         have hbk3 : Blk w3 p' 190 (gcells none 2 (some (at0 pa)) (some (at0 pb)) (vis y)) := (HB3.out.block p' (hold p' HPP.out)).trans HB.out
         have hc3 := hbk3.cell 3
         simp at hc3
         clear hbk3 hgrow hat3 hlt3
         have hown4 := Lib.hid hown3
         clear hown3)
      refine (last_any ps G' vis b' pb s l w3 (HR.out.2.2.2.2.2.1.good) (HGS.out.bel HB3.out hold) HR.out.2.2.2.2.2.2.2.1 HR.out.2.2.2.2.2.2.1).mono ?_
      rintro e w4 ⟨G4, p4, hp4, rfl, ha4, hg4, ht4⟩
      have HT : Hid (ArgsAt ps G vis v ds x w t.length (pv p4) (.slice (some ⟨gg, 0, none⟩) (us.length + 1) cap2) w4) := by
        obtain ⟨h1, h2, h3, h4, h5, h6, h7, h8, h9⟩ := HR.out
        obtain ⟨d, e1, e2⟩ := h7.at_
        have o4 : Ps w.heap.size w4 (us ++ [pa]) (.slice (some ⟨gg, 0, none⟩) (us.length + 1) cap2) := by
          have o3 : Ps w.heap.size w3 (us ++ [pa]) (.slice (some ⟨gg, 0, none⟩) (us.length + 1) cap2) := by
            unfold Ps
            rw [List.map_append, List.length_append]
            exact hown4.out
          exact o3.keep fun b hb1 hb2 => ht4.sav.block b hb2 (fun hm => by have := hold b hm; omega)
        exact Lib.hid ⟨G4, s, p4, qs ++ [a'], us ++ [pa], t, d, rfl, hp4, ha4.stays s d e1 e2, e2, h6.trans ha4, hg4, (h9.bel HB3.out hold).trans ht4, h3, o4, h2, rfl, ((HV.out.alike h6).sol.ends h7).symm.trans h5,
          fun u hu => (h1 u hu).trans (by rw [((h6.sol u).2 hu).ends h7])⟩
      have HK : Hid (t.length < gk) := Lib.hid (by have := HR.out.2.2.2.1; omega)
      clear hp4 ha4 hg4 ht4
      go_wp2_with fail
      go_roundg t.length
      case measure => exact HK.out
      case rel => exact HT.out
end Go.Proofs.YtkkfdiidneoelaaGreatDoor
