/-
  TermOwn: no function of term modifies its arguments, and what they return shares no memory with these.
-/
import Derived.Test.YtmggccgjhjknpaaTFree
import Derived.Test.YtmggccgjhjknpaaTApply
import Derived.Test.YtmggccgjhjknpaaTAlive
import Derived.Test.YtmggccgjhjknpaaTCheck
import Derived.Test.YtmggccgjhjknpaaRefSort
import Derived.Test.YtmggccgjhjknpaaTCopy
import Derived.Test.YtmggccgjhjknpaaTTurn
import Derived.Test.YtmggccgjhjknpaaCopyL
import Derived.Deep.RegionHeld3
namespace Go.Proofs.Ytmggccgjhjknpaa
open Go.RowKit

theorem Blk_two (w : World) (o o' : Obj) (t : Nat) (xs : Array Value) : Blk (((w.alloc o).alloc o').alloc (.cells xs t)) (w.heap.size + 1 + 1) t xs := by
  simpa using Blk.new ((w.alloc o).alloc o') t xs

/-- The arguments and their boxes, kept. -/
structure OW (p : Pl) (v0 v1 v2 : Value) (t : T) (v : Value) (gs : List T) (u : Value) (P : Nat → Prop) (B : Nat) (w0 : World) (M : Nat) (w : World) : Prop where
  bP : Blk w B 25 #[v0, v1, v2]
  bT : Blk w (B + 1) 35 #[.int .i64 t.kind, .int .i64 t.num, v]
  bA : Blk w (B + 1 + 1) 35 #[.int .i64 0, .int .i64 0, u]
  iP : PlIn w 0 B p v0 v1 v2
  iT : t.In w P v
  oT : ∀ b, P b → b < B
  iG : T.InL w P gs u
  hM : B + 3 ≤ M
  hz : M ≤ w.heap.size
  bel : Below B w0 w
theorem OW.next {p : Pl} {v0 v1 v2 : Value} {t : T} {v : Value} {gs : List T} {u : Value} {P : Nat → Prop} {B : Nat} {w0 : World} {M : Nat} {w w' : World} (h : OW p v0 v1 v2 t v gs u P B w0 M w) (hb : Below M w w') : OW p v0 v1 v2 t v gs u P B w0 M w' :=
  ⟨h.bP.below hb (by have := h.hM; omega), h.bT.below hb (by have := h.hM; omega), h.bA.below hb (by have := h.hM; omega), h.iP.below hb (by have := h.hM; omega), h.iT.below hb (fun b hh => by have := h.oT b hh; have := h.hM; omega), h.oT, T.In.below h.iG hb (fun b hh => by have := h.oT b hh; have := h.hM; omega), h.hM, Nat.le_trans h.hz hb.size, h.bel.trans (hb.mono (by have := h.hM; omega))⟩
theorem OW.nx {p : Pl} {v0 v1 v2 : Value} {t : T} {v : Value} {gs : List T} {u : Value} {P : Nat → Prop} {B : Nat} {w0 : World} {M : Nat} {w w' : World} (h : OW p v0 v1 v2 t v gs u P B w0 M w) (hb : Below w.heap.size w w') : OW p v0 v1 v2 t v gs u P B w0 M w' := h.next (hb.mono h.hz)
theorem OW.up {p : Pl} {v0 v1 v2 : Value} {t : T} {v : Value} {gs : List T} {u : Value} {P : Nat → Prop} {B : Nat} {w0 : World} {M M' : Nat} {w : World} (h : OW p v0 v1 v2 t v gs u P B w0 M w) (h1 : M ≤ M') (h2 : M' ≤ w.heap.size) : OW p v0 v1 v2 t v gs u P B w0 M' w :=
  ⟨h.bP, h.bT, h.bA, h.iP, h.iT, h.oT, h.iG, Nat.le_trans h.hM h1, h2, h.bel⟩
theorem OW.old {p : Pl} {v0 v1 v2 : Value} {t : T} {v : Value} {gs : List T} {u : Value} {P : Nat → Prop} {B : Nat} {w0 : World} {M : Nat} {w : World} (h : OW p v0 v1 v2 t v gs u P B w0 M w) : Old P w := fun b hb => by have := h.oT b hb; have := h.hM; have := h.hz; omega
theorem OW.hB {p : Pl} {v0 v1 v2 : Value} {t : T} {v : Value} {gs : List T} {u : Value} {P : Nat → Prop} {B : Nat} {w0 : World} {M : Nat} {w : World} (h : OW p v0 v1 v2 t v gs u P B w0 M w) : B ≤ w.heap.size := by have := h.hM; have := h.hz; omega
theorem OW.start {p : Pl} {v0 v1 v2 : Value} {t : T} {v : Value} {gs : List T} {u : Value} {w : World} {hi : Nat} {P Q : Nat → Prop} (hp : PlIn w 0 hi p v0 v1 v2) (hhi : hi ≤ w.heap.size) (hin : t.In w P v) (hold : Old P w) (hins : T.InL w Q gs u) (holds : Old Q w) :
    OW p v0 v1 v2 t v gs u (fun b => b < w.heap.size) w.heap.size w (w.heap.size + 3) (((w.alloc (.cells #[v0, v1, v2] 25)).alloc (.cells #[.int .i64 t.kind, .int .i64 t.num, v] 35)).alloc (.cells #[.int .i64 0, .int .i64 0, u] 35)) := by
  have hw3 : Below w.heap.size w (((w.alloc (.cells #[v0, v1, v2] 25)).alloc (.cells #[.int .i64 t.kind, .int .i64 t.num, v] 35)).alloc (.cells #[.int .i64 0, .int .i64 0, u] 35)) := (((Below.refl _ _).alloc (Nat.le_refl _) _).alloc (by simp) _).alloc (by simp; omega) _
  have hpm : PlIn w 0 w.heap.size p v0 v1 v2 := by
    refine ⟨?_, S.In.more (Nat.le_refl _) hhi _ hp.f, S.In.more (Nat.le_refl _) hhi _ hp.r⟩
    obtain ⟨A, n, c, h1, h2, h3, h4, h5, h6⟩ := hp.s
    exact ⟨A, n, c, h1, h2, h3, h4, h5.more (fun b hb => by omega), h6⟩
  exact ⟨((Blk.new _ _ _).alloc _).alloc _, (Blk1 _ _ _ _).alloc _, Blk_two _ _ _ _ _, hpm.below hw3 (Nat.le_refl _), (hin.old hold hw3).more (fun b hb => hold b hb) _, fun _ hh => hh, T.In.more (fun b hb => holds b hb) _ (T.In.old hins holds hw3), Nat.le_refl _, by simp, hw3⟩
theorem OW.nine {p : Pl} {v0 v1 v2 : Value} {t : T} {v : Value} {gs : List T} {u : Value} {P : Nat → Prop} {B : Nat} {w0 : World} {M : Nat} {w : World} (h : OW p v0 v1 v2 t v gs u P B w0 M w) :
    (w.cell? ⟨B, 0, none⟩ = some v0 ∧ w.cell? ⟨B, 1, none⟩ = some v1 ∧ w.cell? ⟨B, 2, none⟩ = some v2) ∧ (w.cell? ⟨B + 1, 0, none⟩ = some (.int .i64 t.kind) ∧ w.cell? ⟨B + 1, 1, none⟩ = some (.int .i64 t.num) ∧ w.cell? ⟨B + 1, 2, none⟩ = some v) ∧ w.cell? ⟨B + 1 + 1, 0, none⟩ = some (.int .i64 0) ∧ w.cell? ⟨B + 1 + 1, 1, none⟩ = some (.int .i64 0) ∧ w.cell? ⟨B + 1 + 1, 2, none⟩ = some u := by
  have a0 := h.bP.cell 0
  have a1 := h.bP.cell 1
  have a2 := h.bP.cell 2
  have b0 := h.bT.cell 0
  have b1 := h.bT.cell 1
  have b2 := h.bT.cell 2
  have c0 := h.bA.cell 0
  have c1 := h.bA.cell 1
  have c2 := h.bA.cell 2
  simp at a0 a1 a2 b0 b1 b2 c0 c1 c2
  exact ⟨⟨a0, a1, a2⟩, ⟨b0, b1, b2⟩, c0, c1, c2⟩
/-- A copy of a term in its box, below M. -/
structure CT (t : T) (x : Value) (g M : Nat) (w : World) : Prop where
  b : Blk w g 35 #[.int .i64 t.kind, .int .i64 t.num, x]
  i : t.In w (fun b => b < M) x
  hg : g < M
theorem CT.next {t : T} {x : Value} {g M : Nat} {w w' : World} (h : CT t x g M w) (hb : Below M w w') : CT t x g M w' := ⟨h.b.below hb h.hg, h.i.below hb (fun _ hh => hh), h.hg⟩
theorem CT.up {t : T} {x : Value} {g M M' : Nat} {w : World} (h : CT t x g M w) (h1 : M ≤ M') : CT t x g M' w := ⟨h.b, h.i.more (fun b hh => Nat.lt_of_lt_of_le hh h1) _, Nat.lt_of_lt_of_le h.hg h1⟩
theorem CT.new {t : T} {x : Value} {us : List Value} {B : Nat} {w : World} (h : Mk B w t.args x us) : CT t x w.heap.size (w.heap.size + 1) (w.alloc (.cells #[.int .i64 t.kind, .int .i64 t.num, x] 35)) := by
  have hb : Below w.heap.size w (w.alloc (.cells #[.int .i64 t.kind, .int .i64 t.num, x] 35)) := (Below.refl _ _).alloc (Nat.le_refl _) _
  exact ⟨Blk.new _ _ _, (h.term.below hb (fun b hh => hh.2)).more (fun b hh => by have := hh.2; omega) _, by omega⟩
/-- A copy of a sort in its box, below M. -/
structure CS (s : S) (x : Value) (g M : Nat) (w : World) : Prop where
  b : Blk w g 40 #[x]
  i : s.In w 0 M x
  hg : g < M
theorem CS.next {s : S} {x : Value} {g M : Nat} {w w' : World} (h : CS s x g M w) (hb : Below M w w') : CS s x g M w' := ⟨h.b.below hb h.hg, h.i.below hb (Nat.le_refl _), h.hg⟩
theorem CS.up {s : S} {x : Value} {g M M' : Nat} {w : World} (h : CS s x g M w) (h1 : M ≤ M') : CS s x g M' w := ⟨h.b, S.In.more (Nat.le_refl _) h1 _ h.i, Nat.lt_of_lt_of_le h.hg h1⟩
theorem CS.new {s : S} {x : Value} {fp : List Nat} {B : Nat} {w : World} (h : s.Sep w x fp) (hfp : ∀ b ∈ fp, B ≤ b ∧ b < w.heap.size) : CS s x w.heap.size (w.heap.size + 1) (w.alloc (.cells #[x] 40)) := by
  have hb : Below w.heap.size w (w.alloc (.cells #[x] 40)) := (Below.refl _ _).alloc (Nat.le_refl _) _
  have hi : s.In w 0 w.heap.size x := h.in_ _ (fun b hh => ⟨Nat.zero_le _, (hfp b hh).2⟩)
  exact ⟨Blk.new _ _ _, S.In.more (Nat.le_refl _) (Nat.le_succ _) _ (hi.below hb (Nat.le_refl _)), by omega⟩
/-- The arguments, and copies of all of them. -/
structure OC (p : Pl) (v0 v1 v2 : Value) (t : T) (v : Value) (gs : List T) (u : Value) (P : Nat → Prop) (B : Nat) (w0 : World) (xw xb xr xf : Value) (gw gb gr gf : Nat) (M : Nat) (w : World) : Prop where
  k : OW p v0 v1 v2 t v gs u P B w0 M w
  cw : CT t xw gw M w
  cb : CT (.mk 0 0 gs) xb gb M w
  cr : CS (.mk p.params) xr gr M w
  cf : CS (.mk p.funs) xf gf M w
theorem OC.next {p : Pl} {v0 v1 v2 : Value} {t : T} {v : Value} {gs : List T} {u : Value} {P : Nat → Prop} {B : Nat} {w0 : World} {xw xb xr xf : Value} {gw gb gr gf : Nat} {M : Nat} {w w' : World} (h : OC p v0 v1 v2 t v gs u P B w0 xw xb xr xf gw gb gr gf M w) (hb : Below M w w') : OC p v0 v1 v2 t v gs u P B w0 xw xb xr xf gw gb gr gf M w' := ⟨h.k.next hb, h.cw.next hb, h.cb.next hb, h.cr.next hb, h.cf.next hb⟩
theorem OC.nx {p : Pl} {v0 v1 v2 : Value} {t : T} {v : Value} {gs : List T} {u : Value} {P : Nat → Prop} {B : Nat} {w0 : World} {xw xb xr xf : Value} {gw gb gr gf : Nat} {M : Nat} {w w' : World} (h : OC p v0 v1 v2 t v gs u P B w0 xw xb xr xf gw gb gr gf M w) (hb : Below w.heap.size w w') : OC p v0 v1 v2 t v gs u P B w0 xw xb xr xf gw gb gr gf M w' := h.next (hb.mono h.k.hz)
theorem OC.nx2 {p : Pl} {v0 v1 v2 : Value} {t : T} {v : Value} {gs : List T} {u : Value} {P : Nat → Prop} {B : Nat} {w0 : World} {xw xb xr xf : Value} {gw gb gr gf : Nat} {M : Nat} {w W w' : World} (h : OC p v0 v1 v2 t v gs u P B w0 xw xb xr xf gw gb gr gf M w) (hb : Below W.heap.size W w') (hX : Below w.heap.size w W) : OC p v0 v1 v2 t v gs u P B w0 xw xb xr xf gw gb gr gf M w' := (h.nx hX).nx hb
theorem OC.nine {p : Pl} {v0 v1 v2 : Value} {t : T} {v : Value} {gs : List T} {u : Value} {P : Nat → Prop} {B : Nat} {w0 : World} {xw xb xr xf : Value} {gw gb gr gf : Nat} {M : Nat} {w : World} (h : OC p v0 v1 v2 t v gs u P B w0 xw xb xr xf gw gb gr gf M w) : (w.cell? ⟨B, 0, none⟩ = some v0 ∧ w.cell? ⟨B, 1, none⟩ = some v1 ∧ w.cell? ⟨B, 2, none⟩ = some v2) ∧ (w.cell? ⟨B + 1, 0, none⟩ = some (.int .i64 t.kind) ∧ w.cell? ⟨B + 1, 1, none⟩ = some (.int .i64 t.num) ∧ w.cell? ⟨B + 1, 2, none⟩ = some v) ∧ w.cell? ⟨B + 1 + 1, 0, none⟩ = some (.int .i64 0) ∧ w.cell? ⟨B + 1 + 1, 1, none⟩ = some (.int .i64 0) ∧ w.cell? ⟨B + 1 + 1, 2, none⟩ = some u := h.k.nine
theorem OC.nine_set {p : Pl} {v0 v1 v2 : Value} {t : T} {v : Value} {gs : List T} {u : Value} {P : Nat → Prop} {B : Nat} {w0 : World} {xw xb xr xf : Value} {gw gb gr gf : Nat} {M : Nat} {w : World} (h : OC p v0 v1 v2 t v gs u P B w0 xw xb xr xf gw gb gr gf M w) {g : Nat} (hg : M ≤ g) (x : Value) : ((w.setCell ⟨g, 0, none⟩ x).cell? ⟨B, 0, none⟩ = some v0 ∧ (w.setCell ⟨g, 0, none⟩ x).cell? ⟨B, 1, none⟩ = some v1 ∧ (w.setCell ⟨g, 0, none⟩ x).cell? ⟨B, 2, none⟩ = some v2) ∧ ((w.setCell ⟨g, 0, none⟩ x).cell? ⟨B + 1, 0, none⟩ = some (.int .i64 t.kind) ∧ (w.setCell ⟨g, 0, none⟩ x).cell? ⟨B + 1, 1, none⟩ = some (.int .i64 t.num) ∧ (w.setCell ⟨g, 0, none⟩ x).cell? ⟨B + 1, 2, none⟩ = some v) ∧ (w.setCell ⟨g, 0, none⟩ x).cell? ⟨B + 1 + 1, 0, none⟩ = some (.int .i64 0) ∧ (w.setCell ⟨g, 0, none⟩ x).cell? ⟨B + 1 + 1, 1, none⟩ = some (.int .i64 0) ∧ (w.setCell ⟨g, 0, none⟩ x).cell? ⟨B + 1 + 1, 2, none⟩ = some u := (h.next ((Below.refl _ _).setCell hg x)).nine
/-- .. and a sort in its box, in an array of its own. -/
structure OE (p : Pl) (v0 v1 v2 : Value) (t : T) (v : Value) (gs : List T) (u : Value) (P : Nat → Prop) (B : Nat) (w0 : World) (xw xb xr xf : Value) (gw gb gr gf : Nat) (M : Nat) (s : S) (x : Value) (g5 : Nat) (w : World) : Prop where
  k : OC p v0 v1 v2 t v gs u P B w0 xw xb xr xf gw gb gr gf M w
  b5 : Blk w g5 40 #[x]
  m5 : M ≤ g5
  top : TopS M w s x
  ne : ∀ b, x.ownBlock = some b → b ≠ g5
theorem OE.late {p : Pl} {v0 v1 v2 : Value} {t : T} {v : Value} {gs : List T} {u : Value} {P : Nat → Prop} {B : Nat} {w0 : World} {xw xb xr xf : Value} {gw gb gr gf : Nat} {M lo : Nat} {s : S} {x : Value} {w : World} (h : OC p v0 v1 v2 t v gs u P B w0 xw xb xr xf gw gb gr gf M w) (ht : TopS lo w s x) (hlo : M ≤ lo) : OE p v0 v1 v2 t v gs u P B w0 xw xb xr xf gw gb gr gf M s x w.heap.size (w.alloc (.cells #[x] 40)) := by
  have hb : Below w.heap.size w (w.alloc (.cells #[x] 40)) := (Below.refl _ _).alloc (Nat.le_refl _) _
  obtain ⟨us, h1, h2⟩ := ht
  exact ⟨h.nx hb, Blk.new _ _ _, h.k.hz, ⟨us, owns_less (owns_kept3 h1 (fun b hh => hb.block b (h1.lt b hh).2)) hlo, h2⟩, fun b hh => by have := (h1.lt b hh).2; omega⟩
theorem OE.early {p : Pl} {v0 v1 v2 : Value} {t : T} {v : Value} {gs : List T} {u : Value} {P : Nat → Prop} {B : Nat} {w0 : World} {xw xb xr xf : Value} {gw gb gr gf : Nat} {M lo g5 : Nat} {s : S} {x y : Value} {w : World} (h : OC p v0 v1 v2 t v gs u P B w0 xw xb xr xf gw gb gr gf M w) (ht : TopS lo w s x) (hlo : M ≤ lo) (h5 : Blk w g5 40 #[y]) (h6 : g5 < lo) (h7 : M ≤ g5) : OE p v0 v1 v2 t v gs u P B w0 xw xb xr xf gw gb gr gf M s x g5 (w.setCell ⟨g5, 0, none⟩ x) := by
  obtain ⟨us, h1, h2⟩ := ht
  exact ⟨h.next ((Below.refl _ _).setCell h7 x), (h5.set_ 0 x).eq_ rfl, h7, ⟨us, owns_less (owns_kept3 h1 (fun b hh => Below.heap_setCell w ⟨g5, 0, none⟩ x b (by have := (h1.lt b hh).1; show b ≠ g5; omega))) hlo, h2⟩, fun b hh => by have := (h1.lt b hh).1; omega⟩
/-- What the loop over the sort's arguments holds. -/
def Stp (p : Pl) (v0 v1 v2 : Value) (t : T) (v : Value) (gs : List T) (u : Value) (P : Nat → Prop) (B : Nat) (w0 : World) (xw xb xr xf : Value) (gw gb gr gf : Nat) (M : Nat) (A0 : Option Addr) (n c : Nat) (g5 : Nat) (i : Value) (w : World) : Prop :=
  ∃ k : Nat, k ≤ n ∧ n ≤ 9223372036854775807 ∧ i = .int .i64 k ∧ OC p v0 v1 v2 t v gs u P B w0 xw xb xr xf gw gb gr gf M w ∧ Blk w g5 40 #[.slice A0 n c] ∧
    (k < n → ∃ ga cs, A0 = some ⟨ga, 0, none⟩ ∧ Blk w ga 40 cs ∧ M ≤ ga ∧ ga ≠ g5 ∧ n ≤ cs.size ∧ ∀ j, k ≤ j → j < n → ∃ A1 n1 c1, cs[j]? = some (.slice A1 n1 c1) ∧ n1 ≤ 1000)
theorem OE.stp {p : Pl} {v0 v1 v2 : Value} {t : T} {v : Value} {gs : List T} {u : Value} {P : Nat → Prop} {B : Nat} {w0 : World} {xw xb xr xf : Value} {gw gb gr gf : Nat} {M g5 n c : Nat} {s : S} {A0 : Option Addr} {w : World} (h : OE p v0 v1 v2 t v gs u P B w0 xw xb xr xf gw gb gr gf M s (.slice A0 n c) g5 w) : Stp p v0 v1 v2 t v gs u P B w0 xw xb xr xf gw gb gr gf M A0 n c g5 (.int .i64 0) w := by
  obtain ⟨us, h1, h2⟩ := h.top
  have hnm : n ≤ 9223372036854775807 := by
    rcases h1.2 with ⟨he, _⟩ | ⟨g, cap, cur, he, _, _, hn, hm, _⟩
    · injection he with _ e _; omega
    · injection he with _ e2 _
      simp only [maxLen] at hm
      omega
  refine ⟨0, Nat.zero_le _, hnm, rfl, h.k, h.b5, fun h0 => ?_⟩
  rcases h1.2 with ⟨he, _⟩ | ⟨g, cap, cur, he, hB, hh, hn, _, hz, ht⟩
  · injection he with _ e _; omega
  · injection he with e1 e2 e3
    subst e1
    refine ⟨g, cur, rfl, hh, hB, h.ne g rfl, by omega, fun j _ hj => ?_⟩
    have hl := h1.1
    have hju : j < us.length := by omega
    obtain ⟨A1, n1, c1, e4, e5⟩ := h2 us[j] (List.getElem_mem hju)
    refine ⟨A1, n1, c1, ?_, e5⟩
    have e6 : cur.toList[j]? = us[j]? := by rw [← ht, List.getElem?_take_of_lt (by omega)]
    rw [← e4, ← Array.getElem?_toList, e6]
    exact List.getElem?_eq_getElem hju
theorem Mk.eL {B : Nat} {w : World} {l : List T} {v : Value} {us : List Value} (h : Mk B w l v us) : (T.mk 0 0 l).EIn w (fun b => B ≤ b ∧ b < w.heap.size) v := T.NIn.ein _ (Mk.nterm (t := .mk 0 0 l) h)

/-- A term with few arguments. -/
def T.short (t : T) : Prop := t.args.length ≤ 1000
theorem sortsB_count {m : Nat} {l : List S} (h : sortsB m l = true) : (S.mk l).count ≤ 60 * m + 1 := by
  simp only [sortsB, Bool.and_eq_true, decide_eq_true_eq] at h
  have h2 : ∀ l : List S, l.all S.ok = true → S.countL l ≤ 60 * l.length := by
    intro l
    induction l with
    | nil => intro _; simp [S.countL]
    | cons x r ih =>
      intro hl
      simp only [List.all_cons, Bool.and_eq_true] at hl
      have h3 := S.ok_count hl.1
      have h4 := ih hl.2
      simp only [S.countL, List.length_cons]
      omega
  have h3 := h2 l h.2
  have h4 : 60 * l.length ≤ 60 * m := Nat.mul_le_mul_left 60 h.1
  simp only [S.count]
  omega

set_option maxHeartbeats 6400000 in
set_option maxRecDepth 100000 in
theorem lawOwnT_any (p : Pl) (v0 v1 v2 : Value) (t : T) (v : Value) (gs : List T) (u : Value) (w : World) (hi : Nat) (P Q : Nat → Prop) (hwf : t.wf) (hp : PlIn w 0 hi p v0 v1 v2) (hhi : hi ≤ w.heap.size) (hin : t.In w P v) (hold : Old P w) (hins : T.InL w Q gs u) (holds : Old Q w) :
    Calls Try.prog 13 #[.agg #[v0, v1, v2], .agg #[.int .i64 t.kind, .int .i64 t.num, v], u] w fun e w' => e = .returned (.bool true) ∧ Below w.heap.size w w' := by
  have k0 := OW.start hp hhi hin hold hins holds
  obtain ⟨A0, n0, c0, rfl⟩ := hp.s.form
  obtain ⟨A1, n1, c1, rfl⟩ := hp.f.form
  obtain ⟨A2, n2, c2, rfl⟩ := hp.r.form
  obtain ⟨A, n, c, rfl⟩ := hin.form
  obtain ⟨Au, nu, cu, rfl⟩ := T.In.form hins
  have hnu := T.InL.len hins
  subst hnu
  have HA := Lib.hid aliveT_any
  have HN1 := Lib.hid (nodesT_any _ t (.slice A n c) 1000 _ _ (Nat.le_refl _) (by omega) (by omega) k0.iT k0.old)
  have HN2 := Lib.hid (fun w' (k : OW p (.slice A0 n0 c0) (.slice A1 n1 c1) (.slice A2 n2 c2) t (.slice A n c) gs (.slice Au gs.length cu) (fun b => b < w.heap.size) w.heap.size w (w.heap.size + 3) w') => nodesT_any _ (.mk 0 0 gs) (.slice Au gs.length cu) 1000 w' _ (Nat.le_refl _) (by omega) (by omega) k.iG k.old)
  have HIs := Lib.hid (fun w' (k : OW p (.slice A0 n0 c0) (.slice A1 n1 c1) (.slice A2 n2 c2) t (.slice A n c) gs (.slice Au gs.length cu) (fun b => b < w.heap.size) w.heap.size w (w.heap.size + 3) w') => refIs_any p _ _ _ w' w.heap.size k.iP k.hB)
  simp only [T.kind, T.num] at HN2
  clear hp hin hins
  by_cases hl20 : 20 < gs.length
  · clear HN1 HN2 HIs
    go_enter Try.func13, Try.ntmps13
    go_wp2_with fail
    refine (HA.out _).mono ?_
    rintro e wE ⟨rfl, bE⟩
    have kE := k0.nx bE
    go_wp2_with fail
    go_ret
    exact ⟨rfl, kE.bel⟩
  · by_cases hn1 : 1000 < t.count
    · have hN : 1000 < min (t.count : Int) (1000 + 1) := by omega
      generalize min (t.count : Int) (1000 + 1) = N1 at *
      clear HN2 HIs
      go_enter Try.func13, Try.ntmps13
      go_wp2_with fail
      refine HN1.out.mono ?_
      rintro e w1 ⟨rfl, b1⟩
      have k1 := k0.nx b1
      obtain ⟨⟨x0, x1, x2⟩, ⟨y0, y1, y2⟩, z0, z1, z2⟩ := k1.nine
      go_wp2_with fail
      refine (HA.out _).mono ?_
      rintro e wE ⟨rfl, bE⟩
      have kE := k1.nx bE
      go_wp2_with fail
      go_ret
      exact ⟨rfl, kE.bel⟩
    · have hN : min (t.count : Int) (1000 + 1) ≤ 1000 := by omega
      generalize min (t.count : Int) (1000 + 1) = N1 at *
      by_cases hn2 : 1000 < (T.mk 0 0 gs).count
      · have hM : 1000 < min (((T.mk 0 0 gs).count : Nat) : Int) (1000 + 1) := by omega
        generalize min (((T.mk 0 0 gs).count : Nat) : Int) (1000 + 1) = N2 at *
        clear HIs
        go_enter Try.func13, Try.ntmps13
        go_wp2_with fail
        refine HN1.out.mono ?_
        rintro e w1 ⟨rfl, b1⟩
        have k1 := k0.nx b1
        obtain ⟨⟨x0, x1, x2⟩, ⟨y0, y1, y2⟩, z0, z1, z2⟩ := k1.nine
        have HN2a := Lib.hid (HN2.out _ k1)
        go_wp2_with fail
        refine HN2a.out.mono ?_
        rintro e w2 ⟨rfl, b2⟩
        have k2 := k1.nx b2
        clear x0 x1 x2 y0 y1 y2 z0 z1 z2
        obtain ⟨⟨x0, x1, x2⟩, ⟨y0, y1, y2⟩, z0, z1, z2⟩ := k2.nine
        go_wp2_with fail
        refine (HA.out _).mono ?_
        rintro e wE ⟨rfl, bE⟩
        have kE := k2.nx bE
        go_wp2_with fail
        go_ret
        exact ⟨rfl, kE.bel⟩
      · have hM : min (((T.mk 0 0 gs).count : Nat) : Int) (1000 + 1) ≤ 1000 := by omega
        generalize min (((T.mk 0 0 gs).count : Nat) : Int) (1000 + 1) = N2 at *
        cases hpo : p.ok with
        | false =>
          rw [hpo] at HIs
          clear hpo
          go_enter Try.func13, Try.ntmps13
          go_wp2_with fail
          refine HN1.out.mono ?_
          rintro e w1 ⟨rfl, b1⟩
          have k1 := k0.nx b1
          obtain ⟨⟨x0, x1, x2⟩, ⟨y0, y1, y2⟩, z0, z1, z2⟩ := k1.nine
          have HN2a := Lib.hid (HN2.out _ k1)
          go_wp2_with fail
          refine HN2a.out.mono ?_
          rintro e w2 ⟨rfl, b2⟩
          have k2 := k1.nx b2
          clear x0 x1 x2 y0 y1 y2 z0 z1 z2
          obtain ⟨⟨x0, x1, x2⟩, ⟨y0, y1, y2⟩, z0, z1, z2⟩ := k2.nine
          have HIa := Lib.hid (HIs.out _ k2)
          go_wp2_with fail
          refine HIa.out.mono ?_
          rintro e w3 ⟨rfl, b3⟩
          have k3 := k2.nx b3
          clear x0 x1 x2 y0 y1 y2 z0 z1 z2
          obtain ⟨⟨x0, x1, x2⟩, ⟨y0, y1, y2⟩, z0, z1, z2⟩ := k3.nine
          go_wp2_with fail
          refine (HA.out _).mono ?_
          rintro e wE ⟨rfl, bE⟩
          have kE := k3.nx bE
          go_wp2_with fail
          go_ret
          exact ⟨rfl, kE.bel⟩
        | true =>
          rw [hpo] at HIs
          have hparts := hpo
          simp only [Pl.ok, Bool.and_eq_true] at hparts
          have HCR : Hid ((S.mk p.params).count ≤ 100000) := Lib.hid (by have := sortsB_count hparts.2.2; omega)
          have HCF : Hid ((S.mk p.funs).count ≤ 100000) := Lib.hid (by have := sortsB_count hparts.2.1; omega)
          clear hpo hparts
          obtain ⟨i1, hi1, hs0, hs1, hs2⟩ := info_parts sort_info
          have HS1 := Lib.hid hs1
          have HS2 := Lib.hid hs2
          clear hs1 hs2
          have HLT : t.short := by unfold T.short; have := T.length_le t.args; have := T.count_eta t; omega
          go_enter Try.func13, Try.ntmps13
          go_wp2_with fail
          refine HN1.out.mono ?_
          rintro e w1 ⟨rfl, b1⟩
          have k1 := k0.nx b1
          obtain ⟨⟨x0, x1, x2⟩, ⟨y0, y1, y2⟩, z0, z1, z2⟩ := k1.nine
          have HN2a := Lib.hid (HN2.out _ k1)
          go_wp2_with fail
          refine HN2a.out.mono ?_
          rintro e w2 ⟨rfl, b2⟩
          have k2 := k1.nx b2
          clear x0 x1 x2 y0 y1 y2 z0 z1 z2
          obtain ⟨⟨x0, x1, x2⟩, ⟨y0, y1, y2⟩, z0, z1, z2⟩ := k2.nine
          have HIa := Lib.hid (HIs.out _ k2)
          go_wp2_with fail
          refine HIa.out.mono ?_
          rintro e w3 ⟨rfl, b3⟩
          have k3 := k2.nx b3
          clear x0 x1 x2 y0 y1 y2 z0 z1 z2
          obtain ⟨⟨x0, x1, x2⟩, ⟨y0, y1, y2⟩, z0, z1, z2⟩ := k3.nine
          have HC4 := Lib.hid (copyT_any _ t (.slice A n c) w3 _ (Nat.le_refl _) (by omega) k3.iT k3.old)
          go_wp2_with fail
          refine HC4.out.mono ?_
          rintro e w4 ⟨xw, us4, rfl, hm4, b4⟩
          obtain ⟨A4, c4, rfl⟩ := hm4.form
          have hw4 : Below w4.heap.size w4 (w4.alloc (.cells #[.int .i64 t.kind, .int .i64 t.num, .slice A4 t.args.length c4] 35)) := (Below.refl _ _).alloc (Nat.le_refl _) _
          have k4 := ((k3.nx b4).nx hw4).up (M' := w4.heap.size + 1) (by have := (k3.nx b4).hz; omega) (by simp)
          have cw4 := CT.new hm4
          clear b4 hw4 hm4 k3 HC4
          clear x0 x1 x2 y0 y1 y2 z0 z1 z2
          obtain ⟨⟨x0, x1, x2⟩, ⟨y0, y1, y2⟩, z0, z1, z2⟩ := k4.nine
          generalize t.args.length = lt at *
          have HC5 : Hid (Calls Try.prog 38 #[.agg #[.int .i64 0, .int .i64 0, .slice Au gs.length cu]] (w4.alloc (.cells #[.int .i64 t.kind, .int .i64 t.num, .slice A4 lt c4] 35)) fun e w' => ∃ v us, e = .returned (.agg #[.int .i64 0, .int .i64 0, v]) ∧ Mk (w4.alloc (.cells #[.int .i64 t.kind, .int .i64 t.num, .slice A4 lt c4] 35)).heap.size w' gs v us ∧ Below (w4.alloc (.cells #[.int .i64 t.kind, .int .i64 t.num, .slice A4 lt c4] 35)).heap.size (w4.alloc (.cells #[.int .i64 t.kind, .int .i64 t.num, .slice A4 lt c4] 35)) w') := Lib.hid (copyT_any _ (.mk 0 0 gs) (.slice Au gs.length cu) _ _ (Nat.le_refl _) (by omega) k4.iG k4.old)
          go_wp2_with fail
          refine HC5.out.mono ?_
          rintro e w5 ⟨xb, us5, rfl, hm5, b5⟩
          obtain ⟨A5, c5, rfl⟩ := hm5.form
          simp only [World.size_alloc] at b5
          have hw5 : Below w5.heap.size w5 (w5.alloc (.cells #[.int .i64 0, .int .i64 0, .slice A5 gs.length c5] 35)) := (Below.refl _ _).alloc (Nat.le_refl _) _
          have hz5 := b5.size
          have hw5' := hw5.mono (show w4.heap.size + 1 ≤ w5.heap.size by simpa using hz5)
          have k5 := ((k4.next b5).next hw5').up (M' := w5.heap.size + 1) (by simp at hz5; omega) (by simp)
          have cw5 := ((cw4.next b5).next hw5').up (M' := w5.heap.size + 1) (by simp at hz5; omega)
          have cb5 := CT.new (t := .mk 0 0 gs) hm5
          clear b5 hw5 hw5' hm5 k4 HC5 cw4
          simp only [T.kind, T.num] at cb5
          clear x0 x1 x2 y0 y1 y2 z0 z1 z2
          obtain ⟨⟨x0, x1, x2⟩, ⟨y0, y1, y2⟩, z0, z1, z2⟩ := k5.nine
          have HC6 := Lib.hid (copyL_any _ (.mk p.params) (.slice A2 n2 c2) _ 0 _ (Nat.le_refl _) HCR.out k5.iP.r k5.hB)
          unfold Cloned at HC6
          go_wp2_with fail
          refine HC6.out.mono ?_
          rintro e w6 ⟨xr, f6, rfl, sp6, _, rg6, b6⟩
          obtain ⟨A6, n6, c6, rfl⟩ := sp6.form
          simp only [World.size_alloc] at b6
          have hw6 : Below w6.heap.size w6 (w6.alloc (.cells #[.slice A6 n6 c6] 40)) := (Below.refl _ _).alloc (Nat.le_refl _) _
          have hz6 := b6.size
          have hw6' := hw6.mono (show w5.heap.size + 1 ≤ w6.heap.size by simpa using hz6)
          have k6 := ((k5.next b6).next hw6').up (M' := w6.heap.size + 1) (by simp at hz6; omega) (by simp)
          have cw6 := ((cw5.next b6).next hw6').up (M' := w6.heap.size + 1) (by simp at hz6; omega)
          have cb6 := ((cb5.next b6).next hw6').up (M' := w6.heap.size + 1) (by simp at hz6; omega)
          have cr6 := CS.new sp6 rg6
          clear b6 hw6 hw6' sp6 rg6 k5 HC6 cw5 cb5
          clear x0 x1 x2 y0 y1 y2 z0 z1 z2
          obtain ⟨⟨x0, x1, x2⟩, ⟨y0, y1, y2⟩, z0, z1, z2⟩ := k6.nine
          have HC7 := Lib.hid (copyL_any _ (.mk p.funs) (.slice A1 n1 c1) _ 0 _ (Nat.le_refl _) HCF.out k6.iP.f k6.hB)
          unfold Cloned at HC7
          go_wp2_with fail
          refine HC7.out.mono ?_
          rintro e w7 ⟨xf, f7, rfl, sp7, _, rg7, b7⟩
          obtain ⟨A7, n7, c7, rfl⟩ := sp7.form
          simp only [World.size_alloc] at b7
          have hw7 : Below w7.heap.size w7 (w7.alloc (.cells #[.slice A7 n7 c7] 40)) := (Below.refl _ _).alloc (Nat.le_refl _) _
          have hz7 := b7.size
          have hw7' := hw7.mono (show w6.heap.size + 1 ≤ w7.heap.size by simpa using hz7)
          have k7 : OC p _ _ _ t _ gs _ _ w.heap.size w _ _ _ _ w4.heap.size w5.heap.size w6.heap.size w7.heap.size (w7.heap.size + 1) _ :=
            ⟨((k6.next b7).next hw7').up (M' := w7.heap.size + 1) (by simp at hz7; omega) (by simp), ((cw6.next b7).next hw7').up (M' := w7.heap.size + 1) (by simp at hz7; omega), ((cb6.next b7).next hw7').up (M' := w7.heap.size + 1) (by simp at hz7; omega), ((cr6.next b7).next hw7').up (M' := w7.heap.size + 1) (by simp at hz7; omega), CS.new sp7 rg7⟩
          clear b7 hw7 hw7' sp7 rg7 k6 HC7 cw6 cb6 cr6 hz5 hz6 hz7
          clear x0 x1 x2 y0 y1 y2 z0 z1 z2
          have HG := Lib.hid (given_any A0 A1 A2 n0 c0 n1 c1 n2 c2)
          have HTS := Lib.hid (fun W (k : OC p (.slice A0 n0 c0) (.slice A1 n1 c1) (.slice A2 n2 c2) t (.slice A n c) gs (.slice Au gs.length cu) (fun b => b < w.heap.size) w.heap.size w (.slice A4 lt c4) (.slice A5 gs.length c5) (.slice A6 n6 c6) (.slice A7 n7 c7) w4.heap.size w5.heap.size w6.heap.size w7.heap.size (w7.heap.size + 1) W) => termSort_own p _ _ _ t _ W w.heap.size _ k.k.iP k.k.hB k.k.iT k.k.old)
          generalize p.sortS t = s at *
          generalize p.sortE t = E at *
          obtain ⟨⟨x0, x1, x2⟩, ⟨y0, y1, y2⟩, z0, z1, z2⟩ := k7.nine
          have t5 : True := trivial
          have stage1 : True := trivial
          go_wp2_with fail
          go_region_held3 (fun w' => (w'.cell? ⟨w.heap.size, 0, none⟩ = some (.slice A0 n0 c0) ∧ w'.cell? ⟨w.heap.size, 1, none⟩ = some (.slice A1 n1 c1) ∧ w'.cell? ⟨w.heap.size, 2, none⟩ = some (.slice A2 n2 c2)) ∧ (w'.cell? ⟨w.heap.size + 1, 0, none⟩ = some (.int .i64 t.kind) ∧ w'.cell? ⟨w.heap.size + 1, 1, none⟩ = some (.int .i64 t.num) ∧ w'.cell? ⟨w.heap.size + 1, 2, none⟩ = some (.slice A n c)) ∧ w'.cell? ⟨w.heap.size + 1 + 1, 0, none⟩ = some (.int .i64 0) ∧ w'.cell? ⟨w.heap.size + 1 + 1, 1, none⟩ = some (.int .i64 0) ∧ w'.cell? ⟨w.heap.size + 1 + 1, 2, none⟩ = some (.slice Au gs.length cu))
            (first | exact OC.nine (by assumption) | exact OC.nine_set k9 (by first | omega | (simp; omega)) _ | go_keep | assumption)
            (first
            | (clear stage1
               go_at_call 15
               refine (HG.out _).mono ?_
               rintro e w8 ⟨rfl, b8⟩
               have z8 := b8.size
               try simp at z8
               have k8 := k7.nx2 b8 (by first | exact (Below.refl _ _).drew | exact Below.refl _ _ | exact (Below.refl _ _).alloc (Nat.le_refl _) _ | exact ((Below.refl _ _).alloc (Nat.le_refl _) _).drew)
               first
                 | (have t5 : Blk w8 (w7.heap.size + 1) 40 #[.slice none 0 0] := ((Blk1 _ _ _ _).drew).below b8 (by simp))
                 | skip
               clear b8 k7
               have Q := k8.nine)
            | (go_at_call 22
               refine (HTS.out _ (k8.nx (by first | exact Below.refl _ _ | exact (Below.refl _ _).alloc (Nat.le_refl _) _))).mono ?_
               rintro e w9 ⟨x9, rfl, hs9, b9, ht9⟩
               obtain ⟨A9, n9, c9, rfl⟩ := hs9.form
               have z9 := b9.size
               try simp at z9
               try simp only [World.size_alloc] at ht9
               have k9 := k8.nx2 b9 (by first | exact Below.refl _ _ | exact (Below.refl _ _).alloc (Nat.le_refl _) _)
               first
                 | (have t5 := Blk_next2 t5 b9 (by first | exact Below.refl _ _ | exact (Below.refl _ _).alloc (Nat.le_refl _) _)
                    have u0 := t5.cell 0
                    have u1 := t5.frozen 0
                    simp at u0 u1)
                 | (have t5 : Blk w9 w8.heap.size 40 #[.slice none 0 0] := (Blk.new w8 _ _).below b9 (by simp)
                    have u0 := t5.cell 0
                    have u1 := t5.frozen 0
                    simp at u0 u1)
                 | skip
               clear b9 k8 hs9
               have Q := k9.nine))
          · have kE : OE p (.slice A0 n0 c0) (.slice A1 n1 c1) (.slice A2 n2 c2) t (.slice A n c) gs (.slice Au gs.length cu) (fun b => b < w.heap.size) w.heap.size w (.slice A4 lt c4) (.slice A5 gs.length c5) (.slice A6 n6 c6) (.slice A7 n7 c7) w4.heap.size w5.heap.size w6.heap.size w7.heap.size (w7.heap.size + 1) s (.slice A9 n9 c9) (w9.heap.size) (w9.alloc (.cells #[.slice A9 n9 c9] 40)) := OE.late k9 ht9 (by omega)
            clear ht9 k9 t5 Q x0 x1 x2 y0 y1 y2 z0 z1 z2 z8 z9
            try clear u0 u1
            have q0 := kE.b5.cell 0
            simp at q0
            have HSTP := Lib.hid kE.stp
            clear kE HTS HG
            go_wp2_with fail
            go_loopw [62] (fun i wr => Stp p (.slice A0 n0 c0) (.slice A1 n1 c1) (.slice A2 n2 c2) t (.slice A n c) gs (.slice Au gs.length cu) (fun b => b < w.heap.size) w.heap.size w (.slice A4 lt c4) (.slice A5 gs.length c5) (.slice A6 n6 c6) (.slice A7 n7 c7) w4.heap.size w5.heap.size w6.heap.size w7.heap.size (w7.heap.size + 1) A9 n9 c9 (w9.heap.size) i wr) (fun i _ => n9 - (intOf i).toNat)
            case atStart => exact HSTP.out
            case round =>
              obtain ⟨k, hk, hnm, rfl, kr, hb5, harr⟩ := hrel
              clear HSTP q0
              have q0 := hb5.cell 0
              simp at q0
              have HARR := Lib.hid harr
              clear harr
              by_cases hlt : k < n9
              · obtain ⟨ga, cs, hA9, hga, hMa, hne, hsz, hel⟩ := HARR.out hlt
                subst hA9
                obtain ⟨B1, d1, e1, he1, hd1⟩ := hel k (Nat.le_refl _) hlt
                have r0 := hga.cell k
                rw [he1] at r0
                have r1 := hga.frozen k
                have hgl := hga.lt
                have hkz := kr.k.hz
                have hg5 := hb5.lt
                have hwrap : IntKind.i64.wrap ((d1 : Int) + 1) = (d1 : Int) + 1 := by rw [IntKind.wrap_i64]; omega
                have HEL := Lib.hid hel
                have hmk := fun W => run_make (P := Try.prog) W 23 40 i1 _ Try.underlying23 hi1 hs0 .i64 .i64 ((d1 : Int) + 1) ((d1 : Int) + 1) (by omega) (by omega) (by rw [HS2.out]; omega) (by omega)
                generalize hcs : madeCells (Value.agg #[Value.slice none 0 0]).cells (((d1 : Int) + 1).toNat * i1.size) = cs2 at hmk
                generalize hdd : ((d1 : Int) + 1).toNat = dd at hmk
                have hlt' : (k : Int) < (n9 : Int) := by omega
                have hk0 : (0 : Int) ≤ (k : Int) := by omega
                clear hel he1 HARR hcs hdd
                go_wp2_with fail
                go_region
                all_goals
                  clear hwrap
                  go_wp2_with fail
                  go_roundw
                  case rel =>
                    refine ⟨k + 1, by omega, hnm, by go_num, kr.next ?_, ?_, fun h => ⟨ga, cs.setIfInBounds k (.slice (some ⟨wr.heap.size, 0, none⟩) dd dd), rfl, ?_, hMa, hne, by simpa using hsz, fun j hj1 hj2 => ?_⟩⟩
                    · exact (((Below.refl _ _).setCell hMa _).alloc (by simp [World.setCell]; omega) _).drew
                    · exact ((hb5.far (fun e => hne e.symm) _).alloc _).drew
                    · exact ((hga.set_ k _).alloc _).drew
                    · have hkj : k ≠ j := by omega
                      rw [Array.getElem?_setIfInBounds_ne hkj]
                      exact HEL.out j (by omega) hj2
                  case measure => simp [intOf]; omega
              · clear hb5 q0 HARR
                obtain ⟨⟨x0, x1, x2⟩, ⟨y0, y1, y2⟩, z0, z1, z2⟩ := kr.nine
                have HF := Lib.hid (free_any t (.slice A n c) wr _ kr.k.iT kr.k.old hwf)
                unfold GaveZ at HF
                generalize t.freeL = fl at *
                generalize t.freeE = fe at *
                go_wp2_with fail
                refine HF.out.mono ?_
                rintro e f1 ⟨uf, rfl, _, bf1⟩
                have m1 := kr.nx bf1
                clear HF kr bf1
                clear x0 x1 x2 y0 y1 y2 z0 z1 z2
                obtain ⟨⟨x0, x1, x2⟩, ⟨y0, y1, y2⟩, z0, z1, z2⟩ := m1.nine
                have HSz := Lib.hid (sizeT_any t (.slice A n c) f1 _ m1.k.iT m1.k.old)
                generalize (t.sizes.1 : Int) = s1 at *
                generalize (t.sizes.2 : Int) = s2 at *
                go_wp2_with fail
                refine HSz.out.mono ?_
                rintro e f2 ⟨rfl, bf2⟩
                have m2 := m1.nx bf2
                clear HSz m1 bf2
                clear x0 x1 x2 y0 y1 y2 z0 z1 z2
                obtain ⟨⟨x0, x1, x2⟩, ⟨y0, y1, y2⟩, z0, z1, z2⟩ := m2.nine
                have HSub := Lib.hid (subst_any gs t (.slice A n c) (.slice Au gs.length cu) f2 _ _ m2.k.iT m2.k.old m2.k.iG m2.k.old (by omega))
                unfold Gave at HSub
                generalize T.substT gs t = r3 at *
                generalize T.substE gs t = E3 at *
                go_wp2_with fail
                refine HSub.out.mono ?_
                rintro e f3 ⟨x3, us3, rfl, hm3, bf3⟩
                obtain ⟨A3, c3, rfl⟩ := hm3.form
                have hwb : Below f3.heap.size f3 (f3.alloc (.cells #[.int .i64 r3.kind, .int .i64 r3.num, .slice A3 r3.args.length c3] 35)) := (Below.refl _ _).alloc (Nat.le_refl _) _
                have hzz := m2.k.hz
                have he4 := T.EIn.more (Q := fun b => w7.heap.size + 1 ≤ b) (fun b hb => by have := hb.1; omega) _ (T.EIn.keep (fun b hb => hwb.block b hb.2) _ hm3.eL)
                have m4 := (m2.nx bf3).nx hwb
                have HT1 := Lib.hid (turnT_any (fun b => w7.heap.size + 1 ≤ b) _ r3.args _ _ (Nat.le_refl _) he4)
                clear HSub hm3 bf3 hwb he4 m2
                clear x0 x1 x2 y0 y1 y2 z0 z1 z2
                generalize r3.args.length = l3 at *
                go_wp2_with fail
                refine HT1.out.mono ?_
                rintro e f5 ⟨rfl, hs5, _⟩
                have m5 := m4.next (hs5.below m4.k.hz (fun k hk h => by omega))
                clear hs5 m4 HT1 hzz
                obtain ⟨⟨x0, x1, x2⟩, ⟨y0, y1, y2⟩, z0, z1, z2⟩ := m5.nine
                have HAp := Lib.hid (apply_any t (.slice A n c) (.slice Au gs.length cu) gs f5 _ _ m5.k.iT m5.k.old m5.k.iG m5.k.old (by have h : t.args.length ≤ 1000 := HLT; omega) (by omega))
                unfold Gave at HAp
                generalize t.applyT gs = r6 at *
                generalize t.applyE gs = E6 at *
                go_wp2_with fail
                refine HAp.out.mono ?_
                rintro e f6 ⟨x6, us6, rfl, hm6, bf6⟩
                obtain ⟨B6, d6, rfl⟩ := hm6.form
                have hwb : Below f6.heap.size f6 (f6.alloc (.cells #[.int .i64 r6.kind, .int .i64 r6.num, .slice B6 r6.args.length d6] 35)) := (Below.refl _ _).alloc (Nat.le_refl _) _
                have hzz := m5.k.hz
                have he7 := T.EIn.more (Q := fun b => w7.heap.size + 1 ≤ b) (fun b hb => by have := hb.1; omega) _ (T.EIn.keep (fun b hb => hwb.block b hb.2) _ hm6.eL)
                have m7 := (m5.nx bf6).nx hwb
                have HT2 := Lib.hid (turnT_any (fun b => w7.heap.size + 1 ≤ b) _ r6.args _ _ (Nat.le_refl _) he7)
                clear HAp hm6 bf6 hwb he7 m5
                clear x0 x1 x2 y0 y1 y2 z0 z1 z2
                generalize r6.args.length = l6 at *
                go_wp2_with fail
                refine HT2.out.mono ?_
                rintro e f8 ⟨rfl, hs8, _⟩
                have m8 := m7.next (hs8.below m7.k.hz (fun k hk h => by omega))
                clear hs8 m7 HT2 hzz
                obtain ⟨⟨x0, x1, x2⟩, ⟨y0, y1, y2⟩, z0, z1, z2⟩ := m8.nine
                have c0 := m8.cw.b.cell 0
                have c1' := m8.cw.b.cell 1
                have c2' := m8.cw.b.cell 2
                simp at c0 c1' c2'
                have hzz := m8.k.hz
                have HE1 := Lib.hid (refEqualT_any _ t t (.slice A n c) (.slice A4 lt c4) f8 _ _ (Nat.le_refl _) m8.k.iT m8.k.old m8.cw.i (fun b hb => by omega))
                rw [(T.eqb_iff t t).2 rfl] at HE1
                go_wp2_with fail
                refine HE1.out.mono ?_
                rintro e f9 ⟨rfl, bf9⟩
                have m9 := m8.nx bf9
                clear HE1 m8 bf9 c0 c1' c2' hzz
                clear x0 x1 x2 y0 y1 y2 z0 z1 z2
                obtain ⟨⟨x0, x1, x2⟩, ⟨y0, y1, y2⟩, z0, z1, z2⟩ := m9.nine
                have c0 := m9.cb.b.cell 0
                have c1' := m9.cb.b.cell 1
                have c2' := m9.cb.b.cell 2
                simp [T.kind, T.num] at c0 c1' c2'
                have hzz := m9.k.hz
                have HE2 : Hid (Calls Try.prog 41 #[.agg #[.int .i64 0, .int .i64 0, .slice Au gs.length cu], .agg #[.int .i64 0, .int .i64 0, .slice A5 gs.length c5]] f9 fun e w' => e = .returned (.bool ((T.mk 0 0 gs).eqb (.mk 0 0 gs))) ∧ Below f9.heap.size f9 w') := Lib.hid (refEqualT_any _ (.mk 0 0 gs) (.mk 0 0 gs) (.slice Au gs.length cu) (.slice A5 gs.length c5) f9 _ _ (Nat.le_refl _) m9.k.iG m9.k.old m9.cb.i (fun b hb => by omega))
                rw [(T.eqb_iff _ _).2 rfl] at HE2
                go_wp2_with fail
                refine HE2.out.mono ?_
                rintro e g1 ⟨rfl, bg1⟩
                have p1 := m9.nx bg1
                clear HE2 m9 bg1 c0 c1' c2' hzz
                clear x0 x1 x2 y0 y1 y2 z0 z1 z2
                obtain ⟨⟨x0, x1, x2⟩, ⟨y0, y1, y2⟩, z0, z1, z2⟩ := p1.nine
                have c0 := p1.cr.b.cell 0
                simp at c0
                have hzz := p1.k.hz
                have HE3 := Lib.hid (refEqual_any _ (.mk p.params) (.mk p.params) (.slice A2 n2 c2) (.slice A6 n6 c6) g1 0 _ 0 _ (Nat.le_refl _) p1.k.iP.r p1.k.hB p1.cr.i hzz)
                rw [(S.eqb_iff _ _).2 rfl] at HE3
                go_wp2_with fail
                refine HE3.out.mono ?_
                rintro e g2 ⟨rfl, bg2⟩
                have p2 := p1.nx bg2
                clear HE3 p1 bg2 c0 hzz
                clear x0 x1 x2 y0 y1 y2 z0 z1 z2
                obtain ⟨⟨x0, x1, x2⟩, ⟨y0, y1, y2⟩, z0, z1, z2⟩ := p2.nine
                have c0 := p2.cf.b.cell 0
                simp at c0
                have hzz := p2.k.hz
                have HE4 := Lib.hid (refEqual_any _ (.mk p.funs) (.mk p.funs) (.slice A1 n1 c1) (.slice A7 n7 c7) g2 0 _ 0 _ (Nat.le_refl _) p2.k.iP.f p2.k.hB p2.cf.i hzz)
                rw [(S.eqb_iff _ _).2 rfl] at HE4
                go_wp2_with fail
                refine HE4.out.mono ?_
                rintro e g3 ⟨rfl, bg3⟩
                have p3 := p2.nx bg3
                clear HE4 p2 bg3 c0 hzz
                clear x0 x1 x2 y0 y1 y2 z0 z1 z2
                go_wp2_with fail
                refine (HA.out _).mono ?_
                rintro e g4 ⟨rfl, bg4⟩
                have p4 := p3.nx bg4
                go_wp2_with fail
                go_ret
                exact ⟨rfl, p4.k.bel⟩
          · have kE : OE p (.slice A0 n0 c0) (.slice A1 n1 c1) (.slice A2 n2 c2) t (.slice A n c) gs (.slice Au gs.length cu) (fun b => b < w.heap.size) w.heap.size w (.slice A4 lt c4) (.slice A5 gs.length c5) (.slice A6 n6 c6) (.slice A7 n7 c7) w4.heap.size w5.heap.size w6.heap.size w7.heap.size (w7.heap.size + 1) s (.slice A9 n9 c9) (w8.heap.size) (w9.setCell ⟨w8.heap.size, 0, none⟩ (.slice A9 n9 c9)) := OE.early k9 ht9 (by omega) t5 (by omega) (by omega)
            clear ht9 k9 t5 Q x0 x1 x2 y0 y1 y2 z0 z1 z2 z8 z9
            try clear u0 u1
            have q0 := kE.b5.cell 0
            simp at q0
            have HSTP := Lib.hid kE.stp
            clear kE HTS HG
            go_wp2_with fail
            go_loopw [62] (fun i wr => Stp p (.slice A0 n0 c0) (.slice A1 n1 c1) (.slice A2 n2 c2) t (.slice A n c) gs (.slice Au gs.length cu) (fun b => b < w.heap.size) w.heap.size w (.slice A4 lt c4) (.slice A5 gs.length c5) (.slice A6 n6 c6) (.slice A7 n7 c7) w4.heap.size w5.heap.size w6.heap.size w7.heap.size (w7.heap.size + 1) A9 n9 c9 (w8.heap.size) i wr) (fun i _ => n9 - (intOf i).toNat)
            case atStart => exact HSTP.out
            case round =>
              obtain ⟨k, hk, hnm, rfl, kr, hb5, harr⟩ := hrel
              clear HSTP q0
              have q0 := hb5.cell 0
              simp at q0
              have HARR := Lib.hid harr
              clear harr
              by_cases hlt : k < n9
              · obtain ⟨ga, cs, hA9, hga, hMa, hne, hsz, hel⟩ := HARR.out hlt
                subst hA9
                obtain ⟨B1, d1, e1, he1, hd1⟩ := hel k (Nat.le_refl _) hlt
                have r0 := hga.cell k
                rw [he1] at r0
                have r1 := hga.frozen k
                have hgl := hga.lt
                have hkz := kr.k.hz
                have hg5 := hb5.lt
                have hwrap : IntKind.i64.wrap ((d1 : Int) + 1) = (d1 : Int) + 1 := by rw [IntKind.wrap_i64]; omega
                have HEL := Lib.hid hel
                have hmk := fun W => run_make (P := Try.prog) W 23 40 i1 _ Try.underlying23 hi1 hs0 .i64 .i64 ((d1 : Int) + 1) ((d1 : Int) + 1) (by omega) (by omega) (by rw [HS2.out]; omega) (by omega)
                generalize hcs : madeCells (Value.agg #[Value.slice none 0 0]).cells (((d1 : Int) + 1).toNat * i1.size) = cs2 at hmk
                generalize hdd : ((d1 : Int) + 1).toNat = dd at hmk
                have hlt' : (k : Int) < (n9 : Int) := by omega
                have hk0 : (0 : Int) ≤ (k : Int) := by omega
                clear hel he1 HARR hcs hdd
                go_wp2_with fail
                go_region
                all_goals
                  clear hwrap
                  go_wp2_with fail
                  go_roundw
                  case rel =>
                    refine ⟨k + 1, by omega, hnm, by go_num, kr.next ?_, ?_, fun h => ⟨ga, cs.setIfInBounds k (.slice (some ⟨wr.heap.size, 0, none⟩) dd dd), rfl, ?_, hMa, hne, by simpa using hsz, fun j hj1 hj2 => ?_⟩⟩
                    · exact (((Below.refl _ _).setCell hMa _).alloc (by simp [World.setCell]; omega) _).drew
                    · exact ((hb5.far (fun e => hne e.symm) _).alloc _).drew
                    · exact ((hga.set_ k _).alloc _).drew
                    · have hkj : k ≠ j := by omega
                      rw [Array.getElem?_setIfInBounds_ne hkj]
                      exact HEL.out j (by omega) hj2
                  case measure => simp [intOf]; omega
              · clear hb5 q0 HARR
                obtain ⟨⟨x0, x1, x2⟩, ⟨y0, y1, y2⟩, z0, z1, z2⟩ := kr.nine
                have HF := Lib.hid (free_any t (.slice A n c) wr _ kr.k.iT kr.k.old hwf)
                unfold GaveZ at HF
                generalize t.freeL = fl at *
                generalize t.freeE = fe at *
                go_wp2_with fail
                refine HF.out.mono ?_
                rintro e f1 ⟨uf, rfl, _, bf1⟩
                have m1 := kr.nx bf1
                clear HF kr bf1
                clear x0 x1 x2 y0 y1 y2 z0 z1 z2
                obtain ⟨⟨x0, x1, x2⟩, ⟨y0, y1, y2⟩, z0, z1, z2⟩ := m1.nine
                have HSz := Lib.hid (sizeT_any t (.slice A n c) f1 _ m1.k.iT m1.k.old)
                generalize (t.sizes.1 : Int) = s1 at *
                generalize (t.sizes.2 : Int) = s2 at *
                go_wp2_with fail
                refine HSz.out.mono ?_
                rintro e f2 ⟨rfl, bf2⟩
                have m2 := m1.nx bf2
                clear HSz m1 bf2
                clear x0 x1 x2 y0 y1 y2 z0 z1 z2
                obtain ⟨⟨x0, x1, x2⟩, ⟨y0, y1, y2⟩, z0, z1, z2⟩ := m2.nine
                have HSub := Lib.hid (subst_any gs t (.slice A n c) (.slice Au gs.length cu) f2 _ _ m2.k.iT m2.k.old m2.k.iG m2.k.old (by omega))
                unfold Gave at HSub
                generalize T.substT gs t = r3 at *
                generalize T.substE gs t = E3 at *
                go_wp2_with fail
                refine HSub.out.mono ?_
                rintro e f3 ⟨x3, us3, rfl, hm3, bf3⟩
                obtain ⟨A3, c3, rfl⟩ := hm3.form
                have hwb : Below f3.heap.size f3 (f3.alloc (.cells #[.int .i64 r3.kind, .int .i64 r3.num, .slice A3 r3.args.length c3] 35)) := (Below.refl _ _).alloc (Nat.le_refl _) _
                have hzz := m2.k.hz
                have he4 := T.EIn.more (Q := fun b => w7.heap.size + 1 ≤ b) (fun b hb => by have := hb.1; omega) _ (T.EIn.keep (fun b hb => hwb.block b hb.2) _ hm3.eL)
                have m4 := (m2.nx bf3).nx hwb
                have HT1 := Lib.hid (turnT_any (fun b => w7.heap.size + 1 ≤ b) _ r3.args _ _ (Nat.le_refl _) he4)
                clear HSub hm3 bf3 hwb he4 m2
                clear x0 x1 x2 y0 y1 y2 z0 z1 z2
                generalize r3.args.length = l3 at *
                go_wp2_with fail
                refine HT1.out.mono ?_
                rintro e f5 ⟨rfl, hs5, _⟩
                have m5 := m4.next (hs5.below m4.k.hz (fun k hk h => by omega))
                clear hs5 m4 HT1 hzz
                obtain ⟨⟨x0, x1, x2⟩, ⟨y0, y1, y2⟩, z0, z1, z2⟩ := m5.nine
                have HAp := Lib.hid (apply_any t (.slice A n c) (.slice Au gs.length cu) gs f5 _ _ m5.k.iT m5.k.old m5.k.iG m5.k.old (by have h : t.args.length ≤ 1000 := HLT; omega) (by omega))
                unfold Gave at HAp
                generalize t.applyT gs = r6 at *
                generalize t.applyE gs = E6 at *
                go_wp2_with fail
                refine HAp.out.mono ?_
                rintro e f6 ⟨x6, us6, rfl, hm6, bf6⟩
                obtain ⟨B6, d6, rfl⟩ := hm6.form
                have hwb : Below f6.heap.size f6 (f6.alloc (.cells #[.int .i64 r6.kind, .int .i64 r6.num, .slice B6 r6.args.length d6] 35)) := (Below.refl _ _).alloc (Nat.le_refl _) _
                have hzz := m5.k.hz
                have he7 := T.EIn.more (Q := fun b => w7.heap.size + 1 ≤ b) (fun b hb => by have := hb.1; omega) _ (T.EIn.keep (fun b hb => hwb.block b hb.2) _ hm6.eL)
                have m7 := (m5.nx bf6).nx hwb
                have HT2 := Lib.hid (turnT_any (fun b => w7.heap.size + 1 ≤ b) _ r6.args _ _ (Nat.le_refl _) he7)
                clear HAp hm6 bf6 hwb he7 m5
                clear x0 x1 x2 y0 y1 y2 z0 z1 z2
                generalize r6.args.length = l6 at *
                go_wp2_with fail
                refine HT2.out.mono ?_
                rintro e f8 ⟨rfl, hs8, _⟩
                have m8 := m7.next (hs8.below m7.k.hz (fun k hk h => by omega))
                clear hs8 m7 HT2 hzz
                obtain ⟨⟨x0, x1, x2⟩, ⟨y0, y1, y2⟩, z0, z1, z2⟩ := m8.nine
                have c0 := m8.cw.b.cell 0
                have c1' := m8.cw.b.cell 1
                have c2' := m8.cw.b.cell 2
                simp at c0 c1' c2'
                have hzz := m8.k.hz
                have HE1 := Lib.hid (refEqualT_any _ t t (.slice A n c) (.slice A4 lt c4) f8 _ _ (Nat.le_refl _) m8.k.iT m8.k.old m8.cw.i (fun b hb => by omega))
                rw [(T.eqb_iff t t).2 rfl] at HE1
                go_wp2_with fail
                refine HE1.out.mono ?_
                rintro e f9 ⟨rfl, bf9⟩
                have m9 := m8.nx bf9
                clear HE1 m8 bf9 c0 c1' c2' hzz
                clear x0 x1 x2 y0 y1 y2 z0 z1 z2
                obtain ⟨⟨x0, x1, x2⟩, ⟨y0, y1, y2⟩, z0, z1, z2⟩ := m9.nine
                have c0 := m9.cb.b.cell 0
                have c1' := m9.cb.b.cell 1
                have c2' := m9.cb.b.cell 2
                simp [T.kind, T.num] at c0 c1' c2'
                have hzz := m9.k.hz
                have HE2 : Hid (Calls Try.prog 41 #[.agg #[.int .i64 0, .int .i64 0, .slice Au gs.length cu], .agg #[.int .i64 0, .int .i64 0, .slice A5 gs.length c5]] f9 fun e w' => e = .returned (.bool ((T.mk 0 0 gs).eqb (.mk 0 0 gs))) ∧ Below f9.heap.size f9 w') := Lib.hid (refEqualT_any _ (.mk 0 0 gs) (.mk 0 0 gs) (.slice Au gs.length cu) (.slice A5 gs.length c5) f9 _ _ (Nat.le_refl _) m9.k.iG m9.k.old m9.cb.i (fun b hb => by omega))
                rw [(T.eqb_iff _ _).2 rfl] at HE2
                go_wp2_with fail
                refine HE2.out.mono ?_
                rintro e g1 ⟨rfl, bg1⟩
                have p1 := m9.nx bg1
                clear HE2 m9 bg1 c0 c1' c2' hzz
                clear x0 x1 x2 y0 y1 y2 z0 z1 z2
                obtain ⟨⟨x0, x1, x2⟩, ⟨y0, y1, y2⟩, z0, z1, z2⟩ := p1.nine
                have c0 := p1.cr.b.cell 0
                simp at c0
                have hzz := p1.k.hz
                have HE3 := Lib.hid (refEqual_any _ (.mk p.params) (.mk p.params) (.slice A2 n2 c2) (.slice A6 n6 c6) g1 0 _ 0 _ (Nat.le_refl _) p1.k.iP.r p1.k.hB p1.cr.i hzz)
                rw [(S.eqb_iff _ _).2 rfl] at HE3
                go_wp2_with fail
                refine HE3.out.mono ?_
                rintro e g2 ⟨rfl, bg2⟩
                have p2 := p1.nx bg2
                clear HE3 p1 bg2 c0 hzz
                clear x0 x1 x2 y0 y1 y2 z0 z1 z2
                obtain ⟨⟨x0, x1, x2⟩, ⟨y0, y1, y2⟩, z0, z1, z2⟩ := p2.nine
                have c0 := p2.cf.b.cell 0
                simp at c0
                have hzz := p2.k.hz
                have HE4 := Lib.hid (refEqual_any _ (.mk p.funs) (.mk p.funs) (.slice A1 n1 c1) (.slice A7 n7 c7) g2 0 _ 0 _ (Nat.le_refl _) p2.k.iP.f p2.k.hB p2.cf.i hzz)
                rw [(S.eqb_iff _ _).2 rfl] at HE4
                go_wp2_with fail
                refine HE4.out.mono ?_
                rintro e g3 ⟨rfl, bg3⟩
                have p3 := p2.nx bg3
                clear HE4 p2 bg3 c0 hzz
                clear x0 x1 x2 y0 y1 y2 z0 z1 z2
                go_wp2_with fail
                refine (HA.out _).mono ?_
                rintro e g4 ⟨rfl, bg4⟩
                have p4 := p3.nx bg4
                go_wp2_with fail
                go_ret
                exact ⟨rfl, p4.k.bel⟩
          · have kE : OE p (.slice A0 n0 c0) (.slice A1 n1 c1) (.slice A2 n2 c2) t (.slice A n c) gs (.slice Au gs.length cu) (fun b => b < w.heap.size) w.heap.size w (.slice A4 lt c4) (.slice A5 gs.length c5) (.slice A6 n6 c6) (.slice A7 n7 c7) w4.heap.size w5.heap.size w6.heap.size w7.heap.size (w7.heap.size + 1) s (.slice A9 n9 c9) (w7.heap.size + 1) (w9.setCell ⟨w7.heap.size + 1, 0, none⟩ (.slice A9 n9 c9)) := OE.early k9 ht9 (by omega) t5 (by omega) (by omega)
            clear ht9 k9 t5 Q x0 x1 x2 y0 y1 y2 z0 z1 z2 z8 z9
            try clear u0 u1
            have q0 := kE.b5.cell 0
            simp at q0
            have HSTP := Lib.hid kE.stp
            clear kE HTS HG
            go_wp2_with fail
            go_loopw [62] (fun i wr => Stp p (.slice A0 n0 c0) (.slice A1 n1 c1) (.slice A2 n2 c2) t (.slice A n c) gs (.slice Au gs.length cu) (fun b => b < w.heap.size) w.heap.size w (.slice A4 lt c4) (.slice A5 gs.length c5) (.slice A6 n6 c6) (.slice A7 n7 c7) w4.heap.size w5.heap.size w6.heap.size w7.heap.size (w7.heap.size + 1) A9 n9 c9 (w7.heap.size + 1) i wr) (fun i _ => n9 - (intOf i).toNat)
            case atStart => exact HSTP.out
            case round =>
              obtain ⟨k, hk, hnm, rfl, kr, hb5, harr⟩ := hrel
              clear HSTP q0
              have q0 := hb5.cell 0
              simp at q0
              have HARR := Lib.hid harr
              clear harr
              by_cases hlt : k < n9
              · obtain ⟨ga, cs, hA9, hga, hMa, hne, hsz, hel⟩ := HARR.out hlt
                subst hA9
                obtain ⟨B1, d1, e1, he1, hd1⟩ := hel k (Nat.le_refl _) hlt
                have r0 := hga.cell k
                rw [he1] at r0
                have r1 := hga.frozen k
                have hgl := hga.lt
                have hkz := kr.k.hz
                have hg5 := hb5.lt
                have hwrap : IntKind.i64.wrap ((d1 : Int) + 1) = (d1 : Int) + 1 := by rw [IntKind.wrap_i64]; omega
                have HEL := Lib.hid hel
                have hmk := fun W => run_make (P := Try.prog) W 23 40 i1 _ Try.underlying23 hi1 hs0 .i64 .i64 ((d1 : Int) + 1) ((d1 : Int) + 1) (by omega) (by omega) (by rw [HS2.out]; omega) (by omega)
                generalize hcs : madeCells (Value.agg #[Value.slice none 0 0]).cells (((d1 : Int) + 1).toNat * i1.size) = cs2 at hmk
                generalize hdd : ((d1 : Int) + 1).toNat = dd at hmk
                have hlt' : (k : Int) < (n9 : Int) := by omega
                have hk0 : (0 : Int) ≤ (k : Int) := by omega
                clear hel he1 HARR hcs hdd
                go_wp2_with fail
                go_region
                all_goals
                  clear hwrap
                  go_wp2_with fail
                  go_roundw
                  case rel =>
                    refine ⟨k + 1, by omega, hnm, by go_num, kr.next ?_, ?_, fun h => ⟨ga, cs.setIfInBounds k (.slice (some ⟨wr.heap.size, 0, none⟩) dd dd), rfl, ?_, hMa, hne, by simpa using hsz, fun j hj1 hj2 => ?_⟩⟩
                    · exact (((Below.refl _ _).setCell hMa _).alloc (by simp [World.setCell]; omega) _).drew
                    · exact ((hb5.far (fun e => hne e.symm) _).alloc _).drew
                    · exact ((hga.set_ k _).alloc _).drew
                    · have hkj : k ≠ j := by omega
                      rw [Array.getElem?_setIfInBounds_ne hkj]
                      exact HEL.out j (by omega) hj2
                  case measure => simp [intOf]; omega
              · clear hb5 q0 HARR
                obtain ⟨⟨x0, x1, x2⟩, ⟨y0, y1, y2⟩, z0, z1, z2⟩ := kr.nine
                have HF := Lib.hid (free_any t (.slice A n c) wr _ kr.k.iT kr.k.old hwf)
                unfold GaveZ at HF
                generalize t.freeL = fl at *
                generalize t.freeE = fe at *
                go_wp2_with fail
                refine HF.out.mono ?_
                rintro e f1 ⟨uf, rfl, _, bf1⟩
                have m1 := kr.nx bf1
                clear HF kr bf1
                clear x0 x1 x2 y0 y1 y2 z0 z1 z2
                obtain ⟨⟨x0, x1, x2⟩, ⟨y0, y1, y2⟩, z0, z1, z2⟩ := m1.nine
                have HSz := Lib.hid (sizeT_any t (.slice A n c) f1 _ m1.k.iT m1.k.old)
                generalize (t.sizes.1 : Int) = s1 at *
                generalize (t.sizes.2 : Int) = s2 at *
                go_wp2_with fail
                refine HSz.out.mono ?_
                rintro e f2 ⟨rfl, bf2⟩
                have m2 := m1.nx bf2
                clear HSz m1 bf2
                clear x0 x1 x2 y0 y1 y2 z0 z1 z2
                obtain ⟨⟨x0, x1, x2⟩, ⟨y0, y1, y2⟩, z0, z1, z2⟩ := m2.nine
                have HSub := Lib.hid (subst_any gs t (.slice A n c) (.slice Au gs.length cu) f2 _ _ m2.k.iT m2.k.old m2.k.iG m2.k.old (by omega))
                unfold Gave at HSub
                generalize T.substT gs t = r3 at *
                generalize T.substE gs t = E3 at *
                go_wp2_with fail
                refine HSub.out.mono ?_
                rintro e f3 ⟨x3, us3, rfl, hm3, bf3⟩
                obtain ⟨A3, c3, rfl⟩ := hm3.form
                have hwb : Below f3.heap.size f3 (f3.alloc (.cells #[.int .i64 r3.kind, .int .i64 r3.num, .slice A3 r3.args.length c3] 35)) := (Below.refl _ _).alloc (Nat.le_refl _) _
                have hzz := m2.k.hz
                have he4 := T.EIn.more (Q := fun b => w7.heap.size + 1 ≤ b) (fun b hb => by have := hb.1; omega) _ (T.EIn.keep (fun b hb => hwb.block b hb.2) _ hm3.eL)
                have m4 := (m2.nx bf3).nx hwb
                have HT1 := Lib.hid (turnT_any (fun b => w7.heap.size + 1 ≤ b) _ r3.args _ _ (Nat.le_refl _) he4)
                clear HSub hm3 bf3 hwb he4 m2
                clear x0 x1 x2 y0 y1 y2 z0 z1 z2
                generalize r3.args.length = l3 at *
                go_wp2_with fail
                refine HT1.out.mono ?_
                rintro e f5 ⟨rfl, hs5, _⟩
                have m5 := m4.next (hs5.below m4.k.hz (fun k hk h => by omega))
                clear hs5 m4 HT1 hzz
                obtain ⟨⟨x0, x1, x2⟩, ⟨y0, y1, y2⟩, z0, z1, z2⟩ := m5.nine
                have HAp := Lib.hid (apply_any t (.slice A n c) (.slice Au gs.length cu) gs f5 _ _ m5.k.iT m5.k.old m5.k.iG m5.k.old (by have h : t.args.length ≤ 1000 := HLT; omega) (by omega))
                unfold Gave at HAp
                generalize t.applyT gs = r6 at *
                generalize t.applyE gs = E6 at *
                go_wp2_with fail
                refine HAp.out.mono ?_
                rintro e f6 ⟨x6, us6, rfl, hm6, bf6⟩
                obtain ⟨B6, d6, rfl⟩ := hm6.form
                have hwb : Below f6.heap.size f6 (f6.alloc (.cells #[.int .i64 r6.kind, .int .i64 r6.num, .slice B6 r6.args.length d6] 35)) := (Below.refl _ _).alloc (Nat.le_refl _) _
                have hzz := m5.k.hz
                have he7 := T.EIn.more (Q := fun b => w7.heap.size + 1 ≤ b) (fun b hb => by have := hb.1; omega) _ (T.EIn.keep (fun b hb => hwb.block b hb.2) _ hm6.eL)
                have m7 := (m5.nx bf6).nx hwb
                have HT2 := Lib.hid (turnT_any (fun b => w7.heap.size + 1 ≤ b) _ r6.args _ _ (Nat.le_refl _) he7)
                clear HAp hm6 bf6 hwb he7 m5
                clear x0 x1 x2 y0 y1 y2 z0 z1 z2
                generalize r6.args.length = l6 at *
                go_wp2_with fail
                refine HT2.out.mono ?_
                rintro e f8 ⟨rfl, hs8, _⟩
                have m8 := m7.next (hs8.below m7.k.hz (fun k hk h => by omega))
                clear hs8 m7 HT2 hzz
                obtain ⟨⟨x0, x1, x2⟩, ⟨y0, y1, y2⟩, z0, z1, z2⟩ := m8.nine
                have c0 := m8.cw.b.cell 0
                have c1' := m8.cw.b.cell 1
                have c2' := m8.cw.b.cell 2
                simp at c0 c1' c2'
                have hzz := m8.k.hz
                have HE1 := Lib.hid (refEqualT_any _ t t (.slice A n c) (.slice A4 lt c4) f8 _ _ (Nat.le_refl _) m8.k.iT m8.k.old m8.cw.i (fun b hb => by omega))
                rw [(T.eqb_iff t t).2 rfl] at HE1
                go_wp2_with fail
                refine HE1.out.mono ?_
                rintro e f9 ⟨rfl, bf9⟩
                have m9 := m8.nx bf9
                clear HE1 m8 bf9 c0 c1' c2' hzz
                clear x0 x1 x2 y0 y1 y2 z0 z1 z2
                obtain ⟨⟨x0, x1, x2⟩, ⟨y0, y1, y2⟩, z0, z1, z2⟩ := m9.nine
                have c0 := m9.cb.b.cell 0
                have c1' := m9.cb.b.cell 1
                have c2' := m9.cb.b.cell 2
                simp [T.kind, T.num] at c0 c1' c2'
                have hzz := m9.k.hz
                have HE2 : Hid (Calls Try.prog 41 #[.agg #[.int .i64 0, .int .i64 0, .slice Au gs.length cu], .agg #[.int .i64 0, .int .i64 0, .slice A5 gs.length c5]] f9 fun e w' => e = .returned (.bool ((T.mk 0 0 gs).eqb (.mk 0 0 gs))) ∧ Below f9.heap.size f9 w') := Lib.hid (refEqualT_any _ (.mk 0 0 gs) (.mk 0 0 gs) (.slice Au gs.length cu) (.slice A5 gs.length c5) f9 _ _ (Nat.le_refl _) m9.k.iG m9.k.old m9.cb.i (fun b hb => by omega))
                rw [(T.eqb_iff _ _).2 rfl] at HE2
                go_wp2_with fail
                refine HE2.out.mono ?_
                rintro e g1 ⟨rfl, bg1⟩
                have p1 := m9.nx bg1
                clear HE2 m9 bg1 c0 c1' c2' hzz
                clear x0 x1 x2 y0 y1 y2 z0 z1 z2
                obtain ⟨⟨x0, x1, x2⟩, ⟨y0, y1, y2⟩, z0, z1, z2⟩ := p1.nine
                have c0 := p1.cr.b.cell 0
                simp at c0
                have hzz := p1.k.hz
                have HE3 := Lib.hid (refEqual_any _ (.mk p.params) (.mk p.params) (.slice A2 n2 c2) (.slice A6 n6 c6) g1 0 _ 0 _ (Nat.le_refl _) p1.k.iP.r p1.k.hB p1.cr.i hzz)
                rw [(S.eqb_iff _ _).2 rfl] at HE3
                go_wp2_with fail
                refine HE3.out.mono ?_
                rintro e g2 ⟨rfl, bg2⟩
                have p2 := p1.nx bg2
                clear HE3 p1 bg2 c0 hzz
                clear x0 x1 x2 y0 y1 y2 z0 z1 z2
                obtain ⟨⟨x0, x1, x2⟩, ⟨y0, y1, y2⟩, z0, z1, z2⟩ := p2.nine
                have c0 := p2.cf.b.cell 0
                simp at c0
                have hzz := p2.k.hz
                have HE4 := Lib.hid (refEqual_any _ (.mk p.funs) (.mk p.funs) (.slice A1 n1 c1) (.slice A7 n7 c7) g2 0 _ 0 _ (Nat.le_refl _) p2.k.iP.f p2.k.hB p2.cf.i hzz)
                rw [(S.eqb_iff _ _).2 rfl] at HE4
                go_wp2_with fail
                refine HE4.out.mono ?_
                rintro e g3 ⟨rfl, bg3⟩
                have p3 := p2.nx bg3
                clear HE4 p2 bg3 c0 hzz
                clear x0 x1 x2 y0 y1 y2 z0 z1 z2
                go_wp2_with fail
                refine (HA.out _).mono ?_
                rintro e g4 ⟨rfl, bg4⟩
                have p4 := p3.nx bg4
                go_wp2_with fail
                go_ret
                exact ⟨rfl, p4.k.bel⟩
end Go.Proofs.Ytmggccgjhjknpaa
