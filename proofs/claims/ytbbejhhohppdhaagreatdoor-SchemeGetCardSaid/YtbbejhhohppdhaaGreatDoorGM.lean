/-
  scheme.funSorts, scheme.isTree: contracts; a slice of its own that holds sorts of older memory.
  scheme.isBody: contract.
-/
import Derived.Test.YtbbejhhohppdhaaGreatDoorGE
import Derived.Test.YtbbejhhohppdhaaGreatDoorGD
import Derived.Test.YtbbejhhohppdhaaGreatDoorGC
namespace Go.Proofs.YtbbejhhohppdhaaGreatDoor
open Go.RowKit

/-- A slice of its own that holds sorts, whose arguments lie below hi. -/
structure SRow (B hi : Nat) (w : World) (l : List S) (v : Value) (us : List Value) : Prop where
  own : w.ownsRow B 62 1 v l.length us
  el : ∀ (j : Nat) (s : S), l[j]? = some s → ∃ u, us[j]? = some u ∧ s.In w 0 hi u
theorem SRow.nil (B hi : Nat) (w : World) : SRow B hi w [] (.slice none 0 0) [] := ⟨⟨by simp, .inl ⟨rfl, rfl⟩⟩, fun j s h => by simp at h⟩
theorem SRow.in_ {B hi : Nat} {w : World} {l : List S} {v : Value} {us : List Value} (h : SRow B hi w l v us) (hhi : hi ≤ w.heap.size) : (S.mk l).In w 0 w.heap.size v := by
  simp only [S.In]
  rcases h.own.2 with ⟨rfl, h0⟩ | ⟨g, cap, cur, rfl, h1, h2, h3, h4, h5, h6⟩
  · have : l = [] := List.eq_nil_of_length_eq_zero h0
    subst this
    exact ⟨_, _, _, rfl, rfl, Nat.le_refl _, by omega, by simp [S.All]⟩
  · refine ⟨_, _, _, rfl, rfl, h3, by simpa [maxLen] using h4, S.All.mk_ fun j x hx => ?_⟩
    obtain ⟨u, e1, e2⟩ := h.el j x hx
    have hg := World.ownsRow.lt h.own g rfl
    refine ⟨_, _, rfl, Nat.zero_le _, hg.2, ?_, e2.more (Nat.le_refl _) hhi⟩
    rw [Nat.zero_add]
    exact World.ownsRow.cells h.own (g := g) rfl j _ e1
theorem SRow.form {B hi : Nat} {w : World} {l : List S} {v : Value} {us : List Value} (h : SRow B hi w l v us) : ∃ A c, v = .slice A l.length c := by
  rcases h.own.2 with ⟨rfl, h0⟩ | ⟨g, cap, cur, rfl, _⟩
  · exact ⟨none, 0, by rw [h0]⟩
  · exact ⟨_, cap, rfl⟩
theorem SRow.next {B hi : Nat} {w w' : World} {l : List S} {v : Value} {us : List Value} (h : SRow B hi w l v us) (hhi : hi ≤ w.heap.size) (hb : Below w.heap.size w w') : SRow B hi w' l v us :=
  ⟨owns_kept3 h.own (fun b hb' => hb.block b (World.ownsRow.lt h.own b hb').2), fun j s hj => by
    obtain ⟨u, e1, e2⟩ := h.el j s hj
    exact ⟨u, e1, e2.below hb hhi⟩⟩
theorem SRow.far {B hi : Nat} {w w' : World} {l : List S} {v : Value} {us : List Value} (h : SRow B hi w l v us) (h1 : ∀ b, v.ownBlock = some b → w'.heap[b]? = w.heap[b]?) (h2 : ∀ b, b < hi → w'.heap[b]? = w.heap[b]?) : SRow B hi w' l v us :=
  ⟨owns_kept3 h.own h1, fun j s hj => by
    obtain ⟨u, e1, e2⟩ := h.el j s hj
    exact ⟨u, e1, S.In.keep (fun p _ hp => World.cell?_of_block (h2 _ hp)) _ e2⟩⟩
theorem SRow.push {B hi : Nat} {wr w2 : World} {l : List S} {v : Value} {us : List Value} (h : SRow B hi wr l v us) {x : S} {u : Value} (hx : x.In wr 0 hi u) {o1 : Obj} {v' : Value} (hhi : hi ≤ B) (hBr : B ≤ wr.heap.size)
    (hown2 : w2.ownsRow B 62 1 v' (l.length + 1) (us ++ [u])) (hgrow : (wr.alloc o1).grownBy w2 v.ownBlock) : SRow B hi w2 (l ++ [x]) v' (us ++ [u]) := by
  have hbel : Below hi wr w2 := (((Below.refl hi wr).alloc (by omega) o1).grown hgrow (by simp; omega) (fun b hb => by have := (World.ownsRow.lt h.own b hb).1; omega))
  have hul : us.length = l.length := by simpa using h.own.1
  refine ⟨by rw [List.length_append]; exact hown2, fun j s hj => ?_⟩
  rcases Nat.lt_or_ge j l.length with hlt | hge
  · rw [List.getElem?_append_left hlt] at hj
    obtain ⟨u', e1, e2⟩ := h.el j s hj
    exact ⟨u', by rw [List.getElem?_append_left (by omega)]; exact e1, e2.below hbel (Nat.le_refl _)⟩
  · rw [List.getElem?_append_right hge] at hj
    have hj0 : j - l.length = 0 := by
      rcases Nat.eq_zero_or_pos (j - l.length) with h0 | h0
      · exact h0
      · rw [List.getElem?_eq_none (by simp; omega)] at hj; cases hj
    rw [hj0] at hj
    simp at hj
    subst hj
    exact ⟨u, by rw [List.getElem?_append_right (by omega), hul, hj0]; rfl, hx.below hbel (Nat.le_refl _)⟩

set_option maxHeartbeats 400000 in
theorem isTree_any (s : S) (v : Value) (w : World) (lo hi : Nat) (hin : s.In w lo hi v) :
    Calls Tryz.prog 91 #[.agg #[v]] w fun e w' => e = .returned (.bool s.args.isEmpty) ∧ Below w.heap.size w w' := by
  obtain ⟨l⟩ := s
  simp only [S.In] at hin
  obtain ⟨A, _, c, rfl, rfl, _⟩ := hin
  have he : Hid (((l.length : Int) == 0) = (S.mk l).args.isEmpty) := Lib.hid (by
    simp only [S.args]
    cases l with
    | nil => rfl
    | cons a r => simp; omega)
  go_enter Tryz.func91, Tryz.ntmps91
  go_wp2_with fail
  go_ret
  exact ⟨ret_bool he.out, (Below.refl _ _).alloc (Nat.le_refl _) _⟩

/-- A scheme in its box, kept. -/
structure ScKept (s : Sc) (v0 v1 : Value) (hi B : Nat) (w0 w : World) : Prop where
  b : Blk w B 25 #[v0, v1]
  i : ScIn w hi s v0 v1
  hi : hi ≤ B
  bel : Below B w0 w
theorem ScKept.next {s : Sc} {v0 v1 : Value} {hi B : Nat} {w0 w w' : World} (h : ScKept s v0 v1 hi B w0 w) (hb : Below w.heap.size w w') : ScKept s v0 v1 hi B w0 w' :=
  ⟨h.b.below hb h.b.lt, h.i.below hb (by have := h.hi; have := h.b.lt; omega), h.hi, h.bel.trans (hb.mono (by have := h.b.lt; omega))⟩
theorem ScKept.start {s : Sc} {v0 v1 : Value} {hi : Nat} {w : World} (h : ScIn w hi s v0 v1) (hhi : hi ≤ w.heap.size) : ScKept s v0 v1 hi w.heap.size w (w.alloc (.cells #[v0, v1] 25)) := by
  have hb : Below w.heap.size w (w.alloc (.cells #[v0, v1] 25)) := (Below.refl _ _).alloc (Nat.le_refl _) _
  exact ⟨Blk.new _ _ _, h.below hb hhi, hhi, hb⟩
theorem ScIn.form {w : World} {hi : Nat} {s : Sc} {v0 v1 : Value} (h : ScIn w hi s v0 v1) : (∃ A n c, v0 = .slice A n c) ∧ ∃ A n c, v1 = .slice A n c := by
  refine ⟨?_, h.fn.form⟩
  obtain ⟨A, n, c, h1, _⟩ := h.sy
  exact ⟨A, n, c, h1⟩

/-- The sorts of a scheme's functions. -/
def Sc.sorts (s : Sc) : List S := s.funs.map Fn.sort
end Go.Proofs.YtbbejhhohppdhaaGreatDoor

namespace Go.Proofs.YtbbejhhohppdhaaGreatDoor
open Go.RowKit

/-- The term may be a body in the place. -/
def bodyB (p : Pl) (t : T) : Bool := decide (t.count ≤ 400) && (decide (t.deep ≤ 30) && (decide (p.sortE t = 0) && (p.sortS t).args.isEmpty))
/-- A place and a term in their boxes, kept. -/
structure PtKept (p : Pl) (v0 v1 v2 : Value) (t : T) (v : Value) (hi B : Nat) (w0 w : World) : Prop where
  bP : Blk w B 76 #[v0, v1, v2]
  bT : Blk w (B + 1) 34 #[.int .i64 t.kind, .int .i64 t.num, v]
  iP : PlIn w 0 hi p v0 v1 v2
  iT : t.In w (fun b => b < hi) v
  hB : hi ≤ B
  bel : Below B w0 w
theorem PtKept.next {p : Pl} {v0 v1 v2 : Value} {t : T} {v : Value} {hi B : Nat} {w0 w w' : World} (h : PtKept p v0 v1 v2 t v hi B w0 w) (hb : Below w.heap.size w w') : PtKept p v0 v1 v2 t v hi B w0 w' := by
  have h1 := h.bP.lt
  have h2 := h.hB
  exact ⟨h.bP.below hb h1, h.bT.below hb h.bT.lt, h.iP.below hb (by omega), h.iT.below hb (fun b hb' => by omega), h2, h.bel.trans (hb.mono (by omega))⟩
theorem PtKept.start {p : Pl} {v0 v1 v2 : Value} {t : T} {v : Value} {hi : Nat} {w : World} (hp : PlIn w 0 hi p v0 v1 v2) (hhi : hi ≤ w.heap.size) (hin : t.In w (fun b => b < hi) v) :
    PtKept p v0 v1 v2 t v hi w.heap.size w ((w.alloc (.cells #[v0, v1, v2] 76)).alloc (.cells #[.int .i64 t.kind, .int .i64 t.num, v] 34)) := by
  have hw3 : Below w.heap.size w ((w.alloc (.cells #[v0, v1, v2] 76)).alloc (.cells #[.int .i64 t.kind, .int .i64 t.num, v] 34)) := ((Below.refl _ _).alloc (Nat.le_refl _) _).alloc (by simp) _
  refine ⟨(Blk.new _ _ _).alloc _, ?_, hp.below hw3 hhi, hin.below hw3 (fun b hb => by omega), hhi, hw3⟩
  simpa using Blk.new (w.alloc (.cells #[v0, v1, v2] 76)) 34 #[.int .i64 t.kind, .int .i64 t.num, v]
theorem sizes_small {t : T} (h : t.count ≤ 400) : t.sizes = (t.count, t.deep) := by simp [T.sizes]; omega
theorem sizes_big {t : T} (h : ¬ t.count ≤ 400) : 400 < t.sizes.1 := by
  unfold T.sizes
  split <;> simp <;> omega

set_option maxRecDepth 100000 in
set_option maxHeartbeats 1600000 in
theorem isBody_any (p : Pl) (v0 v1 v2 : Value) (t : T) (v : Value) (w : World) (hi : Nat) (hp : PlIn w 0 hi p v0 v1 v2) (hhi : hi ≤ w.heap.size) (hin : t.In w (fun b => b < hi) v) :
    Calls Tryz.prog 92 #[.agg #[v0, v1, v2], .agg #[.int .i64 t.kind, .int .i64 t.num, v]] w fun e w' => e = .returned (.bool (bodyB p t)) ∧ Below w.heap.size w w' := by
  have k0 := PtKept.start hp hhi hin
  obtain ⟨A0, n0, c0, rfl⟩ := hp.s.form
  obtain ⟨A1, n1, c1, rfl⟩ := hp.f.form
  obtain ⟨A2, n2, c2, rfl⟩ := hp.r.form
  obtain ⟨A3, n3, c3, rfl⟩ := hin.form
  have HS := Lib.hid (fun W h => sizeT_any t (.slice A3 n3 c3) W (fun b => b < hi) h)
  have HT := Lib.hid (fun W h h' h'' => termSort_any p (.slice A0 n0 c0) (.slice A1 n1 c1) (.slice A2 n2 c2) t (.slice A3 n3 c3) W hi (fun b => b < hi) h h' h'')
  have dT0 := k0.bT.cell 0
  have dT1 := k0.bT.cell 1
  have dT2 := k0.bT.cell 2
  have HS0 := Lib.hid (HS.out _ k0.iT (fun b hb => by have := k0.bP.lt; have := k0.hB; omega))
  by_cases h4 : t.count ≤ 400
  · rw [sizes_small h4] at HS0
    by_cases h3 : t.deep ≤ 30
    · have g4 : decide (400 < (t.count : Int)) = false := decide_eq_false (by omega)
      have g3 : decide (30 < (t.deep : Int)) = false := decide_eq_false (by omega)
      have HF : Hid (bodyB p t = (decide (p.sortE t = 0) && (p.sortS t).args.isEmpty)) := Lib.hid (by simp [bodyB, h4, h3])
      clear h4 h3
      go_enter Tryz.func92, Tryz.ntmps92
      go_wp2_with fail
      refine HS0.out.mono ?_
      rintro e w1 ⟨rfl, b1⟩
      have k1 := k0.next b1
      have dT0 := k1.bT.cell 0
      have dT1 := k1.bT.cell 1
      have dT2 := k1.bT.cell 2
      have dP0 := k1.bP.cell 0
      have dP1 := k1.bP.cell 1
      have dP2 := k1.bP.cell 2
      have hlt := k1.bT.lt
      have HT1 := Lib.hid (HT.out w1 k1.iP (by have := k1.hB; omega) k1.iT (fun b hb => by have := k1.hB; omega))
      clear k0 b1
      unfold GaveS at HT1
      generalize p.sortE t = E at *
      generalize p.sortS t = s at *
      go_wp2_with fail
      refine HT1.out.mono ?_
      rintro e w2 ⟨u, rfl, hu, b2⟩
      obtain ⟨A5, n5, c5, rfl⟩ := hu.form
      have bb := Below.refl w2.heap.size w2
      have hnew := bb.alloc (Nat.le_refl _) (.cells #[.slice A5 n5 c5] 62)
      have hu1 := hu.below hnew (Nat.le_refl _)
      have bS := (Blk.new w2 62 #[.slice A5 n5 c5]).cell 0
      have z2 := b2.size
      have HI := Lib.hid (isTree_any s _ _ _ _ hu1)
      have bel2 := (k1.bel.trans (b2.mono (by omega))).trans (hnew.mono (by omega))
      by_cases hE : E = 0
      · subst hE
        go_wp2_with fail
        refine HI.out.mono ?_
        rintro e w3 ⟨rfl, b3⟩
        simp only [World.size_alloc] at b3
        go_wp2_with fail
        go_ret
        exact ⟨ret_bool (by rw [HF.out]; simp), bel2.trans (b3.mono (by omega))⟩
      · have hEb : (E == 0) = false := by simpa using hE
        go_wp2_with fail
        go_ret
        exact ⟨ret_bool (by rw [HF.out]; simp [hE]), bel2⟩
    · have g4 : decide (400 < (t.count : Int)) = false := decide_eq_false (by omega)
      have g3 : decide (30 < (t.deep : Int)) = true := decide_eq_true (by omega)
      have HF : Hid (bodyB p t = false) := Lib.hid (by simp [bodyB, h3])
      clear h4 h3
      go_enter Tryz.func92, Tryz.ntmps92
      go_wp2_with fail
      refine HS0.out.mono ?_
      rintro e w1 ⟨rfl, b1⟩
      have k1 := k0.next b1
      go_wp2_with fail
      go_ret
      exact ⟨ret_bool HF.out.symm, k1.bel⟩
  · have g4 : decide (400 < (t.sizes.1 : Int)) = true := decide_eq_true (by have := sizes_big h4; omega)
    have HF : Hid (bodyB p t = false) := Lib.hid (by simp [bodyB, h4])
    clear h4
    generalize t.sizes = z at *
    go_enter Tryz.func92, Tryz.ntmps92
    go_wp2_with fail
    refine HS0.out.mono ?_
    rintro e w1 ⟨rfl, b1⟩
    have k1 := k0.next b1
    go_wp2_with fail
    go_ret
    exact ⟨ret_bool HF.out.symm, k1.bel⟩
end Go.Proofs.YtbbejhhohppdhaaGreatDoor
