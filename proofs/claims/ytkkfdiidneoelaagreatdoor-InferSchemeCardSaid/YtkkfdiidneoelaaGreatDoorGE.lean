/-
  term.fill: the term with args in the place of its variables, in memory of its own.
  What Subst's visits find, on plain terms.
  term.sizesOf, and the visits of term.Subst: contracts.
  term.Subst: its contract.
  slices.Concat of two lists of terms: what it returns lists both, one behind the other, in an array of its own.
  term.Apply: its contract.
-/
import Derived.Test.YtkkfdiidneoelaaGreatDoorGD
import Derived.Lib.AppendZerosOnto
import Derived.Lib.Walk
import Derived.Test.YtkkfdiidneoelaaGreatDoorGC
namespace Go.Proofs.YtkkfdiidneoelaaGreatDoor
open Go.RowKit

end Go.Proofs.YtkkfdiidneoelaaGreatDoor

namespace Go.Proofs.YtkkfdiidneoelaaGreatDoor

def stepCov (m : Nat) (_ : Unit) (x : T) (_ : Nat) : Bool × Unit := (cov1 m x.kind x.num, ())
mutual
theorem visitT_cov (m : Nat) : ∀ (t : T) (st : Unit) (lvl : Nat), (visitT (stepCov m) st lvl t).1 = t.cov m
  | .mk k n l, st, lvl => by
    have h := visitTL_cov m l () (lvl + 1)
    by_cases hc : cov1 m k n = true
    · have hv : visitT (stepCov m) st lvl (.mk k n l) = visitTL (stepCov m) () (lvl + 1) l := by simp [visitT, stepCov, T.kind, T.num, hc]
      rw [hv, h]; simp [T.cov, hc]
    · have hv : visitT (stepCov m) st lvl (.mk k n l) = (false, ()) := by simp [visitT, stepCov, T.kind, T.num, hc]
      rw [hv]; simp [T.cov, hc]
theorem visitTL_cov (m : Nat) : ∀ (l : List T) (st : Unit) (lvl : Nat), (visitTL (stepCov m) st lvl l).1 = T.covL m l
  | [], st, lvl => by simp [visitTL, T.covL]
  | x :: r, st, lvl => by
    have h := visitT_cov m x st lvl
    have hr := visitTL_cov m r (visitT (stepCov m) st lvl x).2 lvl
    simp only [visitTL, T.covL]
    by_cases hc : (visitT (stepCov m) st lvl x).1 = true
    · rw [if_pos hc, hr, ← h, hc, Bool.true_and]
    · have hc' := Bool.eq_false_iff.2 hc
      rw [if_neg hc, ← h, hc', Bool.false_and]
end

/-- The nodes that a head comes to. -/
def T.hsz (gs : List T) (x : T) : Nat := (T.head gs x.kind x.num).count
def stepFit (gs : List T) (st : Nat) (x : T) (_ : Nat) : Bool × Nat := (decide (st + T.hsz gs x ≤ 100000), st + T.hsz gs x)
mutual
theorem visitT_fit (gs : List T) : ∀ (t : T) (st : Nat) (lvl : Nat), (visitT (stepFit gs) st lvl t).1 = decide (st + (t.sub gs).count ≤ 100000) ∧
    ((visitT (stepFit gs) st lvl t).1 = true → (visitT (stepFit gs) st lvl t).2 = st + (t.sub gs).count)
  | .mk k n l, st, lvl => by
    have hz : T.hsz gs (.mk k n l) = (T.head gs k n).count := rfl
    rw [T.count_sub]
    by_cases hc : st + T.hsz gs (.mk k n l) ≤ 100000
    · have h := visitTL_fit gs l (st + T.hsz gs (.mk k n l)) (lvl + 1) hc
      have hv : visitT (stepFit gs) st lvl (.mk k n l) = visitTL (stepFit gs) (st + T.hsz gs (.mk k n l)) (lvl + 1) l := by simp [visitT, stepFit, hc]
      rw [hv]
      refine ⟨h.1.trans (decide_eq_decide.2 (by omega)), fun ht => ?_⟩
      rw [h.2 ht]; omega
    · have hv : visitT (stepFit gs) st lvl (.mk k n l) = (false, st + T.hsz gs (.mk k n l)) := by simp [visitT, stepFit, hc]
      rw [hv]
      refine ⟨?_, fun ht => by cases ht⟩
      have : ¬ st + ((T.head gs k n).count + T.countL (T.subL gs l)) ≤ 100000 := by omega
      simp [this]
theorem visitTL_fit (gs : List T) : ∀ (l : List T) (st : Nat) (lvl : Nat), st ≤ 100000 → (visitTL (stepFit gs) st lvl l).1 = decide (st + T.countL (T.subL gs l) ≤ 100000) ∧
    ((visitTL (stepFit gs) st lvl l).1 = true → (visitTL (stepFit gs) st lvl l).2 = st + T.countL (T.subL gs l))
  | [], st, lvl, h1 => by
    simp only [visitTL, T.subL, T.countL]
    exact ⟨by simp [h1], fun _ => by omega⟩
  | x :: r, st, lvl, h1 => by
    have h := visitT_fit gs x st lvl
    by_cases hb : (visitT (stepFit gs) st lvl x).1 = true
    · have hs := h.2 hb
      have hb0 := hb
      rw [h.1] at hb
      have hb' : st + (x.sub gs).count ≤ 100000 := by simpa using hb
      have hr := visitTL_fit gs r (st + (x.sub gs).count) lvl hb'
      have hv : visitTL (stepFit gs) st lvl (x :: r) = visitTL (stepFit gs) (st + (x.sub gs).count) lvl r := by
        simp only [visitTL]; rw [if_pos hb0, hs]
      rw [hv]
      refine ⟨hr.1.trans (decide_eq_decide.2 (by simp only [T.subL, T.countL]; omega)), fun ht => ?_⟩
      rw [hr.2 ht]
      simp only [T.subL, T.countL]; omega
    · have hb2 : (visitT (stepFit gs) st lvl x).1 = false := by simpa using hb
      have hv : visitTL (stepFit gs) st lvl (x :: r) = (false, (visitT (stepFit gs) st lvl x).2) := by simp [visitTL, hb2]
      rw [hv]
      rw [h.1] at hb2
      have hb' : ¬ st + (x.sub gs).count ≤ 100000 := by simpa using hb2
      refine ⟨?_, fun ht => by cases ht⟩
      have : ¬ st + T.countL (T.subL gs (x :: r)) ≤ 100000 := by simp only [T.subL, T.countL]; omega
      simp [this]
end
theorem fitOk (gs : List T) (st : Nat) (k n : Int) (l : List T) (lvl : Nat) (h : st ≤ 100000 ∧ (T.mk k n l).cov gs.length = true ∧ lvl + (T.mk k n l).deep ≤ 1000000) :
    lvl ≤ 1000000 ∧ ((stepFit gs st (.mk k n l) lvl).1 = true → ∀ j x, l[j]? = some x → (visitTL (stepFit gs) (stepFit gs st (.mk k n l) lvl).2 (lvl + 1) (l.take j)).1 = true →
      (visitTL (stepFit gs) (stepFit gs st (.mk k n l) lvl).2 (lvl + 1) (l.take j)).2 ≤ 100000 ∧ x.cov gs.length = true ∧ lvl + 1 + x.deep ≤ 1000000) := by
  obtain ⟨h1, h2, h3⟩ := h
  simp only [T.deep] at h3
  simp only [T.cov, Bool.and_eq_true] at h2
  refine ⟨by omega, fun hs j x hx ht => ?_⟩
  have hs' : (stepFit gs st (.mk k n l) lvl).2 ≤ 100000 := by simpa [stepFit] using hs
  have hr := visitTL_fit gs (l.take j) (stepFit gs st (.mk k n l) lvl).2 (lvl + 1) hs'
  have hr1 := hr.1
  rw [ht] at hr1
  rw [hr.2 ht]
  have hd1 := T.deepL_take_succ l j x hx
  have hd2 := T.deepL_take_le l (j + 1)
  exact ⟨by simpa using hr1.symm, T.covL_at h2.2 hx, by omega⟩
end Go.Proofs.YtkkfdiidneoelaaGreatDoor

namespace Go.Proofs.YtkkfdiidneoelaaGreatDoor
open Go.RowKit

/-- A slice of numbers, of an array of its own. -/
def Ints (B : Nat) (w : World) (l : List Nat) (v : Value) : Prop := w.ownsRow B 3 1 v l.length (l.map fun n : Nat => Value.int .i64 (n : Int))
theorem Ints.lt {B : Nat} {w : World} {l : List Nat} {v : Value} (h : Ints B w l v) {b : Nat} (hb : v.ownBlock = some b) : B ≤ b ∧ b < w.heap.size := World.ownsRow.lt h b hb
theorem Ints.keep {B : Nat} {w w' : World} {l : List Nat} {v : Value} (h : Ints B w l v) (hk : ∀ b, B ≤ b → b < w.heap.size → w'.heap[b]? = w.heap[b]?) : Ints B w' l v :=
  owns_kept3 h (fun b hb => hk b (h.lt hb).1 (h.lt hb).2)
theorem Ints.below {B : Nat} {w w' : World} {l : List Nat} {v : Value} (h : Ints B w l v) (hb : Below w.heap.size w w') : Ints B w' l v := h.keep (fun b _ hl => hb.block b hl)
theorem Ints.form {B : Nat} {w : World} {l : List Nat} {v : Value} (h : Ints B w l v) : ∃ A c, v = .slice A l.length c := by
  rcases h.2 with ⟨rfl, h0⟩ | ⟨g, cap, cur, rfl, _⟩
  · exact ⟨none, 0, by rw [h0]⟩
  · exact ⟨_, cap, rfl⟩
theorem Ints.cell {B : Nat} {w : World} {l : List Nat} {A : Option Addr} {n c : Nat} (h : Ints B w l (.slice A n c)) {j x : Nat} (hj : l[j]? = some x) : ∃ ad, A = some ad ∧ B ≤ ad.block ∧ ad.block < w.heap.size ∧ w.cell? (ad.add j) = some (.int .i64 (x : Int)) := by
  rcases h.2 with ⟨_, h0⟩ | ⟨g, cap, cur, he, _⟩
  · have : l = [] := List.eq_nil_of_length_eq_zero h0
    subst this; simp at hj
  · injection he with e1 e2 e3
    subst e1
    have hg := h.lt (b := g) rfl
    exact ⟨_, rfl, hg.1, hg.2, World.ownsRow.cells h (g := g) rfl j _ (by simp [hj])⟩

/-- What the loop of sizesOf holds behind k rounds. -/
def Sizing (B : Nat) (w : World) (gs : List T) (i v : Value) (wr : World) : Prop :=
  ∃ k : Nat, k ≤ gs.length ∧ i = .int .i64 k ∧ Hid ((gs.take k).any T.large = false) ∧ Ints B wr ((gs.take k).map T.count) v ∧ Below B w wr

theorem any_take_succ {gs : List T} {k : Nat} {x : T} (hx : gs[k]? = some x) : (gs.take (k + 1)).any T.large = ((gs.take k).any T.large || x.large) := by
  rw [List.take_add_one, hx, List.any_append]; simp
theorem any_of_take {gs : List T} {k : Nat} (h : (gs.take k).any T.large = true) : gs.any T.large = true := by
  rw [List.any_eq_true] at h ⊢
  obtain ⟨x, hx, hl⟩ := h
  exact ⟨x, List.mem_of_mem_take hx, hl⟩

end Go.Proofs.YtkkfdiidneoelaaGreatDoor

namespace Go.Proofs.YtkkfdiidneoelaaGreatDoor
open Go.RowKit

/-- What fits holds: the count, the box of the sizes, the sizes. -/
structure Fit (gs : List T) (bn bs B : Nat) (A : Option Addr) (c : Nat) (st : Nat) (w : World) : Prop where
  n : Blk w bn 3 #[.int .i64 (st : Int)]
  s : Blk w bs 45 #[.slice A gs.length c]
  z : Ints B w (gs.map T.count) (.slice A gs.length c)

/-- What Subst answers. -/
def T.substE (gs : List T) (t : T) : Int := if (gs.any T.large || t.large) = true then 3 else if t.cov gs.length = true then (if (t.sub gs).count ≤ 100000 then 0 else 3) else 2
def T.substT (gs : List T) (t : T) : T := if T.substE gs t = 0 then t.sub gs else .mk 0 0 []
/-- A term in memory of its own, and an error. -/
def Gave (t : T) (E : Int) (w : World) (e : Ending) (w' : World) : Prop :=
  ∃ v us, e = .returned (.tuple #[.agg #[.int .i64 t.kind, .int .i64 t.num, v], .int .i64 E]) ∧ Mk w.heap.size w' t.args v us ∧ Below w.heap.size w w'
/-- A term, its box, the box of its args, and a box for the result, kept. -/
structure SubCtx (t : T) (gs : List T) (v u : Value) (P Q : Nat → Prop) (B : Nat) (w0 w : World) : Prop where
  bA : Blk w B 53 #[.int .i64 t.kind, .int .i64 t.num, v]
  bB : Blk w (B + 1) 51 #[u]
  bC : Blk w (B + 1 + 1) 53 #[.int .i64 0, .int .i64 0, .slice none 0 0]
  iT : t.In w P v
  iS : T.InL w Q gs u
  oP : Old P w
  oQ : Old Q w
  bel : Below B w0 w
theorem SubCtx.next {t : T} {gs : List T} {v u : Value} {P Q : Nat → Prop} {B : Nat} {w0 w w' : World} (h : SubCtx t gs v u P Q B w0 w) (hb : Below w.heap.size w w') : SubCtx t gs v u P Q B w0 w' :=
  ⟨h.bA.below hb h.bA.lt, h.bB.below hb h.bB.lt, h.bC.below hb h.bC.lt, h.iT.old h.oP hb, T.In.old h.iS h.oQ hb, h.oP.bel hb, h.oQ.bel hb, h.bel.trans (hb.mono (by have := h.bA.lt; omega))⟩
theorem SubCtx.start {t : T} {gs : List T} {v u : Value} {P Q : Nat → Prop} {w : World} (hin : t.In w P v) (hold : Old P w) (hins : T.InL w Q gs u) (holds : Old Q w) :
    SubCtx t gs v u P Q w.heap.size w (((w.alloc (.cells #[.int .i64 t.kind, .int .i64 t.num, v] 53)).alloc (.cells #[u] 51)).alloc (.cells #[.int .i64 0, .int .i64 0, .slice none 0 0] 53)) := by
  have hw3 : Below w.heap.size w (((w.alloc (.cells #[.int .i64 t.kind, .int .i64 t.num, v] 53)).alloc (.cells #[u] 51)).alloc (.cells #[.int .i64 0, .int .i64 0, .slice none 0 0] 53)) := (((Below.refl _ _).alloc (Nat.le_refl _) _).alloc (by simp) _).alloc (by simp; omega) _
  refine ⟨((Blk.new _ _ _).alloc _).alloc _, ?_, ?_, hin.old hold hw3, T.In.old hins holds hw3, hold.bel hw3, holds.bel hw3, hw3⟩
  · simpa using (Blk.new (w.alloc (.cells #[.int .i64 t.kind, .int .i64 t.num, v] 53)) 51 #[u]).alloc (.cells #[.int .i64 0, .int .i64 0, .slice none 0 0] 53)
  · simpa using Blk.new ((w.alloc (.cells #[.int .i64 t.kind, .int .i64 t.num, v] 53)).alloc (.cells #[u] 51)) 53 #[.int .i64 0, .int .i64 0, .slice none 0 0]
theorem T.InL.len {w : World} {Q : Nat → Prop} {gs : List T} {A : Option Addr} {n c : Nat} (h : T.InL w Q gs (.slice A n c)) : gs.length = n := by
  unfold T.InL at h; simp only [T.In] at h
  obtain ⟨_, _, _, _, e, hl, _⟩ := h
  injection e with _ e _
  omega
theorem not_large {t : T} (h : t.large = false) : t.count ≤ 100000 := by
  have : ¬ 100000 < t.count := by simpa [T.large] using h
  omega
theorem none_large {gs : List T} (h : gs.any T.large = false) : ∀ x ∈ gs, x.count ≤ 100000 := fun x hx => not_large (by
  have := List.any_eq_false.1 h x hx
  simpa using this)

end Go.Proofs.YtkkfdiidneoelaaGreatDoor

namespace Go.Proofs.YtkkfdiidneoelaaGreatDoor
open Go.RowKit Go.Shelf

set_option maxRecDepth 100000 in
set_option maxHeartbeats 1600000 in
/-- slices.Grow of nil by at least one. -/
theorem growNil_any (N : Nat) (I : Int) (hI : I = N) (h0 : 0 < N) (hN : N ≤ 7036874417766) (w : World) :
    Calls Tryz.prog 121 #[.slice none 0 0, .int .i64 I] w fun e w' => ∃ cap, N ≤ cap ∧ e = .returned (.slice (some ⟨w.heap.size, 0, none⟩) 0 cap) ∧ w'.ownsRow w.heap.size 53 3 (.slice (some ⟨w.heap.size, 0, none⟩) 0 cap) 0 [] ∧ Below w.heap.size w w' := by
  obtain ⟨i0, hi0, hz0, hz1, hz2⟩ := info_parts term_info
  have hold : (Builtin.firstCells i0.size 0 (.slice none 0 0)).run Tryz.prog w.drew = .ok (([] : List Value).toArray) w.drew := run_firstCells_none w.drew i0.size 0 0 0
  have hnx : Builtin.nextslicecap (0 + N) 0 = N := by
    unfold Builtin.nextslicecap
    rw [if_pos (by omega)]; omega
  have hrz : ∀ ty, (Builtin.append_ #[51, 3] ty #[.slice none 0 0, .int .i64 I]).run Tryz.prog w =
      .ok (.slice (some ⟨w.heap.size, 0, none⟩) N (grownCap w N 0 53)) (w.drew.alloc (.cells (([] : List Value).toArray ++ Builtin.zeroCells (Value.agg #[.int .i64 0, .int .i64 0, .slice none 0 0]).cells N ++ Builtin.zeroCells (Value.agg #[.int .i64 0, .int .i64 0, .slice none 0 0]).cells (grownCap w N 0 53 - N)) 53)) := fun ty => by
    have h := Lib.run_append_grow_zeros w 51 3 ty 53 i0 _ .i64 .i64 Tryz.underlying51 Tryz.underlying3 hi0 hz0 none 0 0 [] hold N h0 (by rw [hz1]; omega) (by omega) (by omega) (by rw [hz2]; omega) (by rw [hnx, hz2]; omega)
    rw [Nat.zero_add] at h
    rw [hI]
    exact h
  have hG := grownCap_ge w N 0 53
  have hG2 := grownCap_le_maxLen w N 0 53 (by unfold maxLen; omega)
  generalize grownCap w N 0 53 = G at *
  have hi1 : 0 < I := by omega
  have hi2 : I ≤ 7036874417766 := by omega
  have hsz : (([] : List Value).toArray ++ Builtin.zeroCells (Value.agg #[.int .i64 0, .int .i64 0, .slice none 0 0]).cells N ++ Builtin.zeroCells (Value.agg #[.int .i64 0, .int .i64 0, .slice none 0 0]).cells (G - N)).size = G * 3 := by
    simp only [Array.size_append, size_zeroCells, List.size_toArray, List.length_nil]
    show 0 + N * 3 + (G - N) * 3 = G * 3
    omega
  generalize (([] : List Value).toArray ++ Builtin.zeroCells (Value.agg #[.int .i64 0, .int .i64 0, .slice none 0 0]).cells N ++ Builtin.zeroCells (Value.agg #[.int .i64 0, .int .i64 0, .slice none 0 0]).cells (G - N)) = cs at *
  have HS := Lib.hid hsz
  have hgm : G ≤ 9223372036854775807 := by simpa [maxLen] using hG2
  have HI := Lib.hid hI
  clear hsz hold hnx hG2 hI
  go_enter Tryz.func121, Tryz.ntmps121
  go_wp2_with (at_builtin; refine Lib.wpList_append_run _ rfl _ _ _ _ rfl _ _ rfl rfl _ _ (hrz _) ?_)
  go_ret
  refine ⟨G, by omega, rfl, ⟨by simp, .inr ⟨w.heap.size, G, cs, rfl, Nat.le_refl _, heap_alloc_new w.drew _, by omega, by simp only [maxLen]; omega, by rw [HS.out], by simp⟩⟩, ((Below.refl _ _).drew).alloc (Nat.le_refl _) _⟩

/-- An array of its own from B on, that holds a list of terms whose arguments lie where P holds; there is room for N. -/
structure Cat (B : Nat) (P : Nat → Prop) (N : Nat) (w : World) (l : List T) (v : Value) (us : List Value) : Prop where
  own : w.ownsRow B 53 3 v l.length us
  row : T.Row w P l us
  room : ∃ A c, v = .slice A l.length c ∧ N ≤ c
theorem Row_one {w : World} {P : Nat → Prop} : ∀ {l : List T} {us : List Value}, T.Row w P l us → ∀ u ∈ us, u.oneCell' = true
  | [], us, h, u, hu => by simp only [T.Row] at h; subst h; simp at hu
  | s :: r, us, h, u, hu => by
    simp only [T.Row] at h
    obtain ⟨u1, ut, rfl, h2, h3⟩ := h
    simp only [List.mem_cons] at hu
    rcases hu with rfl | rfl | rfl | hu
    · rfl
    · rfl
    · obtain ⟨A, n, c, rfl⟩ := h2.form; rfl
    · exact Row_one h3 u hu
theorem run_append_nothing (w : World) (base : Nat) (t ty e : TypeId) (i : TypeInfo) (size : Nat) (ht : Tryz.prog.underlying t = some (.slice e)) (hi : Tryz.prog.info? e = some i)
    (v : Value) (n : Nat) (xs : List Value) (hown : w.ownsRow base e size v n xs) (A : Option Addr) (c : Nat) : (Builtin.append_ #[t, t] ty #[v, .slice A 0 c]).run Tryz.prog w = .ok v w := by
  have hfc : (Builtin.firstCells i.size 0 (.slice A 0 c)).run Tryz.prog w = .ok #[] w := by
    cases A with
    | none => exact run_firstCells_none w i.size 0 0 c
    | some a => simpa using run_firstCells_some w i.size 0 a 0 c [] (by simp) (by simp)
  rcases hown.2 with ⟨rfl, rfl⟩ | ⟨g, cap, cur, rfl, _, _, hnc, _⟩
  · simp [Builtin.append_, run_underlying ht, sizeOf, typeInfo, hi, Builtin.lenOf, hfc]
  · simp [Builtin.append_, run_underlying ht, sizeOf, typeInfo, hi, Builtin.lenOf, hfc, hnc, storeCells]
theorem run_append_nothing2 (w : World) (base : Nat) (t ty e : TypeId) (i : TypeInfo) (size : Nat) (ht : Tryz.prog.underlying t = some (.slice e)) (hi : Tryz.prog.info? e = some i)
    (v : Value) (n : Nat) (xs : List Value) (hown : w.ownsRow base e size v n xs) (A : Option Addr) (m c : Nat) (hm : m = 0) : (Builtin.append_ #[t, t] ty #[v, .slice A m c]).run Tryz.prog w = .ok v w := by
  subst hm
  exact run_append_nothing w base t ty e i size ht hi v n xs hown A c
/-- One more list behind it. -/
theorem Cat.more {B : Nat} {P : Nat → Prop} {N : Nat} {w : World} {l m : List T} {v : Value} {us : List Value} (h : Cat B P N w l v us) (hPB : ∀ b, P b → b < B) (hBw : B ≤ w.heap.size) {vm : Value} (hm : T.InL w P m vm) (hN : l.length + m.length ≤ N) :
    ∃ v' us' w', (∀ ty, (Builtin.append_ #[51, 51] ty #[v, vm]).run Tryz.prog w = .ok v' w') ∧ Cat B P N w' (l ++ m) v' us' ∧ Below B w w' := by
  obtain ⟨i0, hi0, hz0, hz1, hz2⟩ := info_parts term_info
  unfold T.InL at hm
  simp only [T.In] at hm
  obtain ⟨A, n, c, vs, rfl, hn, hnc, hc, hrd, hrow⟩ := hm
  have hvl := hrow.length
  by_cases h0 : n = 0
  · subst h0
    have hme : m = [] := List.eq_nil_of_length_eq_zero hn
    subst hme
    refine ⟨v, us, w, fun ty => run_append_nothing w B _ _ _ i0 3 Tryz.underlying51 hi0 v _ us h.own A c, ?_, Below.refl _ _⟩
    rw [List.append_nil]; exact h
  · obtain ⟨A0, c0, rfl, hNc⟩ := h.room
    have hne : vs ≠ [] := by
      intro e; subst e
      simp at hvl; omega
    rcases hrd with e | ⟨ad, rfl, hPad, hcell⟩
    · exact absurd e hne
    · rcases h.own.2 with ⟨e, _⟩ | ⟨g, cap, cur, e, hBg, hh, _⟩
      · injection e with _ _ e; omega
      · injection e with e1 _ e3
        subst e1 e3
        obtain ⟨w', hrun, hown, hgrow⟩ := run_append_fits (P := Tryz.prog) w B 51 51 53 i0 3 Tryz.underlying51 hi0 hz1 g l.length c0 us h.own ad n c vs (by rw [hvl, hn]) hcell (Row_one hrow) (by omega)
        have hbel : Below B w w' := (Below.refl _ _).grown hgrow hBw (fun b hb => by injection hb with hb; omega)
        refine ⟨_, us ++ vs, w', fun ty => (hrun :), ⟨by rw [List.length_append, hn]; exact hown, ?_, ⟨_, c0, by rw [List.length_append, hn], hNc⟩⟩, hbel⟩
        exact T.Row.append (T.Row.keep (fun b hb => hbel.block b (hPB b hb)) m hrow) (T.Row.keep (fun b hb => hbel.block b (hPB b hb)) l h.row)
theorem Cat.in_ {B : Nat} {P : Nat → Prop} {N : Nat} {w : World} {l : List T} {v : Value} {us : List Value} (h : Cat B P N w l v us) : T.InL w (fun b => P b ∨ B ≤ b ∧ b < w.heap.size) l v := by
  unfold T.InL
  have hr := T.Row.more (Q := fun b => P b ∨ B ≤ b ∧ b < w.heap.size) (fun b hb => .inl hb) l h.row
  rcases h.own.2 with ⟨rfl, h0⟩ | ⟨g, cap, cur, rfl, h1, h2, h3, h4, h5, h6⟩
  · have : l = [] := List.eq_nil_of_length_eq_zero h0
    subst this
    exact T.In.mk_ rfl (Nat.le_refl _) (by omega) (.inl rfl) (by simp [T.Row])
  · have hg := World.ownsRow.lt h.own g rfl
    refine T.In.mk_ rfl h3 (by simpa [maxLen] using h4) (.inr ⟨_, rfl, .inr hg, ?_⟩) hr
    exact h.own.cells (g := g) rfl

/-- The sum of the lengths so far. -/
def SumRel (n0 n1 : Nat) (s i : Value) : Prop :=
  (i = .int .i64 0 ∧ s = .int .i64 0) ∨ (i = .int .i64 1 ∧ s = .int .i64 (n0 : Int)) ∨ (i = .int .i64 2 ∧ s = .int .i64 ((n0 : Int) + (n1 : Int)))
/-- The lists so far. -/
def CatRel (B : Nat) (P : Nat → Prop) (N : Nat) (w : World) (l m : List T) (v i : Value) (wr : World) : Prop :=
  ∃ us, Below B w wr ∧ ((i = .int .i64 0 ∧ Cat B P N wr [] v us) ∨ (i = .int .i64 1 ∧ Cat B P N wr l v us) ∨ (i = .int .i64 2 ∧ Cat B P N wr (l ++ m) v us))

set_option maxRecDepth 100000 in
set_option maxHeartbeats 1600000 in
theorem concat_any (l m : List T) (v0 v1 : Value) (g : Nat) (w : World) (P : Nat → Prop) (hb : Blk w g 51 #[v0, v1]) (h0 : T.InL w P l v0) (h1 : T.InL w P m v1) (hold : Old P w) (hl : l.length ≤ 3518437208883) (hm : m.length ≤ 3518437208883) :
    Calls Tryz.prog 67 #[.slice (some ⟨g, 0, none⟩) 2 2] w fun e w' => ∃ v, e = .returned v ∧ T.InL w' (fun b => P b ∨ w.heap.size ≤ b ∧ b < w'.heap.size) (l ++ m) v ∧ Below w.heap.size w w' := by
  obtain ⟨A0, n0, c0, rfl⟩ := T.In.form h0
  obtain ⟨A1, n1, c1, rfl⟩ := T.In.form h1
  have hn0 := T.InL.len h0
  have hn1 := T.InL.len h1
  have e0 := hb.cell 0
  have e1 := hb.cell 1
  have hlt := hb.lt
  simp at e0 e1
  have b0 : n0 ≤ 3518437208883 := by omega
  have b1 : n1 ≤ 3518437208883 := by omega
  have HN0 := Lib.hid hn0
  have HN1 := Lib.hid hn1
  clear hn0 hn1 hl hm
  go_enter Tryz.func67, Tryz.ntmps67
  go_wp2_with fail
  go_loop [3, 11] (fun s i => SumRel n0 n1 s i) (fun _ i => 2 - (intOf i).toNat)
  case atStart => exact .inl ⟨rfl, rfl⟩
  case round =>
    rcases hrel with ⟨rfl, rfl⟩ | ⟨rfl, rfl⟩ | ⟨rfl, rfl⟩
    · go_wp2_with fail
      go_round
      case rel => exact .inr (.inl ⟨by go_num, by go_num⟩)
      case measure => simp [intOf]
    · go_wp2_with fail
      go_round
      case rel => exact .inr (.inr ⟨by go_num, by go_num⟩)
      case measure => simp [intOf]
    · have HG : Hid (∀ I : Int, I = (n0 : Int) + n1 → Calls Tryz.prog 121 #[.slice none 0 0, .int .i64 I] w fun e w' => ∃ v us, e = .returned v ∧ Cat w.heap.size P (n0 + n1) w' [] v us ∧ Below w.heap.size w w') := Lib.hid (by
        intro I hI
        by_cases hz : n0 + n1 = 0
        · have hI0 : I = 0 := by omega
          subst hI0
          exact (Any8.slices_Grow_room growLays none 0 0 0 w (Nat.le_refl _) (by omega) (by omega) (by omega)).mono fun e w' ⟨he, hw⟩ => ⟨_, [], he, ⟨⟨by simp, .inl ⟨rfl, rfl⟩⟩, by simp [T.Row], ⟨_, _, rfl, by omega⟩⟩, by rw [hw]; exact Below.refl _ _⟩
        · exact (growNil_any (n0 + n1) I (by omega) (by omega) (by omega) w).mono fun e w' ⟨cap, hc, he, ho, hbb⟩ => ⟨_, [], he, ⟨ho, by simp [T.Row], ⟨_, _, rfl, hc⟩⟩, hbb⟩)
      go_wp2_with fail
      refine (HG.out _ rfl).mono ?_
      rintro e w1 ⟨v, us, rfl, hcat, hbel⟩
      obtain ⟨A2, c2, hv, _⟩ := hcat.room
      have HV := Lib.hid hv
      clear hv
      go_wp2_with fail
      go_loopw [6, 27] (fun v i wr => CatRel w.heap.size P (n0 + n1) w l m v i wr) (fun _ i _ => 2 - (intOf i).toNat)
      case atStart => exact ⟨us, hbel, .inl ⟨rfl, hcat⟩⟩
      case round =>
        obtain ⟨us2, hbr, hrel⟩ := hrel
        have g0 := (hb.below hbr hlt).cell 0
        have g1 := (hb.below hbr hlt).cell 1
        simp at g0 g1
        rcases hrel with ⟨rfl, hc⟩ | ⟨rfl, hc⟩ | ⟨rfl, hc⟩
        · obtain ⟨v', us', w', hrun, hc', hb'⟩ := hc.more hold hbr.size (T.In.below h0 hbr hold) (by simp; have := HN0.out; omega)
          have HR := Lib.hid hrun
          clear hrun
          go_wp2_with (at_builtin; refine Lib.wpList_append_run _ rfl _ _ _ _ rfl _ _ rfl rfl _ _ (HR.out _) ?_)
          go_roundw
          case rel => exact ⟨us', hbr.trans hb', .inr (.inl ⟨by go_num, by simpa using hc'⟩)⟩
          case measure => simp [intOf]
        · obtain ⟨v', us', w', hrun, hc', hb'⟩ := hc.more hold hbr.size (T.In.below h1 hbr hold) (by have := HN0.out; have := HN1.out; omega)
          have HR := Lib.hid hrun
          clear hrun
          go_wp2_with (at_builtin; refine Lib.wpList_append_run _ rfl _ _ _ _ rfl _ _ rfl rfl _ _ (HR.out _) ?_)
          go_roundw
          case rel => exact ⟨us', hbr.trans hb', .inr (.inr ⟨by go_num, hc'⟩)⟩
          case measure => simp [intOf]
        · go_wp2_with fail
          go_ret
          exact ⟨_, rfl, hc.in_, hbr⟩
end Go.Proofs.YtkkfdiidneoelaaGreatDoor

namespace Go.Proofs.YtkkfdiidneoelaaGreatDoor
open Go.RowKit

/-- What Apply answers. -/
def T.applied (t : T) (gs : List T) : T := .mk t.kind t.num (t.args ++ gs)
def T.applyE (t : T) (gs : List T) : Int := if (t.applied gs).count ≤ 100000 then 0 else 3
def T.applyT (t : T) (gs : List T) : T := if (t.applied gs).count ≤ 100000 then t.applied gs else .mk 0 0 []

/-- A term in its box, a box for the result, two lists below B, kept. -/
structure AppCtx (t : T) (gs : List T) (v u : Value) (B : Nat) (w0 w : World) : Prop where
  bA : Blk w B 53 #[.int .i64 t.kind, .int .i64 t.num, v]
  bC : Blk w (B + 1) 53 #[.int .i64 0, .int .i64 0, .slice none 0 0]
  iT : T.InL w (fun b => b < B) t.args v
  iS : T.InL w (fun b => b < B) gs u
  hz : B + 2 ≤ w.heap.size
  bel : Below B w0 w
theorem AppCtx.next {t : T} {gs : List T} {v u : Value} {B : Nat} {w0 w w' : World} (h : AppCtx t gs v u B w0 w) (hb : Below (B + 2) w w') : AppCtx t gs v u B w0 w' :=
  ⟨h.bA.below hb (by omega), h.bC.below hb (by omega), T.In.below h.iT hb (fun b hb => by omega), T.In.below h.iS hb (fun b hb => by omega), Nat.le_trans h.hz hb.size, h.bel.trans (hb.mono (by omega))⟩
theorem AppCtx.nx {t : T} {gs : List T} {v u : Value} {B : Nat} {w0 w w' : World} (h : AppCtx t gs v u B w0 w) (hb : Below w.heap.size w w') : AppCtx t gs v u B w0 w' := h.next (hb.mono h.hz)
theorem AppCtx.start {t : T} {gs : List T} {v u : Value} {P Q : Nat → Prop} {w : World} (hin : t.In w P v) (hold : Old P w) (hins : T.InL w Q gs u) (holds : Old Q w) :
    AppCtx t gs v u w.heap.size w ((w.alloc (.cells #[.int .i64 t.kind, .int .i64 t.num, v] 53)).alloc (.cells #[.int .i64 0, .int .i64 0, .slice none 0 0] 53)) := by
  have hw2 : Below w.heap.size w ((w.alloc (.cells #[.int .i64 t.kind, .int .i64 t.num, v] 53)).alloc (.cells #[.int .i64 0, .int .i64 0, .slice none 0 0] 53)) := ((Below.refl _ _).alloc (Nat.le_refl _) _).alloc (by simp) _
  refine ⟨(Blk.new _ _ _).alloc _, ?_, ?_, ?_, by simp, hw2⟩
  · simpa using Blk.new (w.alloc (.cells #[.int .i64 t.kind, .int .i64 t.num, v] 53)) 53 #[.int .i64 0, .int .i64 0, .slice none 0 0]
  · obtain ⟨k, n, l⟩ := t
    exact T.InL.of (k := k) (n := n) ((hin.old hold hw2).more (fun b hb => hold b hb) _)
  · exact T.In.more (fun b hb => holds b hb) _ (T.In.old hins holds hw2)

/-- .. and the whole term in its box. -/
structure AppEnd (t : T) (gs : List T) (v u : Value) (B : Nat) (w0 : World) (g : Nat) (x : Value) (w : World) : Prop where
  k : AppCtx t gs v u B w0 w
  b : Blk w g 53 #[.int .i64 t.kind, .int .i64 t.num, x]
  i : (t.applied gs).In w (fun b => b < w.heap.size) x
theorem AppEnd.nx {t : T} {gs : List T} {v u : Value} {B : Nat} {w0 : World} {g : Nat} {x : Value} {w w' : World} (h : AppEnd t gs v u B w0 g x w) (hb : Below w.heap.size w w') : AppEnd t gs v u B w0 g x w' :=
  ⟨h.k.nx hb, h.b.below hb h.b.lt, (h.i.below hb (fun _ hh => hh)).more (fun _ hh => Nat.lt_of_lt_of_le hh hb.size) _⟩
theorem AppEnd.fresh {t : T} {gs : List T} {v u : Value} {B M : Nat} {w0 : World} {x : Value} {w : World} (h : AppCtx t gs v u B w0 w) (hi : T.InL w (fun b => b < B ∨ M ≤ b ∧ b < w.heap.size) (t.args ++ gs) x) :
    AppEnd t gs v u B w0 w.heap.size x (w.alloc (.cells #[.int .i64 t.kind, .int .i64 t.num, x] 53)) := by
  have hb : Below w.heap.size w (w.alloc (.cells #[.int .i64 t.kind, .int .i64 t.num, x] 53)) := (Below.refl _ _).alloc (Nat.le_refl _) _
  have hz := h.hz
  exact ⟨h.nx hb, Blk.new _ _ _, T.InL.to (T.In.more (fun b hh => by simp; omega) _ (T.In.below hi hb (fun b hh => by omega)))⟩
theorem AppEnd.stored {t : T} {gs : List T} {v u : Value} {B M g : Nat} {w0 : World} {x y0 y1 y2 : Value} {w : World} (h : AppCtx t gs v u B w0 w) (hi : T.InL w (fun b => b < B ∨ M ≤ b ∧ b < w.heap.size) (t.args ++ gs) x) (hg : Blk w g 53 #[y0, y1, y2]) (h1 : B + 2 ≤ g) (h2 : g < M) :
    AppEnd t gs v u B w0 g x (((w.setCell ⟨g, 0, none⟩ (.int .i64 t.kind)).setCell ⟨g, 1, none⟩ (.int .i64 t.num)).setCell ⟨g, 2, none⟩ x) := by
  have hb : Below (B + 2) w (((w.setCell ⟨g, 0, none⟩ (.int .i64 t.kind)).setCell ⟨g, 1, none⟩ (.int .i64 t.num)).setCell ⟨g, 2, none⟩ x) := (((Below.refl _ _).setCell h1 _).setCell h1 _).setCell h1 _
  have hz := h.hz
  refine ⟨h.next hb, (((hg.set_ 0 _).set_ 1 _).set_ 2 _).eq_ rfl, T.InL.to (T.In.more (fun b hh => by simp [World.setCell]; omega) _ (T.In.keep (fun b hh => ?_) _ hi))⟩
  rw [Below.heap_setCell _ _ _ _ (by show b ≠ g; omega), Below.heap_setCell _ _ _ _ (by show b ≠ g; omega), Below.heap_setCell _ _ _ _ (by show b ≠ g; omega)]
theorem AppEnd.three {t : T} {gs : List T} {v u : Value} {B : Nat} {w0 : World} {g : Nat} {x : Value} {w : World} (h : AppEnd t gs v u B w0 g x w) : w.cell? ⟨g, 0, none⟩ = some (.int .i64 t.kind) ∧ w.cell? ⟨g, 1, none⟩ = some (.int .i64 t.num) ∧ w.cell? ⟨g, 2, none⟩ = some x := by
  have a0 := h.b.cell 0
  have a1 := h.b.cell 1
  have a2 := h.b.cell 2
  simp at a0 a1 a2
  exact ⟨a0, a1, a2⟩
theorem app_large {t : T} {gs : List T} {v u : Value} {B : Nat} {w0 : World} {g : Nat} {x : Value} {w : World} (h : AppEnd t gs v u B w0 g x w) :
    Calls Tryz.prog 68 #[.agg #[.int .i64 t.kind, .int .i64 t.num, x]] w fun e w' => e = .returned (.bool (t.applied gs).large) ∧ AppEnd t gs v u B w0 g x w' :=
  (tooLarge_any (t.applied gs) x w _ h.i (fun _ hh => hh)).mono fun _ _ ⟨he, hb⟩ => ⟨he, h.nx hb⟩
theorem app_clone {t : T} {gs : List T} {v u : Value} {B : Nat} {w0 : World} {g : Nat} {x : Value} {w : World} (h : AppEnd t gs v u B w0 g x w) (hf : (t.applied gs).count ≤ 100000) :
    Calls Tryz.prog 69 #[.agg #[.int .i64 t.kind, .int .i64 t.num, x]] w fun e w' => ∃ y us, e = .returned (.agg #[.int .i64 t.kind, .int .i64 t.num, y]) ∧ Mk (B + 2) w' (t.applied gs).args y us ∧ AppCtx t gs v u B w0 w' :=
  (cloneT_any _ (t.applied gs) x w _ (Nat.le_refl _) hf h.i (fun _ hh => hh)).mono fun _ _ ⟨y, us, he, hm, hb⟩ => ⟨y, us, he, hm.less h.k.hz, h.k.nx hb⟩
theorem apply_results {tmps : Array Value} {w : World} {a : Nat} {x y z u : Value} (h2 : tmps.getD 4 undef = .pointer (some ⟨a, 0, none⟩)) (h3 : tmps.getD 5 undef = u)
    (ha : Blk w a 53 #[x, y, z]) : (results Tryz.f27 tmps).run Tryz.prog w = .ok (.tuple #[.agg #[x, y, z], u]) w := by
  have h4 := ha.cell 0
  have h5 := ha.cell 1
  have h6 := ha.cell 2
  simp at h4 h5 h6
  have h2' : tmps[4]?.getD undef = .pointer (some ⟨a, 0, none⟩) := by simpa using h2
  have h3' : tmps[5]?.getD undef = u := by simpa using h3
  simp [results, Tryz.results27, go_sem, h2', h3', h4, h5, h6]
theorem S_three {w : World} {g b : Nat} {x y z u0 u1 u2 : Value} (h : w.cell? ⟨g, 0, none⟩ = some x ∧ w.cell? ⟨g, 1, none⟩ = some y ∧ w.cell? ⟨g, 2, none⟩ = some z) (hne : g ≠ b) :
    (((w.setCell ⟨b, 0, none⟩ u0).setCell ⟨b, 1, none⟩ u1).setCell ⟨b, 2, none⟩ u2).cell? ⟨g, 0, none⟩ = some x ∧ (((w.setCell ⟨b, 0, none⟩ u0).setCell ⟨b, 1, none⟩ u1).setCell ⟨b, 2, none⟩ u2).cell? ⟨g, 1, none⟩ = some y ∧ (((w.setCell ⟨b, 0, none⟩ u0).setCell ⟨b, 1, none⟩ u1).setCell ⟨b, 2, none⟩ u2).cell? ⟨g, 2, none⟩ = some z := by
  have hk : (((w.setCell ⟨b, 0, none⟩ u0).setCell ⟨b, 1, none⟩ u1).setCell ⟨b, 2, none⟩ u2).heap[g]? = w.heap[g]? := by
    rw [Below.heap_setCell _ _ _ _ hne, Below.heap_setCell _ _ _ _ hne, Below.heap_setCell _ _ _ _ hne]
  exact ⟨(World.cell?_of_block (w := w) hk).trans h.1, (World.cell?_of_block (w := w) hk).trans h.2.1, (World.cell?_of_block (w := w) hk).trans h.2.2⟩
theorem Blk_one (w : World) (o : Obj) (t : Nat) (xs : Array Value) : Blk ((w.alloc o).alloc (.cells xs t)) (w.heap.size + 1) t xs := by
  have h := Blk.new (w.alloc o) t xs
  rwa [World.size_alloc] at h
theorem app_call {t : T} {gs : List T} {v u : Value} {B : Nat} {w0 w1 W : World} {g : Nat} (hl : t.args.length ≤ 3518437208883) (hm : gs.length ≤ 3518437208883) (k : AppCtx t gs v u B w0 w1) (hW : Below (B + 2) w1 W) (hb : Blk W g 51 #[v, u]) :
    Calls Tryz.prog 67 #[.slice (some ⟨g, 0, none⟩) 2 2] W fun e w' => ∃ x, e = .returned x ∧ AppCtx t gs v u B w0 w' ∧ T.InL w' (fun b => b < B ∨ W.heap.size ≤ b ∧ b < w'.heap.size) (t.args ++ gs) x ∧ Below W.heap.size W w' := by
  have k1 := k.next hW
  have hz := k1.hz
  refine (concat_any t.args gs v u g W (fun b => b < B) hb k1.iT k1.iS (fun b hb => by omega) hl hm).mono ?_
  rintro e w' ⟨x, rfl, hi, hbb⟩
  exact ⟨x, rfl, k1.nx hbb, hi, hbb⟩

set_option maxRecDepth 100000 in
set_option maxHeartbeats 1600000 in
theorem apply_any (t : T) (v u : Value) (gs : List T) (w : World) (P Q : Nat → Prop) (hin : t.In w P v) (hold : Old P w) (hins : T.InL w Q gs u) (holds : Old Q w) (hl : t.args.length ≤ 3518437208883) (hm : gs.length ≤ 3518437208883) :
    Calls Tryz.prog 27 #[.agg #[.int .i64 t.kind, .int .i64 t.num, v], u] w (Gave (t.applyT gs) (t.applyE gs) w) := by
  have k0 := AppCtx.start hin hold hins holds
  obtain ⟨A, n, c, rfl⟩ := hin.form
  obtain ⟨A1, n1, c1, rfl⟩ := T.In.form hins
  have hz2 : ((w.alloc (.cells #[.int .i64 t.kind, .int .i64 t.num, .slice A n c] 53)).alloc (.cells #[.int .i64 0, .int .i64 0, .slice none 0 0] 53)).heap.size = w.heap.size + 2 := by simp
  have hc1 := app_call (W := (((w.alloc (.cells #[.int .i64 t.kind, .int .i64 t.num, .slice A n c] 53)).alloc (.cells #[.int .i64 0, .int .i64 0, .slice none 0 0] 53)).alloc (.cells #[.slice A n c, .slice A1 n1 c1] 51)).drew) (g := w.heap.size + 1 + 1) hl hm k0 (((Below.refl _ _).alloc (by omega) _).drew) (by rw [show w.heap.size + 1 + 1 = ((w.alloc (.cells #[.int .i64 t.kind, .int .i64 t.num, .slice A n c] 53)).alloc (.cells #[.int .i64 0, .int .i64 0, .slice none 0 0] 53)).heap.size from by rw [hz2]]; exact (Blk.new _ _ _).drew)
  have hc2 := app_call (W := ((((w.alloc (.cells #[.int .i64 t.kind, .int .i64 t.num, .slice A n c] 53)).alloc (.cells #[.int .i64 0, .int .i64 0, .slice none 0 0] 53)).alloc (.cells #[.slice A n c, .slice A1 n1 c1] 51)).alloc (.cells #[.int .i64 0, .int .i64 0, .slice none 0 0] 53)).drew) (g := w.heap.size + 1 + 1) hl hm k0 ((((Below.refl _ _).alloc (by omega) _).alloc (by simp) _).drew) (by rw [show w.heap.size + 1 + 1 = ((w.alloc (.cells #[.int .i64 t.kind, .int .i64 t.num, .slice A n c] 53)).alloc (.cells #[.int .i64 0, .int .i64 0, .slice none 0 0] 53)).heap.size from by rw [hz2]]; exact ((Blk.new _ _ _).alloc _).drew)
  have hc3 := app_call (W := ((((w.alloc (.cells #[.int .i64 t.kind, .int .i64 t.num, .slice A n c] 53)).alloc (.cells #[.int .i64 0, .int .i64 0, .slice none 0 0] 53)).alloc (.cells #[.int .i64 0, .int .i64 0, .slice none 0 0] 53)).alloc (.cells #[.slice A n c, .slice A1 n1 c1] 51)).drew) (g := w.heap.size + 1 + 1 + 1) hl hm k0 ((((Below.refl _ _).alloc (by omega) _).alloc (by simp) _).drew) (by rw [show w.heap.size + 1 + 1 + 1 = ((w.alloc (.cells #[.int .i64 t.kind, .int .i64 t.num, .slice A n c] 53)).alloc (.cells #[.int .i64 0, .int .i64 0, .slice none 0 0] 53)).heap.size + 1 from by rw [hz2]]; exact (Blk_one _ _ _ _).drew)
  have t2 : Blk ((((w.alloc (.cells #[.int .i64 t.kind, .int .i64 t.num, .slice A n c] 53)).alloc (.cells #[.int .i64 0, .int .i64 0, .slice none 0 0] 53)).alloc (.cells #[.slice A n c, .slice A1 n1 c1] 51)).alloc (.cells #[.int .i64 0, .int .i64 0, .slice none 0 0] 53)).drew (w.heap.size + 1 + 1 + 1) 53 #[.int .i64 0, .int .i64 0, .slice none 0 0] := by rw [show w.heap.size + 1 + 1 + 1 = ((w.alloc (.cells #[.int .i64 t.kind, .int .i64 t.num, .slice A n c] 53)).alloc (.cells #[.int .i64 0, .int .i64 0, .slice none 0 0] 53)).heap.size + 1 from by rw [hz2]]; exact (Blk_one _ _ _ _).drew
  have t3 : Blk ((((w.alloc (.cells #[.int .i64 t.kind, .int .i64 t.num, .slice A n c] 53)).alloc (.cells #[.int .i64 0, .int .i64 0, .slice none 0 0] 53)).alloc (.cells #[.int .i64 0, .int .i64 0, .slice none 0 0] 53)).alloc (.cells #[.slice A n c, .slice A1 n1 c1] 51)).drew (w.heap.size + 1 + 1) 53 #[.int .i64 0, .int .i64 0, .slice none 0 0] := by rw [show w.heap.size + 1 + 1 = ((w.alloc (.cells #[.int .i64 t.kind, .int .i64 t.num, .slice A n c] 53)).alloc (.cells #[.int .i64 0, .int .i64 0, .slice none 0 0] 53)).heap.size from by rw [hz2]]; exact ((Blk.new _ _ _).alloc _).drew
  have HC1 := Lib.hid hc1
  have HC2 := Lib.hid hc2
  have HC3 := Lib.hid hc3
  have T2 := Lib.hid t2
  have T3 := Lib.hid t3
  clear hin hins hl hm hc1 hc2 hc3 t2 t3
  have HZ2 := Lib.hid hz2
  clear hz2
  go_enter Tryz.func27, Tryz.ntmps27
  go_wp2_with fail
  go_region_held3 (fun w' => w'.cell? ⟨w.heap.size, 0, none⟩ = some (.int .i64 t.kind) ∧ w'.cell? ⟨w.heap.size, 1, none⟩ = some (.int .i64 t.num) ∧ w'.cell? ⟨w.heap.size, 2, none⟩ = some (.slice A n c)) (first | go_keep | assumption | exact S_three ‹_› (by omega))
    (first
      | (go_at_call 67
         first
           | ((with_reducible refine HC1.out.mono ?_); rintro e w5 ⟨x, rfl, k5, i5, b5⟩)
           | ((with_reducible refine HC2.out.mono ?_); rintro e w5 ⟨x, rfl, k5, i5, b5⟩; have t6 := Blk.below T2.out b5 T2.out.lt; have f0 := t6.frozen 0; have f1 := t6.frozen 1; have f2 := t6.frozen 2; have p0 := t6.cell 0; have p1 := t6.cell 1; have p2 := t6.cell 2; simp at p0 p1 p2)
           | ((with_reducible refine HC3.out.mono ?_); rintro e w5 ⟨x, rfl, k5, i5, b5⟩; have t6 := Blk.below T3.out b5 T3.out.lt; have f0 := t6.frozen 0; have f1 := t6.frozen 1; have f2 := t6.frozen 2; have p0 := t6.cell 0; have p1 := t6.cell 1; have p2 := t6.cell 2; simp at p0 p1 p2)
         have y0 := k5.bA.cell 0
         have y1 := k5.bA.cell 1
         have y2 := k5.bA.cell 2
         simp at y0 y1 y2
         have Q : w5.cell? ⟨w.heap.size, 0, none⟩ = some (.int .i64 t.kind) ∧ w5.cell? ⟨w.heap.size, 1, none⟩ = some (.int .i64 t.num) ∧ w5.cell? ⟨w.heap.size, 2, none⟩ = some (.slice A n c) := ⟨y0, y1, y2⟩
         clear y0 y1 y2 b5
         obtain ⟨A5, n5, c5, rfl⟩ := T.In.form i5
      ))
  all_goals
    first
      | have z6 := AppEnd.stored k5 i5 t6 (by omega) (by simp [World.drew] <;> omega)
      | have z6 := AppEnd.fresh k5 i5
    obtain ⟨x0, x1, x2⟩ := z6.three
    clear k5 i5
    have HL := Lib.hid (app_large z6)
    clear z6
    by_cases hf : (t.applied gs).count ≤ 100000
    · have HT : Hid (t.applyT gs = t.applied gs ∧ t.applyE gs = 0) := Lib.hid (by simp [T.applyT, T.applyE, hf])
      have hlg : (t.applied gs).large = false := by simp [T.large]; omega
      rw [hlg] at HL
      have HF := Lib.hid hf
      clear hf hlg
      go_wp2_with fail
      refine HL.out.mono ?_
      rintro e w7 ⟨rfl, z7⟩
      clear x0 x1 x2 HL
      obtain ⟨x0, x1, x2⟩ := z7.three
      have HC := Lib.hid (app_clone z7 HF.out)
      clear z7
      go_wp2_with fail
      refine HC.out.mono ?_
      rintro e w8 ⟨y, us, rfl, hm8, k8⟩
      obtain ⟨A8, c8, rfl⟩ := hm8.form
      have q0 := k8.bC.cell 0
      have q1 := k8.bC.cell 1
      have q2 := k8.bC.cell 2
      have q3 := k8.bC.frozen 0
      have q4 := k8.bC.frozen 1
      have q5 := k8.bC.frozen 2
      simp at q0 q1 q2
      go_wp2_with fail
      rw [HT.out.1, HT.out.2]
      refine bodyPost_ret (apply_results rfl rfl ((((k8.bC.set_ 0 _).set_ 1 _).set_ 2 _).eq_ rfl)) rfl ⟨_, us, rfl, ?_, ((k8.bel.setCell (by simp) _).setCell (by simp) _).setCell (by simp) _⟩
      exact Mk.less (B := w.heap.size + 2) (((hm8.put (by omega) _).put (by omega) _).put (by omega) _) (by omega)
    · have HT : Hid (t.applyT gs = .mk 0 0 [] ∧ t.applyE gs = 3) := Lib.hid (by simp [T.applyT, T.applyE, hf])
      have hlg : (t.applied gs).large = true := by simp [T.large]; omega
      rw [hlg] at HL
      clear hf hlg
      go_wp2_with fail
      refine HL.out.mono ?_
      rintro e w7 ⟨rfl, z7⟩
      have q0 := z7.k.bC.cell 0
      have q1 := z7.k.bC.cell 1
      have q2 := z7.k.bC.cell 2
      have q3 := z7.k.bC.frozen 0
      have q4 := z7.k.bC.frozen 1
      have q5 := z7.k.bC.frozen 2
      simp at q0 q1 q2
      clear x0 x1 x2 HL
      go_wp2_with fail
      rw [HT.out.1, HT.out.2]
      refine bodyPost_ret (apply_results rfl rfl ((((z7.k.bC.set_ 0 _).set_ 1 _).set_ 2 _).eq_ rfl)) rfl ⟨_, [], rfl, Mk.nil _ _, ((z7.k.bel.setCell (by simp) _).setCell (by simp) _).setCell (by simp) _⟩
end Go.Proofs.YtkkfdiidneoelaaGreatDoor
