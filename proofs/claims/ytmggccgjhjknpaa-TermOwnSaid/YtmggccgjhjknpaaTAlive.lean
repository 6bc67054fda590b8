/-
  The statements' check that the chapter's example comes out.
-/
import Derived.Test.YtmggccgjhjknpaaRefSort
import Derived.Test.YtmggccgjhjknpaaTSubst
namespace Go.Proofs.Ytmggccgjhjknpaa
open Go.RowKit

def exT : T := .mk 0 0 [.mk 0 0 [.mk 0 1 []]]
def exA : List T := [.mk 2 0 [.mk 2 1 []], .mk 2 1 []]
def exW : T := .mk 2 0 [.mk 2 1 [], .mk 2 0 [.mk 2 1 [], .mk 2 1 []]]
def exP : Pl := ⟨[⟨⟨#[97]⟩, 2⟩, ⟨⟨#[99]⟩, 0⟩], [], [.mk [.mk []], .mk []]⟩
theorem ex_sortE : exP.sortE exT = 0 := by decide +kernel
theorem ex_sortS : (exP.sortS exT).args.length = 0 := by decide +kernel
theorem ex_substE : T.substE exA exT = 0 := by decide +kernel
theorem ex_substT : T.substT exA exT = exW := (T.eqb_iff _ _).1 (by decide +kernel)
theorem ex_sizes : exW.sizes.1 = 5 := by decide +kernel
theorem ex_same : (!exW.large && (!exW.large && exW.eqb exW)) = true := by decide +kernel

theorem variable_results {tmps : Array Value} {w : World} {a : Nat} {x y z : Value} (h2 : tmps.getD 4 undef = .pointer (some ⟨a, 0, none⟩))
    (ha : Blk w a 35 #[x, y, z]) : (results Try.f34 tmps).run Try.prog w = .ok (.agg #[x, y, z]) w := by
  have h4 := ha.cell 0
  have h5 := ha.cell 1
  have h6 := ha.cell 2
  simp at h4 h5 h6
  have h2' : tmps[4]?.getD undef = .pointer (some ⟨a, 0, none⟩) := by simpa using h2
  simp [results, Try.results34, go_sem, h2', h4, h5, h6]
theorem symbol_results {tmps : Array Value} {w : World} {a : Nat} {x y z : Value} (h2 : tmps.getD 4 undef = .pointer (some ⟨a, 0, none⟩))
    (ha : Blk w a 35 #[x, y, z]) : (results Try.f45 tmps).run Try.prog w = .ok (.agg #[x, y, z]) w := by
  have h4 := ha.cell 0
  have h5 := ha.cell 1
  have h6 := ha.cell 2
  simp at h4 h5 h6
  have h2' : tmps[4]?.getD undef = .pointer (some ⟨a, 0, none⟩) := by simpa using h2
  simp [results, Try.results45, go_sem, h2', h4, h5, h6]
set_option maxHeartbeats 400000 in
theorem variable_any (n : Int) (A : Option Addr) (m c : Nat) (w : World) : Calls Try.prog 34 #[.int .i64 n, .slice A m c] w fun e w' => e = .returned (.agg #[.int .i64 0, .int .i64 n, .slice A m c]) ∧ Below w.heap.size w w' := by
  go_enter Try.func34, Try.ntmps34
  go_wp2_with fail
  exact bodyPost_ret (variable_results rfl (Blk.new _ _ _)) rfl ⟨rfl, (Below.refl _ _).alloc (Nat.le_refl _) _⟩
set_option maxHeartbeats 400000 in
theorem symbol_any (n : Int) (A : Option Addr) (m c : Nat) (w : World) : Calls Try.prog 45 #[.int .i64 n, .slice A m c] w fun e w' => e = .returned (.agg #[.int .i64 2, .int .i64 n, .slice A m c]) ∧ Below w.heap.size w w' := by
  go_enter Try.func45, Try.ntmps45
  go_wp2_with fail
  exact bodyPost_ret (symbol_results rfl (Blk.new _ _ _)) rfl ⟨rfl, (Below.refl _ _).alloc (Nat.le_refl _) _⟩

/-- A list of terms in a block that is known whole. -/
theorem InL_blk {w : World} {g : Nat} {l : List T} {us : List Value} (hb : Blk w g 35 us.toArray) (hrow : T.Row w (fun b => b < w.heap.size) l us) (n : Nat) (hn : l.length = n) (hl : n ≤ 100) : T.InL w (fun b => b < w.heap.size) l (.slice (some ⟨g, 0, none⟩) n n) := by
  unfold T.InL
  refine T.In.mk_ hn (Nat.le_refl _) (by omega) (.inr ⟨_, rfl, hb.lt, fun j u hj => ?_⟩) hrow
  have hadd : (⟨g, 0, none⟩ : Addr).add j = ⟨g, j, none⟩ := by unfold Addr.add; split <;> simp_all
  rw [hadd, hb.cell]
  simpa using hj
theorem In_nil {w : World} {P : Nat → Prop} {k n : Int} : (T.mk k n []).In w P (.slice none 0 0) := T.In.mk_ rfl (Nat.le_refl _) (by omega) (.inl rfl) (by simp [T.Row])
theorem In_next {w w' : World} {t : T} {v : Value} (h : t.In w (fun b => b < w.heap.size) v) (hb : Below w.heap.size w w') : t.In w' (fun b => b < w'.heap.size) v :=
  (T.In.below h hb (fun _ hh => hh)).more (fun _ hh => Nat.lt_of_lt_of_le hh hb.size) _
theorem InL_next {w w' : World} {l : List T} {v : Value} (h : T.InL w (fun b => b < w.heap.size) l v) (hb : Below w.heap.size w w') : T.InL w' (fun b => b < w'.heap.size) l v := In_next h hb
theorem Row1 {w : World} {P : Nat → Prop} {k n : Int} {l : List T} {v : Value} (h : T.InL w P l v) : T.Row w P [.mk k n l] [.int .i64 k, .int .i64 n, v] := by
  simp only [T.Row]; exact ⟨v, [], rfl, T.InL.to h, rfl⟩
theorem Row2 {w : World} {P : Nat → Prop} {k n k' n' : Int} {l l' : List T} {v v' : Value} (h : T.InL w P l v) (h' : T.InL w P l' v') : T.Row w P [.mk k n l, .mk k' n' l'] [.int .i64 k, .int .i64 n, v, .int .i64 k', .int .i64 n', v'] := by
  simp only [T.Row]; exact ⟨v, _, rfl, T.InL.to h, v', [], rfl, T.InL.to h', rfl⟩
theorem InL_nil {w : World} {P : Nat → Prop} : T.InL w P [] (.slice none 0 0) := In_nil

/-- The place of the chapter's example. -/
theorem exP_in {w : World} {a b c hi : Nat} (hS : Blk w a 66 #[.string ⟨#[97]⟩, .int .i64 2, .string ⟨#[99]⟩, .int .i64 0]) (hA : Blk w b 40 #[.slice none 0 0])
    (hB : Blk w c 40 #[.slice (some ⟨b, 0, none⟩) 1 1, .slice none 0 0]) (ha : a < hi) (hb : b < hi) (hc : c < hi) :
    PlIn w 0 hi exP (.slice (some ⟨a, 0, none⟩) 2 2) (.slice none 0 0) (.slice (some ⟨c, 0, none⟩) 2 2) := by
  have c0 := hA.cell 0
  have c1 := hB.cell 0
  have c2 := hB.cell 1
  simp at c0 c1 c2
  refine ⟨⟨_, _, _, rfl, rfl, by omega, by omega, .inr ⟨_, rfl, ha, fun j u hj => ?_⟩, ?_⟩, S.In_nil, ?_⟩
  · have hadd : (⟨a, 0, none⟩ : Addr).add j = ⟨a, j, none⟩ := by unfold Addr.add; split <;> simp_all
    rw [hadd, hS.cell]
    simpa [exP, syCells] using hj
  · simp [exP, maxLen]; exact ⟨by decide, by decide⟩
  · simp only [exP, S.In, S.All]
    exact ⟨_, _, _, rfl, rfl, by omega, by omega, ⟨_, _, rfl, by omega, hc, c1, _, _, _, rfl, rfl, by omega, by omega, ⟨_, _, rfl, by omega, hb, c0, _, _, _, rfl, rfl, by omega, by omega, trivial⟩, trivial⟩, ⟨_, _, rfl, by omega, hc, c2, _, _, _, rfl, rfl, by omega, by omega, trivial⟩, trivial⟩
def exW0 (w : World) : World := ((((w.alloc (.cells #[.slice none 0 0] 40)).alloc (.cells #[.string ⟨#[97]⟩, .int .i64 2, .string ⟨#[99]⟩, .int .i64 0] 66)).alloc (.cells #[.slice none 0 0] 40)).alloc (.cells #[.slice (some ⟨w.heap.size + 1 + 1, 0, none⟩) 1 1, .slice none 0 0] 40)).alloc (.cells #[.slice (some ⟨w.heap.size + 1, 0, none⟩) 2 2, .slice none 0 0, .slice (some ⟨w.heap.size + 1 + 1 + 1, 0, none⟩) 2 2] 28)
theorem exW0_size (w : World) : (exW0 w).heap.size = w.heap.size + 5 := by simp [exW0]
theorem exW0_bel (w : World) : Below w.heap.size w (exW0 w) := (((((Below.refl _ _).alloc (Nat.le_refl _) _).alloc (by simp) _).alloc (by simp; omega) _).alloc (by simp; omega) _).alloc (by simp; omega) _
theorem exW0_S (w : World) : Blk (exW0 w) (w.heap.size + 1) 66 #[.string ⟨#[97]⟩, .int .i64 2, .string ⟨#[99]⟩, .int .i64 0] := by
  have h := Blk.new (w.alloc (.cells #[.slice none 0 0] 40)) 66 #[.string ⟨#[97]⟩, .int .i64 2, .string ⟨#[99]⟩, .int .i64 0]
  simp only [World.size_alloc] at h
  exact ((h.alloc _).alloc _).alloc _
theorem exW0_A (w : World) : Blk (exW0 w) (w.heap.size + 2) 40 #[.slice none 0 0] := by
  have h := Blk.new ((w.alloc (.cells #[.slice none 0 0] 40)).alloc (.cells #[.string ⟨#[97]⟩, .int .i64 2, .string ⟨#[99]⟩, .int .i64 0] 66)) 40 #[.slice none 0 0]
  simp only [World.size_alloc] at h
  exact (h.alloc _).alloc _
theorem exW0_B (w : World) : Blk (exW0 w) (w.heap.size + 3) 40 #[.slice (some ⟨w.heap.size + 2, 0, none⟩) 1 1, .slice none 0 0] := by
  have h := Blk.new (((w.alloc (.cells #[.slice none 0 0] 40)).alloc (.cells #[.string ⟨#[97]⟩, .int .i64 2, .string ⟨#[99]⟩, .int .i64 0] 66)).alloc (.cells #[.slice none 0 0] 40)) 40 #[.slice (some ⟨w.heap.size + 1 + 1, 0, none⟩) 1 1, .slice none 0 0]
  simp only [World.size_alloc] at h
  exact h.alloc _
theorem exW0_P (w : World) : Blk (exW0 w) (w.heap.size + 4) 28 #[.slice (some ⟨w.heap.size + 1, 0, none⟩) 2 2, .slice none 0 0, .slice (some ⟨w.heap.size + 3, 0, none⟩) 2 2] := by
  have h := Blk.new ((((w.alloc (.cells #[.slice none 0 0] 40)).alloc (.cells #[.string ⟨#[97]⟩, .int .i64 2, .string ⟨#[99]⟩, .int .i64 0] 66)).alloc (.cells #[.slice none 0 0] 40)).alloc (.cells #[.slice (some ⟨w.heap.size + 1 + 1, 0, none⟩) 1 1, .slice none 0 0] 40)) 28 #[.slice (some ⟨w.heap.size + 1, 0, none⟩) 2 2, .slice none 0 0, .slice (some ⟨w.heap.size + 1 + 1 + 1, 0, none⟩) 2 2]
  simp only [World.size_alloc] at h
  exact h

/-- The boxes of the term and of its sort, kept. -/
structure ExCtx (w0 : World) (g3 g4 : Nat) (A A5 : Option Addr) (c5 : Nat) (w : World) : Prop where
  b3 : Blk w g3 35 #[.int .i64 0, .int .i64 0, .slice A 1 1]
  b4 : Blk w g4 40 #[.slice A5 0 c5]
  i : T.InL w (fun b => b < w.heap.size) exT.args (.slice A 1 1)
  bel : Below w0.heap.size w0 w
  le : w0.heap.size ≤ w.heap.size
theorem ExCtx.next {w0 : World} {g3 g4 : Nat} {A A5 : Option Addr} {c5 : Nat} {w w' : World} (h : ExCtx w0 g3 g4 A A5 c5 w) (hb : Below w.heap.size w w') : ExCtx w0 g3 g4 A A5 c5 w' :=
  ⟨h.b3.below hb h.b3.lt, h.b4.below hb h.b4.lt, InL_next h.i hb, h.bel.trans (hb.mono h.le), Nat.le_trans h.le hb.size⟩
theorem ExCtx.next2 {w0 : World} {g3 g4 : Nat} {A A5 : Option Addr} {c5 : Nat} {w W w' : World} (h : ExCtx w0 g3 g4 A A5 c5 w) (hb : Below W.heap.size W w') (hX : Below w.heap.size w W) : ExCtx w0 g3 g4 A A5 c5 w' :=
  (h.next hX).next hb
theorem InL_next2 {w W w' : World} {l : List T} {v : Value} (h : T.InL w (fun b => b < w.heap.size) l v) (hb : Below W.heap.size W w') (hX : Below w.heap.size w W) : T.InL w' (fun b => b < w'.heap.size) l v := InL_next (InL_next h hX) hb
theorem Blk_next2 {w W w' : World} {g t : Nat} {xs : Array Value} (h : Blk w g t xs) (hb : Below W.heap.size W w') (hX : Below w.heap.size w W) : Blk w' g t xs := (h.below hX h.lt).below hb (Nat.lt_of_lt_of_le h.lt hX.size)
theorem S_set3 {w : World} {g b : Nat} {x y z u0 u1 u2 : Value} (h : w.cell? ⟨g, 0, none⟩ = some x ∧ w.cell? ⟨g, 1, none⟩ = some y ∧ w.cell? ⟨g, 2, none⟩ = some z) (hne : g ≠ b) :
    (((w.setCell ⟨b, 0, none⟩ u0).setCell ⟨b, 1, none⟩ u1).setCell ⟨b, 2, none⟩ u2).cell? ⟨g, 0, none⟩ = some x ∧ (((w.setCell ⟨b, 0, none⟩ u0).setCell ⟨b, 1, none⟩ u1).setCell ⟨b, 2, none⟩ u2).cell? ⟨g, 1, none⟩ = some y ∧ (((w.setCell ⟨b, 0, none⟩ u0).setCell ⟨b, 1, none⟩ u1).setCell ⟨b, 2, none⟩ u2).cell? ⟨g, 2, none⟩ = some z := by
  have hk : (((w.setCell ⟨b, 0, none⟩ u0).setCell ⟨b, 1, none⟩ u1).setCell ⟨b, 2, none⟩ u2).heap[g]? = w.heap[g]? := by
    rw [Below.heap_setCell _ _ _ _ hne, Below.heap_setCell _ _ _ _ hne, Below.heap_setCell _ _ _ _ hne]
  exact ⟨(World.cell?_of_block (w := w) hk).trans h.1, (World.cell?_of_block (w := w) hk).trans h.2.1, (World.cell?_of_block (w := w) hk).trans h.2.2⟩
theorem Blk1 (w : World) (o : Obj) (t : Nat) (xs : Array Value) : Blk ((w.alloc o).alloc (.cells xs t)) (w.heap.size + 1) t xs := by
  simpa using Blk.new (w.alloc o) t xs
/-- The boxes of the result and of the sort, kept. -/
structure ExEnd (w0 : World) (g4 g6 : Nat) (A5 : Option Addr) (c5 : Nat) (A6 : Option Addr) (n6 c6 : Nat) (w : World) : Prop where
  b4 : Blk w g4 40 #[.slice A5 0 c5]
  b6 : Blk w g6 35 #[.int .i64 2, .int .i64 0, .slice A6 n6 c6]
  i : T.InL w (fun b => b < w.heap.size) exW.args (.slice A6 n6 c6)
  bel : Below w0.heap.size w0 w
  le : w0.heap.size ≤ w.heap.size
theorem ExEnd.next {w0 : World} {g4 g6 : Nat} {A5 A6 : Option Addr} {c5 n6 c6 : Nat} {w w' : World} (h : ExEnd w0 g4 g6 A5 c5 A6 n6 c6 w) (hb : Below w.heap.size w w') : ExEnd w0 g4 g6 A5 c5 A6 n6 c6 w' :=
  ⟨h.b4.below hb h.b4.lt, h.b6.below hb h.b6.lt, InL_next h.i hb, h.bel.trans (hb.mono h.le), Nat.le_trans h.le hb.size⟩
theorem ExEnd.late {w0 : World} {g3 g4 B : Nat} {A A5 A6 : Option Addr} {c5 n6 c6 : Nat} {w : World} (h : ExCtx w0 g3 g4 A A5 c5 w) (hi : T.InL w (fun b => B ≤ b ∧ b < w.heap.size) exW.args (.slice A6 n6 c6)) :
    ExEnd w0 g4 w.heap.size A5 c5 A6 n6 c6 (w.alloc (.cells #[.int .i64 2, .int .i64 0, .slice A6 n6 c6] 35)) := by
  have hb : Below w.heap.size w (w.alloc (.cells #[.int .i64 2, .int .i64 0, .slice A6 n6 c6] 35)) := (Below.refl _ _).alloc (Nat.le_refl _) _
  exact ⟨h.b4.below hb h.b4.lt, Blk.new _ _ _, InL_next (hi.more (fun _ hh => hh.2) _) hb, h.bel.trans (hb.mono h.le), Nat.le_trans h.le hb.size⟩
theorem ExEnd.early {w0 : World} {g3 g4 g6 B : Nat} {A A5 A6 : Option Addr} {c5 n6 c6 : Nat} {w : World} (h : ExCtx w0 g3 g4 A A5 c5 w) (hi : T.InL w (fun b => B ≤ b ∧ b < w.heap.size) exW.args (.slice A6 n6 c6))
    (h6 : Blk w g6 35 #[.int .i64 0, .int .i64 0, .slice none 0 0]) (hB : g6 < B) (h46 : g4 < g6) (h06 : w0.heap.size ≤ g6) :
    ExEnd w0 g4 g6 A5 c5 A6 n6 c6 (((w.setCell ⟨g6, 0, none⟩ (.int .i64 2)).setCell ⟨g6, 1, none⟩ (.int .i64 0)).setCell ⟨g6, 2, none⟩ (.slice A6 n6 c6)) := by
  refine ⟨((h.b4.far (by simp; omega) _).far (by simp; omega) _).far (by simp; omega) _, (((h6.set_ 0 _).set_ 1 _).set_ 2 _).eq_ rfl, ?_, ((h.bel.setCell h06 _).setCell h06 _).setCell h06 _, by simpa using h.le⟩
  refine T.In.more (P := fun b => B ≤ b ∧ b < w.heap.size) (fun _ hh => by simpa using hh.2) _ (T.In.keep (fun b hb => ?_) _ hi)
  rw [Below.heap_setCell _ _ _ _ (by simp; omega), Below.heap_setCell _ _ _ _ (by simp; omega), Below.heap_setCell _ _ _ _ (by simp; omega)]
theorem exSubst (v u : Value) (W : World) (hin : T.InL W (fun b => b < W.heap.size) exT.args v) (hins : T.InL W (fun b => b < W.heap.size) exA u) :
    Calls Try.prog 29 #[.agg #[.int .i64 0, .int .i64 0, v], u] W fun e w' => ∃ A n c, e = .returned (.tuple #[.agg #[.int .i64 2, .int .i64 0, .slice A n c], .int .i64 0]) ∧ T.InL w' (fun b => W.heap.size ≤ b ∧ b < w'.heap.size) exW.args (.slice A n c) ∧ Below W.heap.size W w' := by
  refine (subst_any exA exT v u W _ _ (T.InL.to hin) (fun _ h => h) hins (fun _ h => h) (by decide)).mono ?_
  rintro e w' ⟨v', us, rfl, hm, hb⟩
  rw [ex_substT] at hm ⊢
  rw [ex_substE]
  have hi := hm.in_
  obtain ⟨A, c, rfl⟩ := hm.form
  exact ⟨A, _, c, rfl, hi, hb⟩
theorem exSort (v0 v1 v2 v : Value) (W : World) (hi : Nat) (hp : PlIn W 0 hi exP v0 v1 v2) (hhi : hi ≤ W.heap.size) (hin : T.InL W (fun b => b < W.heap.size) exT.args v) :
    Calls Try.prog 22 #[.agg #[v0, v1, v2], .agg #[.int .i64 0, .int .i64 0, v]] W fun e w' => ∃ A c, e = .returned (.tuple #[.agg #[.slice A 0 c], .int .i64 0]) ∧ Below W.heap.size W w' := by
  refine (termSort_any exP v0 v1 v2 exT v W hi _ hp hhi (T.InL.to hin) (fun _ h => h)).mono ?_
  rintro e w' ⟨v', rfl, hs, hb⟩
  have hl := ex_sortS
  rw [ex_sortE]
  generalize exP.sortS exT = s at hs hl
  cases s with
  | mk l =>
    simp only [S.args] at hl
    obtain ⟨A, n, c, rfl, hn, _, _, _⟩ := hs
    have : n = 0 := by omega
    subst this
    exact ⟨A, c, rfl, hb⟩

theorem exSize (v : Value) (W : World) (hin : T.InL W (fun b => b < W.heap.size) exW.args v) :
    Calls Try.prog 18 #[.agg #[.int .i64 2, .int .i64 0, v]] W fun e w' => ∃ d : Int, e = .returned (.tuple #[.int .i64 5, .int .i64 d]) ∧ Below W.heap.size W w' := by
  refine (sizeT_any exW v W _ (T.InL.to hin) (fun _ h => h)).mono ?_
  rintro e w' ⟨rfl, hb⟩
  rw [ex_sizes]
  exact ⟨_, rfl, hb⟩
theorem exSame (v u : Value) (W : World) (hin : T.InL W (fun b => b < W.heap.size) exW.args v) (hin2 : T.InL W (fun b => b < W.heap.size) exW.args u) :
    Calls Try.prog 21 #[.agg #[.int .i64 2, .int .i64 0, v], .agg #[.int .i64 2, .int .i64 0, u]] W fun e w' => e = .returned (.bool true) ∧ Below W.heap.size W w' := by
  refine (refSameT_any exW exW v u W _ _ (T.InL.to hin) (fun _ h => h) (T.InL.to hin2) (fun _ h => h)).mono ?_
  rintro e w' ⟨rfl, hb⟩
  rw [ex_same]
  exact ⟨rfl, hb⟩

set_option maxHeartbeats 3200000 in
set_option maxRecDepth 100000 in
theorem aliveT_any (w : World) : Calls Try.prog 17 #[] w fun e w' => e = .returned (.bool true) ∧ Below w.heap.size w w' := by
  have HSort := Lib.hid exSort
  have HSubst := Lib.hid exSubst
  have HSize := Lib.hid exSize
  have HSame := Lib.hid exSame
  go_enter Try.func17, Try.ntmps17
  go_wp2_with fail
  refine (variable_any 1 none 0 0 (exW0 w)).mono ?_
  rintro e w1 ⟨rfl, b1⟩
  have e0 := exW0_size w
  have z1 := b1.size
  have hS1 := (exW0_S w).below b1 (by omega)
  have hA1 := (exW0_A w).below b1 (by omega)
  have hB1 := (exW0_B w).below b1 (by omega)
  have hP1 := (exW0_P w).below b1 (by omega)
  have f1 := (exW0_bel w).trans (b1.mono (by omega))
  have hw2 : Below w1.heap.size w1 (w1.alloc (.cells #[.int .i64 0, .int .i64 1, .slice none 0 0] 35)) := (Below.refl _ _).alloc (Nat.le_refl _) _
  have i2 : T.InL (w1.alloc (.cells #[.int .i64 0, .int .i64 1, .slice none 0 0] 35)) (fun b => b < (w1.alloc (.cells #[.int .i64 0, .int .i64 1, .slice none 0 0] 35)).heap.size) [.mk 0 1 []] (.slice (some ⟨w1.heap.size, 0, none⟩) 1 1) := InL_blk (Blk.new _ _ _) (Row1 InL_nil) 1 rfl (by omega)
  go_wp2_with fail
  refine (variable_any 0 _ 1 1 (w1.alloc (.cells #[.int .i64 0, .int .i64 1, .slice none 0 0] 35))).mono ?_
  rintro e w2 ⟨rfl, b2⟩
  have z2 := b2.size
  have i2' := InL_next i2 b2
  have f2 := f1.trans ((hw2.trans (b2.mono (by simp))).mono (by omega))
  have d2 := hw2.trans (b2.mono (by simp))
  have hw3 : Below w2.heap.size w2 (w2.alloc (.cells #[.int .i64 0, .int .i64 0, .slice (some ⟨w1.heap.size, 0, none⟩) 1 1] 35)) := (Below.refl _ _).alloc (Nat.le_refl _) _
  have i3 : T.InL (w2.alloc (.cells #[.int .i64 0, .int .i64 0, .slice (some ⟨w1.heap.size, 0, none⟩) 1 1] 35)) (fun b => b < (w2.alloc (.cells #[.int .i64 0, .int .i64 0, .slice (some ⟨w1.heap.size, 0, none⟩) 1 1] 35)).heap.size) [.mk 0 0 [.mk 0 1 []]] (.slice (some ⟨w2.heap.size, 0, none⟩) 1 1) := InL_blk (Blk.new _ _ _) (Row1 (InL_next i2' hw3)) 1 rfl (by omega)
  go_wp2_with fail
  refine (variable_any 0 _ 1 1 (w2.alloc (.cells #[.int .i64 0, .int .i64 0, .slice (some ⟨w1.heap.size, 0, none⟩) 1 1] 35))).mono ?_
  rintro e w3 ⟨rfl, b3⟩
  have z3 := b3.size
  have i3' := InL_next i3 b3
  have d3 := hw3.trans (b3.mono (by simp))
  have hw4 : Below w3.heap.size w3 (w3.alloc (.cells #[.int .i64 0, .int .i64 0, .slice (some ⟨w2.heap.size, 0, none⟩) 1 1] 35)) := (Below.refl _ _).alloc (Nat.le_refl _) _
  have g4 := ((d2.trans (d3.mono (by simp at z2; omega))).trans (hw4.mono (by simp at z2 z3; omega)))
  have hT4 : Blk (w3.alloc (.cells #[.int .i64 0, .int .i64 0, .slice (some ⟨w2.heap.size, 0, none⟩) 1 1] 35)) w3.heap.size 35 #[.int .i64 0, .int .i64 0, .slice (some ⟨w2.heap.size, 0, none⟩) 1 1] := Blk.new _ _ _
  have i4 := InL_next i3' hw4
  have hS4 := hS1.below g4 hS1.lt
  have hA4 := hA1.below g4 hA1.lt
  have hB4 := hB1.below g4 hB1.lt
  have hP4 := hP1.below g4 hP1.lt
  have f4 := f1.trans (g4.mono (by omega))
  have p4 : PlIn (w3.alloc (.cells #[.int .i64 0, .int .i64 0, .slice (some ⟨w2.heap.size, 0, none⟩) 1 1] 35)) 0 (w.heap.size + 5) exP _ _ _ := exP_in hS4 hA4 hB4 (by omega) (by omega) (by omega)
  have q0 := hP4.cell 0
  have q1 := hP4.cell 1
  have q2 := hP4.cell 2
  simp at q0 q1 q2
  have HC := Lib.hid (HSort.out _ _ _ _ _ _ p4 (by simp at z2 z3 ⊢; omega) i4)
  clear hS1 hA1 hB1 hP1 hS4 hA4 hB4 p4 i2 i2' i3 i3' d2 d3 HSort
  go_wp2_with fail
  refine HC.out.mono ?_
  rintro e w5 ⟨A5, c5, rfl, b5⟩
  have z5 := b5.size
  clear hP4 q0 q1 q2 HC
  have hw6 : Below w5.heap.size w5 (w5.alloc (.cells #[.slice A5 0 c5] 40)) := (Below.refl _ _).alloc (Nat.le_refl _) _
  have k6 : ExCtx w w3.heap.size w5.heap.size (some ⟨w2.heap.size, 0, none⟩) A5 c5 (w5.alloc (.cells #[.slice A5 0 c5] 40)) :=
    ⟨(hT4.below b5 hT4.lt).alloc _, Blk.new _ _ _, InL_next (InL_next i4 b5) hw6, (f4.trans (b5.mono (by simp at z2 z3 z5 ⊢; omega))).trans (hw6.mono (by simp at z2 z3 z5 ⊢; omega)), by simp at z2 z3 z5 ⊢; omega⟩
  clear f1 f2 f4 g4 hT4 i4 b1 b2 b3 b5 hw2 hw3 hw4 hw6
  have x0 := k6.b3.cell 0
  have x1 := k6.b3.cell 1
  have x2 := k6.b3.cell 2
  simp at x0 x1 x2
  have hnb : w3.heap.size < w5.heap.size := by simp at z5; omega
  clear z1 z2 z3 z5 e0
  have t6 : True := trivial
  have stage1 : True := trivial
  generalize w3.heap.size = g3 at k6 x0 x1 x2 hnb ⊢
  have hnb' : ¬ w5.heap.size = g3 := by omega
  have x0' : (w5.alloc (.cells #[.slice A5 0 c5] 40)).cell? ⟨g3, 0, none⟩ = some (.int .i64 0) := x0
  go_wp2_with fail
  clear x0' hnb'
  have hle0 : w.heap.size ≤ w5.heap.size + 1 := by simpa using k6.le
  rename_i K5 hK5
  have hrest : ∀ (y0 y1 y2 y3 y11 y12 y13 y14 y15 y16 y17 y18 y19 y20 y21 y22 y23 y24 y25 y26 y27 y28 y29 y30 y31 y32 y33 y34 y35 y36 y37 y38 y39 y40 y41 : Value) (g6 : Nat) (A6 : Option Addr) (n6 c6 : Nat) (W : World), ExEnd w w5.heap.size g6 A5 c5 A6 n6 c6 W → K5 ⟨#[y0, y1, y2, y3, .pointer (some ⟨w5.heap.size, 0, none⟩), .int .i64 0, .pointer (some ⟨g6, 0, none⟩), .int .i64 0, undef, undef, undef, y11, y12, y13, y14, y15, y16, y17, y18, y19, y20, y21, y22, y23, y24, y25, y26, y27, y28, y29, y30, y31, y32, y33, y34, y35, y36, y37, y38, y39, y40, y41, undef, undef, undef, undef, undef, undef, undef, undef, undef, undef, undef, undef, undef, undef, undef, undef, undef, undef, undef, undef, undef, undef, undef, undef, undef, undef, undef, undef, undef, undef, undef, undef, undef], []⟩ W := by
    clear x0 x1 x2 k6 t6 stage1 HSubst hnb hle0
    intro y0 y1 y2 y3 y11 y12 y13 y14 y15 y16 y17 y18 y19 y20 y21 y22 y23 y24 y25 y26 y27 y28 y29 y30 y31 y32 y33 y34 y35 y36 y37 y38 y39 y40 y41 g6 A6 n6 c6 W kE
    refine hK5 _ _ ?_
    go_wp2_with fail
    refine (symbol_any 1 none 0 0 _).mono ?_
    rintro e w12 ⟨rfl, b12⟩
    have k12 := kE.next b12
    go_wp2_with fail
    refine (symbol_any 1 none 0 0 _).mono ?_
    rintro e w13 ⟨rfl, b13⟩
    have k13 := k12.next b13
    go_wp2_with fail
    refine (symbol_any 1 none 0 0 _).mono ?_
    rintro e w14 ⟨rfl, b14⟩
    have k14 := k13.next b14
    have hw15 : Below w14.heap.size w14 (w14.alloc (.cells #[.int .i64 2, .int .i64 1, .slice none 0 0, .int .i64 2, .int .i64 1, .slice none 0 0] 35)) := (Below.refl _ _).alloc (Nat.le_refl _) _
    have i15 : T.InL (w14.alloc (.cells #[.int .i64 2, .int .i64 1, .slice none 0 0, .int .i64 2, .int .i64 1, .slice none 0 0] 35)) (fun b => b < (w14.alloc (.cells #[.int .i64 2, .int .i64 1, .slice none 0 0, .int .i64 2, .int .i64 1, .slice none 0 0] 35)).heap.size) [.mk 2 1 [], .mk 2 1 []] (.slice (some ⟨w14.heap.size, 0, none⟩) 2 2) := InL_blk (Blk.new _ _ _) (Row2 InL_nil InL_nil) 2 rfl (by omega)
    have k15 := k14.next hw15
    clear hw15
    go_wp2_with fail
    refine (symbol_any 0 _ 2 2 _).mono ?_
    rintro e w15 ⟨rfl, b15⟩
    have k16 := k15.next b15
    have i16 := InL_next i15 b15
    have hw16 : Below w15.heap.size w15 (w15.alloc (.cells #[.int .i64 2, .int .i64 1, .slice none 0 0, .int .i64 2, .int .i64 0, .slice (some ⟨w14.heap.size, 0, none⟩) 2 2] 35)) := (Below.refl _ _).alloc (Nat.le_refl _) _
    have i17 : T.InL (w15.alloc (.cells #[.int .i64 2, .int .i64 1, .slice none 0 0, .int .i64 2, .int .i64 0, .slice (some ⟨w14.heap.size, 0, none⟩) 2 2] 35)) (fun b => b < (w15.alloc (.cells #[.int .i64 2, .int .i64 1, .slice none 0 0, .int .i64 2, .int .i64 0, .slice (some ⟨w14.heap.size, 0, none⟩) 2 2] 35)).heap.size) exW.args (.slice (some ⟨w15.heap.size, 0, none⟩) 2 2) := InL_blk (Blk.new _ _ _) (Row2 InL_nil (InL_next i16 hw16)) 2 rfl (by omega)
    have k17 := k16.next hw16
    clear hw16 i15 i16
    go_wp2_with fail
    refine (symbol_any 0 _ 2 2 _).mono ?_
    rintro e w16 ⟨rfl, b16⟩
    have k18 := k17.next b16
    have i18 := InL_next i17 b16
    have hw17 : Below w16.heap.size w16 (w16.alloc (.cells #[.int .i64 2, .int .i64 0, .slice (some ⟨w15.heap.size, 0, none⟩) 2 2] 35)) := (Below.refl _ _).alloc (Nat.le_refl _) _
    have hb8 : Blk (w16.alloc (.cells #[.int .i64 2, .int .i64 0, .slice (some ⟨w15.heap.size, 0, none⟩) 2 2] 35)) w16.heap.size 35 #[.int .i64 2, .int .i64 0, .slice (some ⟨w15.heap.size, 0, none⟩) 2 2] := Blk.new _ _ _
    have k19 := k18.next hw17
    have i19 := InL_next i18 hw17
    have q0 := k19.b6.cell 0
    have q1 := k19.b6.cell 1
    have q2 := k19.b6.cell 2
    simp at q0 q1 q2
    clear i17 i18 kE k12 k13 k14 k15 k16 k17 k18 hw17
    go_wp2_with fail
    refine (HSize.out _ _ k19.i).mono ?_
    rintro e w18 ⟨d, rfl, b18⟩
    have k20 := k19.next b18
    have i20 := InL_next i19 b18
    have hb9 := hb8.below b18 hb8.lt
    have r0 := k20.b6.cell 0
    have r1 := k20.b6.cell 1
    have r2 := k20.b6.cell 2
    have r3 := k20.b4.cell 0
    have r4 := hb9.cell 0
    have r5 := hb9.cell 1
    have r6 := hb9.cell 2
    simp at r0 r1 r2 r3 r4 r5 r6
    have HC := Lib.hid (HSame.out _ _ _ k20.i i20)
    clear q0 q1 q2
    go_wp2_with fail
    refine HC.out.mono ?_
    rintro e w19 ⟨rfl, b19⟩
    have k21 := k20.next b19
    go_wp2_with fail
    go_ret
    exact ⟨rfl, k21.bel⟩
  have HR := Lib.hid hrest
  clear hrest hK5 HSize HSame
  go_region_held3 (fun w' => w'.cell? ⟨g3, 0, none⟩ = some (.int .i64 0) ∧ w'.cell? ⟨g3, 1, none⟩ = some (.int .i64 0) ∧ w'.cell? ⟨g3, 2, none⟩ = some (.slice (some ⟨w2.heap.size, 0, none⟩) 1 1)) (first | go_keep | assumption | exact S_set3 ‹_› (by omega))
    (first
    | (clear stage1
       go_at_call 45
       refine (symbol_any 1 none 0 0 _).mono ?_
       rintro e w7 ⟨rfl, b7⟩
       have stage2 : True := trivial
       have z7 := b7.size
       try simp at z7
       have k7 := k6.next2 b7 (by first | exact (Below.refl _ _).drew | exact Below.refl _ _ | exact (Below.refl _ _).alloc (Nat.le_refl _) _ | exact ((Below.refl _ _).alloc (Nat.le_refl _) _).drew | exact ((Below.refl _ _).alloc (Nat.le_refl _) _).alloc (by simp) _)
       first
         | (have t6 : Blk w7 (w5.heap.size + 1) 35 #[.int .i64 0, .int .i64 0, .slice none 0 0] := ((Blk1 _ _ _ _).drew).below b7 (by simp))
         | skip
       clear b7
       have y0 := k7.b3.cell 0
       have y1 := k7.b3.cell 1
       have y2 := k7.b3.cell 2
       simp at y0 y1 y2
       have Q : w7.cell? ⟨g3, 0, none⟩ = some (.int .i64 0) ∧ w7.cell? ⟨g3, 1, none⟩ = some (.int .i64 0) ∧ w7.cell? ⟨g3, 2, none⟩ = some (.slice (some ⟨w2.heap.size, 0, none⟩) 1 1) := ⟨y0, y1, y2⟩
       clear y0 y1 y2
      )
    | (clear stage2
       go_at_call 45
       refine (symbol_any 0 _ 1 1 _).mono ?_
       rintro e w8 ⟨rfl, b8⟩
       have stage3 : True := trivial
       have z8 := b8.size
       try simp at z8
       have k8 := k7.next2 b8 (by first | exact (Below.refl _ _).drew | exact Below.refl _ _ | exact (Below.refl _ _).alloc (Nat.le_refl _) _ | exact ((Below.refl _ _).alloc (Nat.le_refl _) _).drew | exact ((Below.refl _ _).alloc (Nat.le_refl _) _).alloc (by simp) _)
       first
         | (have i8 : T.InL w8 (fun b => b < w8.heap.size) [.mk 2 1 []] (.slice (some ⟨w7.heap.size, 0, none⟩) 1 1) := InL_next (InL_blk (by first | exact Blk.new _ _ _ | exact (Blk.new _ _ _).alloc _ | exact Blk1 _ _ _ _) (Row1 InL_nil) 1 rfl (by omega)) b8)
         | (have i8 : T.InL w8 (fun b => b < w8.heap.size) [.mk 2 1 []] (.slice (some ⟨w7.heap.size + 1, 0, none⟩) 1 1) := InL_next (InL_blk (by first | exact Blk.new _ _ _ | exact (Blk.new _ _ _).alloc _ | exact Blk1 _ _ _ _) (Row1 InL_nil) 1 rfl (by omega)) b8)
       first
         | (have t6 := Blk_next2 t6 b8 (by first | exact (Below.refl _ _).drew | exact Below.refl _ _ | exact (Below.refl _ _).alloc (Nat.le_refl _) _ | exact ((Below.refl _ _).alloc (Nat.le_refl _) _).drew | exact ((Below.refl _ _).alloc (Nat.le_refl _) _).alloc (by simp) _))
         | (have t6 : Blk w8 w7.heap.size 35 #[.int .i64 0, .int .i64 0, .slice none 0 0] := ((Blk.new w7 _ _).alloc _).below b8 (by simp; omega))
         | (have t6 : Blk w8 (w7.heap.size + 1) 35 #[.int .i64 0, .int .i64 0, .slice none 0 0] := (Blk1 w7 _ _ _).below b8 (by simp))
         | skip
       clear b8
       have y0 := k8.b3.cell 0
       have y1 := k8.b3.cell 1
       have y2 := k8.b3.cell 2
       simp at y0 y1 y2
       have Q : w8.cell? ⟨g3, 0, none⟩ = some (.int .i64 0) ∧ w8.cell? ⟨g3, 1, none⟩ = some (.int .i64 0) ∧ w8.cell? ⟨g3, 2, none⟩ = some (.slice (some ⟨w2.heap.size, 0, none⟩) 1 1) := ⟨y0, y1, y2⟩
       clear y0 y1 y2
      )
    | (clear stage3
       go_at_call 45
       refine (symbol_any 1 none 0 0 _).mono ?_
       rintro e w9 ⟨rfl, b9⟩
       have z9 := b9.size
       try simp at z9
       have k9 := k8.next2 b9 (by first | exact (Below.refl _ _).drew | exact Below.refl _ _ | exact (Below.refl _ _).alloc (Nat.le_refl _) _ | exact ((Below.refl _ _).alloc (Nat.le_refl _) _).drew | exact ((Below.refl _ _).alloc (Nat.le_refl _) _).alloc (by simp) _)
       have i9 := InL_next2 i8 b9 (by first | exact (Below.refl _ _).drew | exact Below.refl _ _ | exact (Below.refl _ _).alloc (Nat.le_refl _) _ | exact ((Below.refl _ _).alloc (Nat.le_refl _) _).drew | exact ((Below.refl _ _).alloc (Nat.le_refl _) _).alloc (by simp) _)
       first
         | (have t6 := Blk_next2 t6 b9 (by first | exact (Below.refl _ _).drew | exact Below.refl _ _ | exact (Below.refl _ _).alloc (Nat.le_refl _) _ | exact ((Below.refl _ _).alloc (Nat.le_refl _) _).drew | exact ((Below.refl _ _).alloc (Nat.le_refl _) _).alloc (by simp) _))
         | (have t6 : Blk w9 w8.heap.size 35 #[.int .i64 0, .int .i64 0, .slice none 0 0] := (Blk.new w8 _ _).below b9 (by simp))
         | skip
       clear b9
       have y0 := k9.b3.cell 0
       have y1 := k9.b3.cell 1
       have y2 := k9.b3.cell 2
       simp at y0 y1 y2
       have Q : w9.cell? ⟨g3, 0, none⟩ = some (.int .i64 0) ∧ w9.cell? ⟨g3, 1, none⟩ = some (.int .i64 0) ∧ w9.cell? ⟨g3, 2, none⟩ = some (.slice (some ⟨w2.heap.size, 0, none⟩) 1 1) := ⟨y0, y1, y2⟩
       clear y0 y1 y2
      )
    | (go_at_call 29
       refine (HSubst.out _ _ _ (InL_next k9.i (by first | exact (Below.refl _ _).drew | exact Below.refl _ _ | exact (Below.refl _ _).alloc (Nat.le_refl _) _ | exact ((Below.refl _ _).alloc (Nat.le_refl _) _).drew | exact ((Below.refl _ _).alloc (Nat.le_refl _) _).alloc (by simp) _)) (InL_blk (by first | exact Blk.new _ _ _ | exact (Blk.new _ _ _).alloc _ | exact Blk1 _ _ _ _) (Row2 (InL_next i9 (by first | exact (Below.refl _ _).drew | exact Below.refl _ _ | exact (Below.refl _ _).alloc (Nat.le_refl _) _ | exact ((Below.refl _ _).alloc (Nat.le_refl _) _).drew | exact ((Below.refl _ _).alloc (Nat.le_refl _) _).alloc (by simp) _)) InL_nil) 2 rfl (by omega))).mono ?_
       rintro e w10 ⟨A6, n6, c6, rfl, i10, b10⟩
       have k10 := k9.next2 b10 (by first | exact (Below.refl _ _).drew | exact Below.refl _ _ | exact (Below.refl _ _).alloc (Nat.le_refl _) _ | exact ((Below.refl _ _).alloc (Nat.le_refl _) _).drew | exact ((Below.refl _ _).alloc (Nat.le_refl _) _).alloc (by simp) _)
       first
         | (have t6 := Blk_next2 t6 b10 (by first | exact (Below.refl _ _).drew | exact Below.refl _ _ | exact (Below.refl _ _).alloc (Nat.le_refl _) _ | exact ((Below.refl _ _).alloc (Nat.le_refl _) _).drew | exact ((Below.refl _ _).alloc (Nat.le_refl _) _).alloc (by simp) _)
            have u0 := t6.cell 0
            have u1 := t6.cell 1
            have u2 := t6.cell 2
            have v0 := t6.frozen 0
            have v1 := t6.frozen 1
            have v2 := t6.frozen 2
            simp at u0 u1 u2 v0 v1 v2)
         | (have t6 : Blk w10 w9.heap.size 35 #[.int .i64 0, .int .i64 0, .slice none 0 0] := ((Blk.new w9 _ _).alloc _).below b10 (by simp; omega)
            have u0 := t6.cell 0
            have u1 := t6.cell 1
            have u2 := t6.cell 2
            have v0 := t6.frozen 0
            have v1 := t6.frozen 1
            have v2 := t6.frozen 2
            simp at u0 u1 u2 v0 v1 v2)
         | (have t6 : Blk w10 (w9.heap.size + 1) 35 #[.int .i64 0, .int .i64 0, .slice none 0 0] := (Blk1 w9 _ _ _).below b10 (by simp)
            have u0 := t6.cell 0
            have u1 := t6.cell 1
            have u2 := t6.cell 2
            have v0 := t6.frozen 0
            have v1 := t6.frozen 1
            have v2 := t6.frozen 2
            simp at u0 u1 u2 v0 v1 v2)
         | skip
       clear b10
       have y0 := k10.b3.cell 0
       have y1 := k10.b3.cell 1
       have y2 := k10.b3.cell 2
       simp at y0 y1 y2
       have Q : w10.cell? ⟨g3, 0, none⟩ = some (.int .i64 0) ∧ w10.cell? ⟨g3, 1, none⟩ = some (.int .i64 0) ∧ w10.cell? ⟨g3, 2, none⟩ = some (.slice (some ⟨w2.heap.size, 0, none⟩) 1 1) := ⟨y0, y1, y2⟩
       clear y0 y1 y2
      ))
  all_goals
    clear Q x0 x1 x2
    first
      | have kE := ExEnd.early k10 i10 t6 (by first | omega | (simp; done) | (simp; omega)) (by omega) (by omega)
      | have kE := ExEnd.late k10 i10
    clear k10 i10 k6 k7 k8 k9 i8 i9
    exact HR.out _ _ _ _ _ _ _ _ _ _ _ _ _ _ _ _ _ _ _ _ _ _ _ _ _ _ _ _ _ _ _ _ _ _ _ _ _ _ _ _ kE
end Go.Proofs.Ytmggccgjhjknpaa
