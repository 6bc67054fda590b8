/-
  term.Apply: its contract.
-/
import Derived.Test.YtmggccgjhjknpaaTConcat
import Derived.Test.YtmggccgjhjknpaaTSize
namespace Go.Proofs.Ytmggccgjhjknpaa
open Go.RowKit

/-- What Apply answers. -/
def T.applied (t : T) (gs : List T) : T := .mk t.kind t.num (t.args ++ gs)
def T.applyE (t : T) (gs : List T) : Int := if (t.applied gs).count ≤ 100000 then 0 else 3
def T.applyT (t : T) (gs : List T) : T := if (t.applied gs).count ≤ 100000 then t.applied gs else .mk 0 0 []

/-- A term in its box, a box for the result, two lists below B, kept. -/
structure AppCtx (t : T) (gs : List T) (v u : Value) (B : Nat) (w0 w : World) : Prop where
  bA : Blk w B 35 #[.int .i64 t.kind, .int .i64 t.num, v]
  bC : Blk w (B + 1) 35 #[.int .i64 0, .int .i64 0, .slice none 0 0]
  iT : T.InL w (fun b => b < B) t.args v
  iS : T.InL w (fun b => b < B) gs u
  hz : B + 2 ≤ w.heap.size
  bel : Below B w0 w
theorem AppCtx.next {t : T} {gs : List T} {v u : Value} {B : Nat} {w0 w w' : World} (h : AppCtx t gs v u B w0 w) (hb : Below (B + 2) w w') : AppCtx t gs v u B w0 w' :=
  ⟨h.bA.below hb (by omega), h.bC.below hb (by omega), T.In.below h.iT hb (fun b hb => by omega), T.In.below h.iS hb (fun b hb => by omega), Nat.le_trans h.hz hb.size, h.bel.trans (hb.mono (by omega))⟩
theorem AppCtx.nx {t : T} {gs : List T} {v u : Value} {B : Nat} {w0 w w' : World} (h : AppCtx t gs v u B w0 w) (hb : Below w.heap.size w w') : AppCtx t gs v u B w0 w' := h.next (hb.mono h.hz)
theorem AppCtx.start {t : T} {gs : List T} {v u : Value} {P Q : Nat → Prop} {w : World} (hin : t.In w P v) (hold : Old P w) (hins : T.InL w Q gs u) (holds : Old Q w) :
    AppCtx t gs v u w.heap.size w ((w.alloc (.cells #[.int .i64 t.kind, .int .i64 t.num, v] 35)).alloc (.cells #[.int .i64 0, .int .i64 0, .slice none 0 0] 35)) := by
  have hw2 : Below w.heap.size w ((w.alloc (.cells #[.int .i64 t.kind, .int .i64 t.num, v] 35)).alloc (.cells #[.int .i64 0, .int .i64 0, .slice none 0 0] 35)) := ((Below.refl _ _).alloc (Nat.le_refl _) _).alloc (by simp) _
  refine ⟨(Blk.new _ _ _).alloc _, ?_, ?_, ?_, by simp, hw2⟩
  · simpa using Blk.new (w.alloc (.cells #[.int .i64 t.kind, .int .i64 t.num, v] 35)) 35 #[.int .i64 0, .int .i64 0, .slice none 0 0]
  · obtain ⟨k, n, l⟩ := t
    exact T.InL.of (k := k) (n := n) ((hin.old hold hw2).more (fun b hb => hold b hb) _)
  · exact T.In.more (fun b hb => holds b hb) _ (T.In.old hins holds hw2)

/-- .. and the whole term in its box. -/
structure AppEnd (t : T) (gs : List T) (v u : Value) (B : Nat) (w0 : World) (g : Nat) (x : Value) (w : World) : Prop where
  k : AppCtx t gs v u B w0 w
  b : Blk w g 35 #[.int .i64 t.kind, .int .i64 t.num, x]
  i : (t.applied gs).In w (fun b => b < w.heap.size) x
theorem AppEnd.nx {t : T} {gs : List T} {v u : Value} {B : Nat} {w0 : World} {g : Nat} {x : Value} {w w' : World} (h : AppEnd t gs v u B w0 g x w) (hb : Below w.heap.size w w') : AppEnd t gs v u B w0 g x w' :=
  ⟨h.k.nx hb, h.b.below hb h.b.lt, (h.i.below hb (fun _ hh => hh)).more (fun b hh => Nat.lt_of_lt_of_le hh hb.size) _⟩
theorem AppEnd.fresh {t : T} {gs : List T} {v u : Value} {B M : Nat} {w0 : World} {x : Value} {w : World} (h : AppCtx t gs v u B w0 w) (hi : T.InL w (fun b => b < B ∨ M ≤ b ∧ b < w.heap.size) (t.args ++ gs) x) :
    AppEnd t gs v u B w0 w.heap.size x (w.alloc (.cells #[.int .i64 t.kind, .int .i64 t.num, x] 35)) := by
  have hb : Below w.heap.size w (w.alloc (.cells #[.int .i64 t.kind, .int .i64 t.num, x] 35)) := (Below.refl _ _).alloc (Nat.le_refl _) _
  have hz := h.hz
  exact ⟨h.nx hb, Blk.new _ _ _, T.InL.to (T.In.more (fun b hh => by simp; omega) _ (T.In.below hi hb (fun b hh => by omega)))⟩
theorem AppEnd.stored {t : T} {gs : List T} {v u : Value} {B M g : Nat} {w0 : World} {x y0 y1 y2 : Value} {w : World} (h : AppCtx t gs v u B w0 w) (hi : T.InL w (fun b => b < B ∨ M ≤ b ∧ b < w.heap.size) (t.args ++ gs) x) (hg : Blk w g 35 #[y0, y1, y2]) (h1 : B + 2 ≤ g) (h2 : g < M) :
    AppEnd t gs v u B w0 g x (((w.setCell ⟨g, 0, none⟩ (.int .i64 t.kind)).setCell ⟨g, 1, none⟩ (.int .i64 t.num)).setCell ⟨g, 2, none⟩ x) := by
  have hb : Below (B + 2) w (((w.setCell ⟨g, 0, none⟩ (.int .i64 t.kind)).setCell ⟨g, 1, none⟩ (.int .i64 t.num)).setCell ⟨g, 2, none⟩ x) := (((Below.refl _ _).setCell h1 _).setCell h1 _).setCell h1 _
  have hz := h.hz
  refine ⟨h.next hb, (((hg.set_ 0 _).set_ 1 _).set_ 2 _).eq_ rfl, T.InL.to (T.In.more (fun b hh => by simp [World.setCell]; omega) _ (T.In.keep (fun b hh => ?_) _ hi))⟩
  rw [Below.heap_setCell _ _ _ _ (by show b ≠ g; omega), Below.heap_setCell _ _ _ _ (by show b ≠ g; omega), Below.heap_setCell _ _ _ _ (by show b ≠ g; omega)]
theorem AppEnd.three {t : T} {gs : List T} {v u : Value} {B : Nat} {w0 : World} {g : Nat} {x : Value} {w : World} (h : AppEnd t gs v u B w0 g x w) : w.cell? ⟨g, 0, none⟩ = some (.int .i64 t.kind) ∧ w.cell? ⟨g, 1, none⟩ = some (.int .i64 t.num) ∧ w.cell? ⟨g, 2, none⟩ = some x := by
  have a0 := h.b.cell 0
  have a1 := h.b.cell 1
  have a2 := h.b.cell 2
  simp at a0 a1 a2
  exact ⟨a0, a1, a2⟩
theorem app_large {t : T} {gs : List T} {v u : Value} {B : Nat} {w0 : World} {g : Nat} {x : Value} {w : World} (h : AppEnd t gs v u B w0 g x w) :
    Calls Try.prog 49 #[.agg #[.int .i64 t.kind, .int .i64 t.num, x]] w fun e w' => e = .returned (.bool (t.applied gs).large) ∧ AppEnd t gs v u B w0 g x w' :=
  (tooLarge_any (t.applied gs) x w _ h.i (fun _ hh => hh)).mono fun e w' ⟨he, hb⟩ => ⟨he, h.nx hb⟩
theorem app_clone {t : T} {gs : List T} {v u : Value} {B : Nat} {w0 : World} {g : Nat} {x : Value} {w : World} (h : AppEnd t gs v u B w0 g x w) (hf : (t.applied gs).count ≤ 100000) :
    Calls Try.prog 69 #[.agg #[.int .i64 t.kind, .int .i64 t.num, x]] w fun e w' => ∃ y us, e = .returned (.agg #[.int .i64 t.kind, .int .i64 t.num, y]) ∧ Mk (B + 2) w' (t.applied gs).args y us ∧ AppCtx t gs v u B w0 w' :=
  (cloneT_any _ (t.applied gs) x w _ (Nat.le_refl _) hf h.i (fun _ hh => hh)).mono fun e w' ⟨y, us, he, hm, hb⟩ => ⟨y, us, he, hm.less h.k.hz, h.k.nx hb⟩
theorem apply_results {tmps : Array Value} {w : World} {a : Nat} {x y z u : Value} (h2 : tmps.getD 4 undef = .pointer (some ⟨a, 0, none⟩)) (h3 : tmps.getD 5 undef = u)
    (ha : Blk w a 35 #[x, y, z]) : (results Try.f32 tmps).run Try.prog w = .ok (.tuple #[.agg #[x, y, z], u]) w := by
  have h4 := ha.cell 0
  have h5 := ha.cell 1
  have h6 := ha.cell 2
  simp at h4 h5 h6
  have h2' : tmps[4]?.getD undef = .pointer (some ⟨a, 0, none⟩) := by simpa using h2
  have h3' : tmps[5]?.getD undef = u := by simpa using h3
  simp [results, Try.results32, go_sem, h2', h3', h4, h5, h6]
theorem S_three {w : World} {g b : Nat} {x y z u0 u1 u2 : Value} (h : w.cell? ⟨g, 0, none⟩ = some x ∧ w.cell? ⟨g, 1, none⟩ = some y ∧ w.cell? ⟨g, 2, none⟩ = some z) (hne : g ≠ b) :
    (((w.setCell ⟨b, 0, none⟩ u0).setCell ⟨b, 1, none⟩ u1).setCell ⟨b, 2, none⟩ u2).cell? ⟨g, 0, none⟩ = some x ∧ (((w.setCell ⟨b, 0, none⟩ u0).setCell ⟨b, 1, none⟩ u1).setCell ⟨b, 2, none⟩ u2).cell? ⟨g, 1, none⟩ = some y ∧ (((w.setCell ⟨b, 0, none⟩ u0).setCell ⟨b, 1, none⟩ u1).setCell ⟨b, 2, none⟩ u2).cell? ⟨g, 2, none⟩ = some z := by
  have hk : (((w.setCell ⟨b, 0, none⟩ u0).setCell ⟨b, 1, none⟩ u1).setCell ⟨b, 2, none⟩ u2).heap[g]? = w.heap[g]? := by
    rw [Below.heap_setCell _ _ _ _ hne, Below.heap_setCell _ _ _ _ hne, Below.heap_setCell _ _ _ _ hne]
  exact ⟨(World.cell?_of_block (w := w) hk).trans h.1, (World.cell?_of_block (w := w) hk).trans h.2.1, (World.cell?_of_block (w := w) hk).trans h.2.2⟩
theorem Blk_one (w : World) (o : Obj) (t : Nat) (xs : Array Value) : Blk ((w.alloc o).alloc (.cells xs t)) (w.heap.size + 1) t xs := by
  have h := Blk.new (w.alloc o) t xs
  rwa [World.size_alloc] at h
theorem app_call {t : T} {gs : List T} {v u : Value} {B : Nat} {w0 w1 W : World} {g : Nat} (hl : t.args.length ≤ 3518437208883) (hm : gs.length ≤ 3518437208883) (k : AppCtx t gs v u B w0 w1) (hW : Below (B + 2) w1 W) (hb : Blk W g 33 #[v, u]) :
    Calls Try.prog 68 #[.slice (some ⟨g, 0, none⟩) 2 2] W fun e w' => ∃ x, e = .returned x ∧ AppCtx t gs v u B w0 w' ∧ T.InL w' (fun b => b < B ∨ W.heap.size ≤ b ∧ b < w'.heap.size) (t.args ++ gs) x ∧ Below W.heap.size W w' := by
  have k1 := k.next hW
  have hz := k1.hz
  refine (concat_any t.args gs v u g W (fun b => b < B) hb k1.iT k1.iS (fun b hb => by omega) hl hm).mono ?_
  rintro e w' ⟨x, rfl, hi, hbb⟩
  exact ⟨x, rfl, k1.nx hbb, hi, hbb⟩

set_option maxRecDepth 100000 in
set_option maxHeartbeats 1600000 in
theorem apply_any (t : T) (v u : Value) (gs : List T) (w : World) (P Q : Nat → Prop) (hin : t.In w P v) (hold : Old P w) (hins : T.InL w Q gs u) (holds : Old Q w) (hl : t.args.length ≤ 3518437208883) (hm : gs.length ≤ 3518437208883) :
    Calls Try.prog 32 #[.agg #[.int .i64 t.kind, .int .i64 t.num, v], u] w (Gave (t.applyT gs) (t.applyE gs) w) := by
  have k0 := AppCtx.start hin hold hins holds
  obtain ⟨A, n, c, rfl⟩ := hin.form
  obtain ⟨A1, n1, c1, rfl⟩ := T.In.form hins
  have hz2 : ((w.alloc (.cells #[.int .i64 t.kind, .int .i64 t.num, .slice A n c] 35)).alloc (.cells #[.int .i64 0, .int .i64 0, .slice none 0 0] 35)).heap.size = w.heap.size + 2 := by simp
  have hc1 := app_call (W := (((w.alloc (.cells #[.int .i64 t.kind, .int .i64 t.num, .slice A n c] 35)).alloc (.cells #[.int .i64 0, .int .i64 0, .slice none 0 0] 35)).alloc (.cells #[.slice A n c, .slice A1 n1 c1] 33)).drew) (g := w.heap.size + 1 + 1) hl hm k0 (((Below.refl _ _).alloc (by omega) _).drew) (by rw [show w.heap.size + 1 + 1 = ((w.alloc (.cells #[.int .i64 t.kind, .int .i64 t.num, .slice A n c] 35)).alloc (.cells #[.int .i64 0, .int .i64 0, .slice none 0 0] 35)).heap.size from by rw [hz2]]; exact (Blk.new _ _ _).drew)
  have hc2 := app_call (W := ((((w.alloc (.cells #[.int .i64 t.kind, .int .i64 t.num, .slice A n c] 35)).alloc (.cells #[.int .i64 0, .int .i64 0, .slice none 0 0] 35)).alloc (.cells #[.slice A n c, .slice A1 n1 c1] 33)).alloc (.cells #[.int .i64 0, .int .i64 0, .slice none 0 0] 35)).drew) (g := w.heap.size + 1 + 1) hl hm k0 ((((Below.refl _ _).alloc (by omega) _).alloc (by simp) _).drew) (by rw [show w.heap.size + 1 + 1 = ((w.alloc (.cells #[.int .i64 t.kind, .int .i64 t.num, .slice A n c] 35)).alloc (.cells #[.int .i64 0, .int .i64 0, .slice none 0 0] 35)).heap.size from by rw [hz2]]; exact ((Blk.new _ _ _).alloc _).drew)
  have hc3 := app_call (W := ((((w.alloc (.cells #[.int .i64 t.kind, .int .i64 t.num, .slice A n c] 35)).alloc (.cells #[.int .i64 0, .int .i64 0, .slice none 0 0] 35)).alloc (.cells #[.int .i64 0, .int .i64 0, .slice none 0 0] 35)).alloc (.cells #[.slice A n c, .slice A1 n1 c1] 33)).drew) (g := w.heap.size + 1 + 1 + 1) hl hm k0 ((((Below.refl _ _).alloc (by omega) _).alloc (by simp) _).drew) (by rw [show w.heap.size + 1 + 1 + 1 = ((w.alloc (.cells #[.int .i64 t.kind, .int .i64 t.num, .slice A n c] 35)).alloc (.cells #[.int .i64 0, .int .i64 0, .slice none 0 0] 35)).heap.size + 1 from by rw [hz2]]; exact (Blk_one _ _ _ _).drew)
  have t2 : Blk ((((w.alloc (.cells #[.int .i64 t.kind, .int .i64 t.num, .slice A n c] 35)).alloc (.cells #[.int .i64 0, .int .i64 0, .slice none 0 0] 35)).alloc (.cells #[.slice A n c, .slice A1 n1 c1] 33)).alloc (.cells #[.int .i64 0, .int .i64 0, .slice none 0 0] 35)).drew (w.heap.size + 1 + 1 + 1) 35 #[.int .i64 0, .int .i64 0, .slice none 0 0] := by rw [show w.heap.size + 1 + 1 + 1 = ((w.alloc (.cells #[.int .i64 t.kind, .int .i64 t.num, .slice A n c] 35)).alloc (.cells #[.int .i64 0, .int .i64 0, .slice none 0 0] 35)).heap.size + 1 from by rw [hz2]]; exact (Blk_one _ _ _ _).drew
  have t3 : Blk ((((w.alloc (.cells #[.int .i64 t.kind, .int .i64 t.num, .slice A n c] 35)).alloc (.cells #[.int .i64 0, .int .i64 0, .slice none 0 0] 35)).alloc (.cells #[.int .i64 0, .int .i64 0, .slice none 0 0] 35)).alloc (.cells #[.slice A n c, .slice A1 n1 c1] 33)).drew (w.heap.size + 1 + 1) 35 #[.int .i64 0, .int .i64 0, .slice none 0 0] := by rw [show w.heap.size + 1 + 1 = ((w.alloc (.cells #[.int .i64 t.kind, .int .i64 t.num, .slice A n c] 35)).alloc (.cells #[.int .i64 0, .int .i64 0, .slice none 0 0] 35)).heap.size from by rw [hz2]]; exact ((Blk.new _ _ _).alloc _).drew
  have HC1 := Lib.hid hc1
  have HC2 := Lib.hid hc2
  have HC3 := Lib.hid hc3
  have T2 := Lib.hid t2
  have T3 := Lib.hid t3
  clear hin hins hl hm hc1 hc2 hc3 t2 t3
  have HZ2 := Lib.hid hz2
  clear hz2
  go_enter Try.func32, Try.ntmps32
  go_wp2_with fail
  go_region_held3 (fun w' => w'.cell? ⟨w.heap.size, 0, none⟩ = some (.int .i64 t.kind) ∧ w'.cell? ⟨w.heap.size, 1, none⟩ = some (.int .i64 t.num) ∧ w'.cell? ⟨w.heap.size, 2, none⟩ = some (.slice A n c)) (first | go_keep | assumption | exact S_three ‹_› (by omega))
    (first
      | (go_at_call 68
         first
           | ((with_reducible refine HC1.out.mono ?_); rintro e w5 ⟨x, rfl, k5, i5, b5⟩)
           | ((with_reducible refine HC2.out.mono ?_); rintro e w5 ⟨x, rfl, k5, i5, b5⟩; have t6 := Blk.below T2.out b5 T2.out.lt; have f0 := t6.frozen 0; have f1 := t6.frozen 1; have f2 := t6.frozen 2; have p0 := t6.cell 0; have p1 := t6.cell 1; have p2 := t6.cell 2; simp at p0 p1 p2)
           | ((with_reducible refine HC3.out.mono ?_); rintro e w5 ⟨x, rfl, k5, i5, b5⟩; have t6 := Blk.below T3.out b5 T3.out.lt; have f0 := t6.frozen 0; have f1 := t6.frozen 1; have f2 := t6.frozen 2; have p0 := t6.cell 0; have p1 := t6.cell 1; have p2 := t6.cell 2; simp at p0 p1 p2)
         have y0 := k5.bA.cell 0
         have y1 := k5.bA.cell 1
         have y2 := k5.bA.cell 2
         simp at y0 y1 y2
         have Q : w5.cell? ⟨w.heap.size, 0, none⟩ = some (.int .i64 t.kind) ∧ w5.cell? ⟨w.heap.size, 1, none⟩ = some (.int .i64 t.num) ∧ w5.cell? ⟨w.heap.size, 2, none⟩ = some (.slice A n c) := ⟨y0, y1, y2⟩
         clear y0 y1 y2 b5
         obtain ⟨A5, n5, c5, rfl⟩ := T.In.form i5
      ))
  all_goals
    first
      | have z6 := AppEnd.stored k5 i5 t6 (by omega) (by simp [World.drew] <;> omega)
      | have z6 := AppEnd.fresh k5 i5
    obtain ⟨x0, x1, x2⟩ := z6.three
    clear k5 i5
    have HL := Lib.hid (app_large z6)
    clear z6
    by_cases hf : (t.applied gs).count ≤ 100000
    · have HT : Hid (t.applyT gs = t.applied gs ∧ t.applyE gs = 0) := Lib.hid (by simp [T.applyT, T.applyE, hf])
      have hlg : (t.applied gs).large = false := by simp [T.large]; omega
      rw [hlg] at HL
      have HF := Lib.hid hf
      clear hf hlg
      go_wp2_with fail
      refine HL.out.mono ?_
      rintro e w7 ⟨rfl, z7⟩
      clear x0 x1 x2 HL
      obtain ⟨x0, x1, x2⟩ := z7.three
      have HC := Lib.hid (app_clone z7 HF.out)
      clear z7
      go_wp2_with fail
      refine HC.out.mono ?_
      rintro e w8 ⟨y, us, rfl, hm8, k8⟩
      obtain ⟨A8, c8, rfl⟩ := hm8.form
      have q0 := k8.bC.cell 0
      have q1 := k8.bC.cell 1
      have q2 := k8.bC.cell 2
      have q3 := k8.bC.frozen 0
      have q4 := k8.bC.frozen 1
      have q5 := k8.bC.frozen 2
      simp at q0 q1 q2
      go_wp2_with fail
      rw [HT.out.1, HT.out.2]
      refine bodyPost_ret (apply_results rfl rfl ((((k8.bC.set_ 0 _).set_ 1 _).set_ 2 _).eq_ rfl)) rfl ⟨_, us, rfl, ?_, ((k8.bel.setCell (by simp) _).setCell (by simp) _).setCell (by simp) _⟩
      exact Mk.less (B := w.heap.size + 2) (((hm8.put (by omega) _).put (by omega) _).put (by omega) _) (by omega)
    · have HT : Hid (t.applyT gs = .mk 0 0 [] ∧ t.applyE gs = 3) := Lib.hid (by simp [T.applyT, T.applyE, hf])
      have hlg : (t.applied gs).large = true := by simp [T.large]; omega
      rw [hlg] at HL
      clear hf hlg
      go_wp2_with fail
      refine HL.out.mono ?_
      rintro e w7 ⟨rfl, z7⟩
      have q0 := z7.k.bC.cell 0
      have q1 := z7.k.bC.cell 1
      have q2 := z7.k.bC.cell 2
      have q3 := z7.k.bC.frozen 0
      have q4 := z7.k.bC.frozen 1
      have q5 := z7.k.bC.frozen 2
      simp at q0 q1 q2
      clear x0 x1 x2 HL
      go_wp2_with fail
      rw [HT.out.1, HT.out.2]
      refine bodyPost_ret (apply_results rfl rfl ((((z7.k.bC.set_ 0 _).set_ 1 _).set_ 2 _).eq_ rfl)) rfl ⟨_, [], rfl, Mk.nil _ _, ((z7.k.bel.setCell (by simp) _).setCell (by simp) _).setCell (by simp) _⟩
end Go.Proofs.Ytmggccgjhjknpaa
