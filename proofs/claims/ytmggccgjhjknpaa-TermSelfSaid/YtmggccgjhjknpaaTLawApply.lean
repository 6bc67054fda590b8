/-
  TermApply: a term applied to more arguments, for every term and all args that can be read, and the example comes out.
-/
import Derived.Test.YtmggccgjhjknpaaTLawNodes
import Derived.Test.YtmggccgjhjknpaaTRefApply
namespace Go.Proofs.Ytmggccgjhjknpaa
open Go.RowKit

set_option maxHeartbeats 800000 in
set_option maxRecDepth 100000 in
/-- The law's own is, of one term in two places and one error. -/
theorem sameIs_any (r : T) (v u : Value) (E : Int) (w : World) (P Q : Nat → Prop) (hin : r.In w P v) (hold : Old P w) (hin2 : r.In w Q u) (hold2 : Old Q w) (hsm : r.count ≤ 100000) :
    Calls Try.prog 31 #[.agg #[.int .i64 r.kind, .int .i64 r.num, v], .int .i64 E, .agg #[.int .i64 r.kind, .int .i64 r.num, u], .int .i64 E] w fun e w' => e = .returned (.bool true) ∧ Below w.heap.size w w' := by
  have hw2 : Below w.heap.size w ((w.alloc (.cells #[.int .i64 r.kind, .int .i64 r.num, v] 35)).alloc (.cells #[.int .i64 r.kind, .int .i64 r.num, u] 35)) := ((Below.refl _ _).alloc (Nat.le_refl _) _).alloc (by simp) _
  obtain ⟨A, n, c, rfl⟩ := hin.form
  obtain ⟨A1, n1, c1, rfl⟩ := hin2.form
  have HS := Lib.hid (refSameT_any r r _ _ _ _ _ (hin.old hold hw2) (hold.bel hw2) (hin2.old hold2 hw2) (hold2.bel hw2))
  have hlg : r.large = false := by simp [T.large]; omega
  rw [hlg, (T.eqb_iff r r).2 rfl] at HS
  simp only [Bool.not_false, Bool.and_self] at HS
  clear hlg
  go_enter Try.func31, Try.ntmps31
  go_wp2_with fail
  refine HS.out.mono ?_
  rintro e w1 ⟨rfl, b1⟩
  go_wp2_with fail
  go_ret
  exact ⟨rfl, hw2.trans (b1.mono (by simp; omega))⟩

set_option maxHeartbeats 1600000 in
set_option maxRecDepth 100000 in
theorem lawApplyT_any (t : T) (v : Value) (gs : List T) (u : Value) (w : World) (P Q : Nat → Prop) (hl : t.args.length ≤ 3518437208883) (hm : gs.length ≤ 3518437208883) (hin : t.In w P v) (hold : Old P w) (hins : T.InL w Q gs u) (holds : Old Q w) :
    Calls Try.prog 8 #[.agg #[.int .i64 t.kind, .int .i64 t.num, v], u] w fun e w' => e = .returned (.bool true) ∧ Below w.heap.size w w' := by
  have k0 := LN.start hin hold hins holds
  have hsm : (t.applyT gs).count ≤ 100000 := by unfold T.applyT; split <;> simp_all [T.count, T.countL]
  have HX := Lib.hid (apply_any t v u gs _ P Q k0.iT k0.oT k0.iL k0.oL hl hm)
  have HY := Lib.hid (fun w' (k : LN t v gs u P Q w.heap.size w w') => refApply_any t v u gs w' P Q k.iT k.oT k.iL k.oL (by omega))
  obtain ⟨A, n, c, rfl⟩ := hin.form
  obtain ⟨A1, n1, c1, rfl⟩ := T.In.form hins
  have HA := Lib.hid aliveT_any
  generalize t.applyT gs = r at *
  generalize t.applyE gs = E at *
  have x0 := k0.three
  clear hin hins
  go_enter Try.func8, Try.ntmps8
  go_wp2_with fail
  refine HX.out.mono ?_
  rintro e w1 hg
  obtain ⟨A2, c2, rfl, i2, b2⟩ := hg.to
  have k1 := k0.next b2
  have hw2 : Below w1.heap.size w1 (w1.alloc (.cells #[.int .i64 r.kind, .int .i64 r.num, .slice A2 r.args.length c2] 35)) := (Below.refl _ _).alloc (Nat.le_refl _) _
  have k2 : LR t (.slice A n c) gs (.slice A1 n1 c1) P Q w.heap.size w r (.slice A2 r.args.length c2) w1.heap.size (w1.alloc (.cells #[.int .i64 r.kind, .int .i64 r.num, .slice A2 r.args.length c2] 35)) := ⟨k1.next hw2, Blk.new _ _ _, In_next i2 hw2⟩
  have HY2 := Lib.hid (HY.out _ k2.k)
  obtain ⟨y0, y1, y2⟩ := k2.k.three
  clear hg i2 b2 k0 k1 x0 HX HY
  generalize r.args.length = lr at *
  go_wp2_with fail
  refine HY2.out.mono ?_
  rintro e w3 hg
  obtain ⟨A3, c3, rfl, i3, b3⟩ := hg.to
  have hw4 : Below w3.heap.size w3 (w3.alloc (.cells #[.int .i64 r.kind, .int .i64 r.num, .slice A3 r.args.length c3] 35)) := (Below.refl _ _).alloc (Nat.le_refl _) _
  have k4 := (k2.next b3).next hw4
  have i4 := In_next i3 hw4
  have hb4 : Blk (w3.alloc (.cells #[.int .i64 r.kind, .int .i64 r.num, .slice A3 r.args.length c3] 35)) w3.heap.size 35 #[.int .i64 r.kind, .int .i64 r.num, .slice A3 r.args.length c3] := Blk.new _ _ _
  have HI := Lib.hid (sameIs_any r _ _ E _ _ _ k4.i (fun _ hh => hh) i4 (fun _ hh => hh) hsm)
  clear hg i3 b3 k2 y0 y1 y2 i4
  have z0 := k4.b.cell 0
  have z1 := k4.b.cell 1
  have z2 := k4.b.cell 2
  simp at z0 z1 z2
  go_wp2_with fail
  refine HI.out.mono ?_
  rintro e w5 ⟨rfl, b5⟩
  have k5 := k4.next b5
  go_wp2_with fail
  refine (HA.out _).mono ?_
  rintro e w6 ⟨rfl, b6⟩
  have k6 := k5.next b6
  go_wp2_with fail
  go_ret
  exact ⟨rfl, k6.k.bel⟩
end Go.Proofs.Ytmggccgjhjknpaa
