/-
  TermSubst: a term with args in the place of its variables, for every term and all args that can be read, and the example comes out.
-/
import Derived.Test.YtmggccgjhjknpaaTLawApply
import Derived.Test.YtmggccgjhjknpaaTRefSubst
namespace Go.Proofs.Ytmggccgjhjknpaa
open Go.RowKit

theorem substE_small {gs : List T} {t : T} (h : T.substE gs t = 0) : (t.sub gs).count ≤ 100000 := by
  unfold T.substE at h
  split at h
  · omega
  · split at h
    · split at h
      · assumption
      · omega
    · omega

set_option maxHeartbeats 800000 in
set_option maxRecDepth 100000 in
/-- A term with more than 4000 nodes, and not more than 100000. -/
theorem different_any (t : T) (v : Value) (w : World) (P : Nat → Prop) (hin : t.In w P v) (hold : Old P w) :
    Calls Try.prog 25 #[.agg #[.int .i64 t.kind, .int .i64 t.num, v]] w fun e w' => e = .returned (.bool (!t.large && decide (4000 < t.count))) ∧ Below w.heap.size w w' := by
  have hw1 : Below w.heap.size w (w.alloc (.cells #[.int .i64 t.kind, .int .i64 t.num, v] 35)) := (Below.refl _ _).alloc (Nat.le_refl _) _
  have hbk := Blk.new w 35 #[.int .i64 t.kind, .int .i64 t.num, v]
  obtain ⟨A, n, c, rfl⟩ := hin.form
  have hin1 := hin.old hold hw1
  have HL := Lib.hid (large_any t _ _ P hin1 (hold.bel hw1))
  have HN := Lib.hid (fun w' (hb : Below (w.heap.size + 1) (w.alloc (.cells #[.int .i64 t.kind, .int .i64 t.num, .slice A n c] 35)) w') => nodesT_any _ t (.slice A n c) 4000 w' P (Nat.le_refl _) (by omega) (by omega) (hin1.below hb (fun b hb' => Nat.lt_succ_of_lt (hold b hb'))) ((hold.bel hw1).bel hb))
  cases hl : t.large with
  | true =>
    rw [hl] at HL
    clear hl
    go_enter Try.func25, Try.ntmps25
    go_wp2_with fail
    refine HL.out.mono ?_
    rintro e w1 ⟨rfl, hb1⟩
    simp only [World.size_alloc] at hb1
    go_wp2_with fail
    go_ret
    exact ⟨ret_bool (by simp), hw1.trans (hb1.mono (by omega))⟩
  | false =>
    rw [hl] at HL
    have HF : Hid (decide (4000 < min (t.count : Int) (4000 + 1)) = (!false && decide (4000 < t.count))) := Lib.hid (by
      simp only [Bool.not_false, Bool.true_and]
      exact decide_eq_decide.2 (by omega))
    generalize min (t.count : Int) (4000 + 1) = N at *
    clear hl
    go_enter Try.func25, Try.ntmps25
    go_wp2_with fail
    refine HL.out.mono ?_
    rintro e w1 ⟨rfl, hb1⟩
    simp only [World.size_alloc] at hb1
    have hbk1 := hbk.below hb1 (by omega)
    have c0 := hbk1.cell 0
    have c1 := hbk1.cell 1
    have c2 := hbk1.cell 2
    simp at c0 c1 c2
    have HN1 := Lib.hid (HN.out w1 hb1)
    have hz := hb1.size
    simp at hz
    go_wp2_with fail
    refine HN1.out.mono ?_
    rintro e w2 ⟨rfl, hb2⟩
    go_wp2_with fail
    go_ret
    exact ⟨ret_bool HF.out, (hw1.trans (hb1.mono (by omega))).trans (hb2.mono (by omega))⟩

set_option maxHeartbeats 1600000 in
set_option maxRecDepth 100000 in
theorem lawSubstT_any (t : T) (v : Value) (gs : List T) (u : Value) (w : World) (P Q : Nat → Prop) (hm : gs.length ≤ 3600000000000) (hin : t.In w P v) (hold : Old P w) (hins : T.InL w Q gs u) (holds : Old Q w) :
    Calls Try.prog 7 #[.agg #[.int .i64 t.kind, .int .i64 t.num, v], u] w fun e w' => e = .returned (.bool true) ∧ Below w.heap.size w w' := by
  have k0 := LN.start hin hold hins holds
  have hsm : (T.substT gs t).count ≤ 100000 := by
    by_cases hE : T.substE gs t = 0
    · rw [show T.substT gs t = t.sub gs from by simp [T.substT, hE]]; exact substE_small hE
    · rw [T.substT_bad rfl hE]; simp [T.count, T.countL]
  have HD := Lib.hid (different_any t v _ P k0.iT k0.oT)
  have HX0 := Lib.hid (fun w' (k : LN t v gs u P Q w.heap.size w w') => subst_any gs t v u w' P Q k.iT k.oT k.iL k.oL hm)
  have HY := Lib.hid (fun w' (k : LN t v gs u P Q w.heap.size w w') => refSubst_any t v u gs w' P Q k.iT k.oT k.iL k.oL hm)
  obtain ⟨A, n, c, rfl⟩ := hin.form
  obtain ⟨A1, n1, c1, rfl⟩ := T.In.form hins
  have HA := Lib.hid aliveT_any
  generalize T.substT gs t = r at *
  generalize T.substE gs t = E at *
  obtain ⟨x0, x1, x2⟩ := k0.three
  clear hin hins
  cases hdf : (!t.large && decide (4000 < t.count)) with
  | true =>
    rw [hdf] at HD
    clear hdf
    go_enter Try.func7, Try.ntmps7
    go_wp2_with fail
    refine HD.out.mono ?_
    rintro e w1 ⟨rfl, b1⟩
    have k1 := k0.next b1
    go_wp2_with fail
    refine (HA.out _).mono ?_
    rintro e w2 ⟨rfl, b2⟩
    have k2 := k1.next b2
    go_wp2_with fail
    go_ret
    exact ⟨rfl, k2.bel⟩
  | false =>
    rw [hdf] at HD
    clear hdf
    go_enter Try.func7, Try.ntmps7
    go_wp2_with fail
    refine HD.out.mono ?_
    rintro e w0 ⟨rfl, b0⟩
    have k00 := k0
    clear k0 x0 x1 x2
    have k0 := k00.next b0
    obtain ⟨x0, x1, x2⟩ := k0.three
    have HX := Lib.hid (HX0.out _ k0)
    clear k00 b0 HD HX0
    go_wp2_with fail
    refine HX.out.mono ?_
    rintro e w1 hg
    obtain ⟨A2, c2, rfl, i2, b2⟩ := hg.to
    have k1 := k0.next b2
    have hw2 : Below w1.heap.size w1 (w1.alloc (.cells #[.int .i64 r.kind, .int .i64 r.num, .slice A2 r.args.length c2] 35)) := (Below.refl _ _).alloc (Nat.le_refl _) _
    have k2 : LR t (.slice A n c) gs (.slice A1 n1 c1) P Q w.heap.size w r (.slice A2 r.args.length c2) w1.heap.size (w1.alloc (.cells #[.int .i64 r.kind, .int .i64 r.num, .slice A2 r.args.length c2] 35)) := ⟨k1.next hw2, Blk.new _ _ _, In_next i2 hw2⟩
    have HY2 := Lib.hid (HY.out _ k2.k)
    obtain ⟨y0, y1, y2⟩ := k2.k.three
    clear hg i2 b2 k0 k1 x0 x1 x2 HX HY
    generalize r.args.length = lr at *
    go_wp2_with fail
    refine HY2.out.mono ?_
    rintro e w3 hg
    obtain ⟨A3, c3, rfl, i3, b3⟩ := hg.to
    have hw4 : Below w3.heap.size w3 (w3.alloc (.cells #[.int .i64 r.kind, .int .i64 r.num, .slice A3 r.args.length c3] 35)) := (Below.refl _ _).alloc (Nat.le_refl _) _
    have k4 := (k2.next b3).next hw4
    have i4 := In_next i3 hw4
    have hb4 : Blk (w3.alloc (.cells #[.int .i64 r.kind, .int .i64 r.num, .slice A3 r.args.length c3] 35)) w3.heap.size 35 #[.int .i64 r.kind, .int .i64 r.num, .slice A3 r.args.length c3] := Blk.new _ _ _
    have HI := Lib.hid (sameIs_any r _ _ E _ _ _ k4.i (fun _ hh => hh) i4 (fun _ hh => hh) hsm)
    clear hg i3 b3 k2 y0 y1 y2 i4
    have z0 := k4.b.cell 0
    have z1 := k4.b.cell 1
    have z2 := k4.b.cell 2
    simp at z0 z1 z2
    go_wp2_with fail
    refine HI.out.mono ?_
    rintro e w5 ⟨rfl, b5⟩
    have k5 := k4.next b5
    go_wp2_with fail
    refine (HA.out _).mono ?_
    rintro e w6 ⟨rfl, b6⟩
    have k6 := k5.next b6
    go_wp2_with fail
    go_ret
    exact ⟨rfl, k6.k.bel⟩
end Go.Proofs.Ytmggccgjhjknpaa
