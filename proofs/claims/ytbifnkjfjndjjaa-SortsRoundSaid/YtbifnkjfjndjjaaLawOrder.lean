/-
  SortsOrder and SortsPut: Order and Put answer as the reference does, and the example comes out.
-/
import Derived.Test.YtbifnkjfjndjjaaKept
namespace Go.Proofs.Ytbifnkjfjndjjaa
open Go.RowKit

set_option maxHeartbeats 1600000 in
set_option maxRecDepth 100000 in
theorem lawOrder_any (s : S) (v : Value) (w : World) (lo hi : Nat) (hin : s.In w lo hi v) (hhi : hi ≤ w.heap.size) :
    Calls Try.prog 5 #[.agg #[v]] w fun e w' => e = .returned (.bool true) ∧ Below w.heap.size w w' := by
  obtain ⟨A, n, c, rfl⟩ := hin.form
  have HK0 := Kept.start hin hhi
  generalize hX : (Value.slice A n c) = X at *
  clear hX
  have HS := Lib.hid (fun W (h : Kept s X lo hi w w.heap.size W) => (Order_any s _ W lo hi h.ins h.hw).mono fun e w' ⟨he, hb⟩ => (⟨he, h.next hb⟩ : e = _ ∧ Kept s X lo hi w w.heap.size w'))
  have HT := Lib.hid (fun W (h : Kept s X lo hi w w.heap.size W) => (refOrder_any s _ W lo hi h.ins h.hw).mono fun e w' ⟨he, hb⟩ => (⟨he, h.next hb⟩ : e = _ ∧ Kept s X lo hi w w.heap.size w'))
  generalize s.orders.1 = z1 at *
  generalize s.orders.2 = z2 at *
  go_enter Try.func5, Try.ntmps5
  go_wp2_with fail
  refine (HS.out _ HK0).mono ?_
  rintro e w1 ⟨rfl, k1⟩
  have c1 := k1.cell
  go_wp2_with fail
  refine (HT.out _ k1).mono ?_
  rintro e w2 ⟨rfl, k2⟩
  go_wp2_with fail
  refine (alive_any w2).mono ?_
  rintro e w3 ⟨rfl, hb3⟩
  go_wp2_with fail
  go_ret
  exact ⟨rfl, (k2.next hb3).bel⟩

set_option maxHeartbeats 1600000 in
set_option maxRecDepth 100000 in
theorem lawPut_any (s : S) (v : Value) (w : World) (lo hi : Nat) (hin : s.In w lo hi v) (hhi : hi ≤ w.heap.size) :
    Calls Try.prog 7 #[.agg #[v]] w fun e w' => e = .returned (.bool true) ∧ Below w.heap.size w w' := by
  obtain ⟨A, n, c, rfl⟩ := hin.form
  have HK0 := Kept.start hin hhi
  generalize hX : (Value.slice A n c) = X at *
  clear hX
  have HS := Lib.hid (fun W (h : Kept s X lo hi w w.heap.size W) => (put_any s _ W lo hi h.ins h.hw).mono fun e w' ⟨he, hb⟩ => (⟨he, h.next hb⟩ : e = _ ∧ Kept s X lo hi w w.heap.size w'))
  have HT := Lib.hid (fun W (h : Kept s X lo hi w w.heap.size W) => (refPut_any s _ W lo hi h.ins h.hw).mono fun e w' ⟨he, hb⟩ => (⟨he, h.next hb⟩ : e = _ ∧ Kept s X lo hi w w.heap.size w'))
  generalize (⟨s.puts.toArray⟩ : ByteArray) = z1 at *
  generalize errOf s.ok = z2 at *
  go_enter Try.func7, Try.ntmps7
  go_wp2_with fail
  refine (HS.out _ HK0).mono ?_
  rintro e w1 ⟨rfl, k1⟩
  have c1 := k1.cell
  go_wp2_with fail
  refine (HT.out _ k1).mono ?_
  rintro e w2 ⟨rfl, k2⟩
  go_wp2_with fail
  refine (alive_any w2).mono ?_
  rintro e w3 ⟨rfl, hb3⟩
  go_wp2_with fail
  go_ret
  exact ⟨rfl, (k2.next hb3).bel⟩

theorem S.behindS_count (s : S) (k : Int) : (s.behindS k).count ≤ 60 := by
  by_cases hE : s.behindE k = 0
  · have hok : s.ok = true := by
      cases h : s.ok with
      | true => rfl
      | false => rw [S.behindE_bad s h] at hE; cases hE
    have hc := S.ok_count hok
    rw [S.behindS, if_pos hE]
    obtain ⟨l⟩ := s
    have := S.countL_drop_le l k.toNat
    simp only [S.count, S.args] at hc ⊢
    omega
  · rw [S.behindS, if_neg hE]
    simp [S.count, S.countL]

set_option maxHeartbeats 1600000 in
set_option maxRecDepth 100000 in
theorem lawBehind_any (s : S) (v : Value) (k : Int) (w : World) (lo hi : Nat) (hin : s.In w lo hi v) (hhi : hi ≤ w.heap.size) :
    Calls Try.prog 6 #[.agg #[v], .int .i64 k] w fun e w' => e = .returned (.bool true) ∧ Below w.heap.size w w' := by
  obtain ⟨A, n, c, rfl⟩ := hin.form
  have HK0 := Kept.start hin hhi
  generalize hX : (Value.slice A n c) = X at *
  clear hX
  have hcnt := s.behindS_count k
  have HS := Lib.hid (fun W (h : Kept s X lo hi w w.heap.size W) => behind_any s X k W lo hi h.ins h.hw)
  have HT := Lib.hid (fun W (h : Kept s X lo hi w w.heap.size W) => refBehind_any s X k W lo hi h.ins h.hw)
  unfold Behinds at HS HT
  generalize s.behindE k = E at *
  generalize s.behindS k = t at *
  go_enter Try.func6, Try.ntmps6
  go_wp2_with fail
  refine (HS.out _ HK0).mono ?_
  rintro e w1 ⟨v1, f1, rfl, s1, _, r1, b1⟩
  obtain ⟨A1, n1, c1, rfl⟩ := s1.form
  have k1 := HK0.next b1
  have i1 := s1.in_ _ r1
  have hw1 : Below w1.heap.size w1 (w1.alloc (.cells #[.slice A1 n1 c1] 24)) := (Below.refl _ _).alloc (Nat.le_refl _) _
  have k2 := k1.next hw1
  have d2 := k2.cell
  have i2 := i1.below hw1 (Nat.le_refl _)
  have x2 := Blk.new w1 24 #[.slice A1 n1 c1]
  go_wp2_with fail
  refine (HT.out _ k2).mono ?_
  rintro e w2 ⟨v2, f2, rfl, s2, _, r2, b2⟩
  obtain ⟨A2, n2, c2, rfl⟩ := s2.form
  have k3 := k2.next b2
  have i3 := s2.in_ _ r2
  have i4 := i2.below b2 (by simp)
  have x3 := x2.below b2 (by simp)
  have z3 := b2.size
  simp only [World.size_alloc] at z3
  have hw2 : Below w2.heap.size w2 (w2.alloc (.cells #[.slice A2 n2 c2] 24)) := (Below.refl _ _).alloc (Nat.le_refl _) _
  have k4 := k3.next hw2
  have i5 := i4.below hw2 (by omega)
  have i6 := i3.below hw2 (Nat.le_refl _)
  have x4 := x3.below hw2 (by omega)
  have y4 := Blk.new w2 24 #[.slice A2 n2 c2]
  have e4 := x4.cell 0
  have g4 := y4.cell 0
  have HM := refSame_any t t _ _ _ _ _ _ _ i5 (by simp; omega) i6 (by simp)
  simp only [hcnt, decide_true, Bool.true_and, (S.eqb_iff t t).2 rfl] at HM
  have HN := Lib.hid HM
  clear HM
  go_wp2_with fail
  refine HN.out.mono ?_
  rintro e w5 ⟨rfl, b5⟩
  go_wp2_with fail
  refine (alive_any w5).mono ?_
  rintro e w6 ⟨rfl, b6⟩
  go_wp2_with fail
  go_ret
  exact ⟨rfl, ((k4.next b5).next b6).bel⟩
end Go.Proofs.Ytbifnkjfjndjjaa
