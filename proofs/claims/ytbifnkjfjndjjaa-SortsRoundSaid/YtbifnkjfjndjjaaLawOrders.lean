/-
  SortsOrders: what P1.5 says of Behind, Order and Size, and the example comes out.
-/
import Derived.Test.YtbifnkjfjndjjaaLawOrder
namespace Go.Proofs.Ytbifnkjfjndjjaa
open Go.RowKit

/-- A variable of the call's own, or a box, that holds a sort. -/
def Has (s : S) (v : Value) (g : Nat) (w : World) : Prop := ∃ lo hi, Blk w g 24 #[v] ∧ s.In w lo hi v ∧ hi ≤ w.heap.size
theorem Has.next {s : S} {v : Value} {g : Nat} {w w' : World} (h : Has s v g w) (hb : Below w.heap.size w w') : Has s v g w' := by
  obtain ⟨lo, hi, h1, h2, h3⟩ := h
  exact ⟨lo, hi, h1.below hb h1.lt, h2.below hb h3, Nat.le_trans h3 hb.size⟩
theorem Has.cell {s : S} {v : Value} {g : Nat} {w : World} (h : Has s v g w) : w.cell? ⟨g, 0, none⟩ = some v := by
  obtain ⟨lo, hi, h1, _⟩ := h
  exact h1.cell 0
theorem Has.new {s : S} {v : Value} {lo hi : Nat} {w : World} (h : s.In w lo hi v) (hhi : hi ≤ w.heap.size) : Has s v w.heap.size (w.alloc (.cells #[v] 24)) :=
  ⟨lo, hi, Blk.new _ _ _, h.below ((Below.refl _ _).alloc (Nat.le_refl _) _) hhi, by simp; omega⟩
theorem below_new (w : World) (o : Obj) : Below w.heap.size w (w.alloc o) := (Below.refl _ _).alloc (Nat.le_refl _) _

theorem S.deepL_drop_le (l : List S) (k : Nat) : S.deepL (l.drop k) ≤ S.deepL l := by
  induction l generalizing k with
  | nil => simp
  | cons a r ih => cases k with
    | zero => simp
    | succ k => have := ih k; simp [S.deepL]; omega
theorem S.ordL_drop_le (l : List S) (k : Nat) : S.ordL (l.drop k) ≤ S.ordL l := by
  induction l generalizing k with
  | nil => simp
  | cons a r ih => cases k with
    | zero => simp
    | succ k => have := ih k; simp [S.ordL]; omega
theorem S.fewL_drop (l : List S) (k : Nat) (h : S.fewL l = true) : S.fewL (l.drop k) = true := by
  induction l generalizing k with
  | nil => simpa using h
  | cons a r ih => cases k with
    | zero => simpa using h
    | succ k => simp [S.fewL] at h; simpa using ih k h.2
theorem S.ok_iff {s : S} : s.ok = true ↔ s.count ≤ 60 ∧ s.deep ≤ 30 ∧ s.few = true := by simp [S.ok, and_assoc]
theorem S.ok_drop (l : List S) (k : Nat) (h : (S.mk l).ok = true) : (S.mk (l.drop k)).ok = true := by
  rw [S.ok_iff] at h ⊢
  obtain ⟨h1, h2, h3⟩ := h
  have g1 := S.countL_drop_le l k
  have g2 := S.deepL_drop_le l k
  have g3 : (l.drop k).length ≤ l.length := by simp
  simp only [S.few, Bool.and_eq_true, decide_eq_true_eq] at h3 ⊢
  simp only [S.count] at h1 ⊢
  simp only [S.deep] at h2 ⊢
  exact ⟨by omega, by omega, S.fewL_drop l k h3.1, by omega⟩
theorem S.behindE_zero {s : S} {k : Int} (h : s.behindE k = 0) : s.ok = true ∧ 0 ≤ k ∧ k ≤ s.args.length := by
  cases hk : s.ok with
  | false => rw [S.behindE_bad s hk] at h; cases h
  | true =>
    by_cases h2 : k < 0 ∨ (s.args.length : Int) < k
    · rw [S.behindE_arg s hk h2] at h; cases h
    · exact ⟨rfl, by omega, by omega⟩

set_option maxHeartbeats 3200000 in
set_option maxRecDepth 100000 in
theorem lawOrders_any (s : S) (v : Value) (k m : Int) (w : World) (lo hi : Nat) (hin : s.In w lo hi v) (hhi : hi ≤ w.heap.size) :
    Calls Try.prog 11 #[.agg #[v], .int .i64 k, .int .i64 m] w fun e w' => e = .returned (.bool true) ∧ Below w.heap.size w w' := by
  obtain ⟨A, n, c, rfl⟩ := hin.form
  have p0 := Has.new hin hhi
  have b0 := below_new w (.cells #[.slice A n c] 24)
  have i0 := hin.below b0 hhi
  have HB := Lib.hid (behind_any s _ k _ lo hi i0 (by simp; omega))
  unfold Behinds at HB
  by_cases hE : s.behindE k = 0
  · obtain ⟨hok, hk0, hk1⟩ := S.behindE_zero hE
    obtain ⟨kn, rfl⟩ := Int.eq_ofNat_of_zero_le hk0
    have hX := s.behindS_yes hE
    have hcnt := S.ok_count hok
    have hxok : (S.mk (s.args.drop kn)).ok = true := S.ok_drop s.args kn (by rw [S.eta]; exact hok)
    have hlen : s.args.length ≤ 60 := by
      have := countL_take_bound s.args s.args.length (Nat.le_refl _)
      rw [List.take_length] at this
      obtain ⟨l⟩ := s
      simp only [S.count, S.args] at *
      omega
    have hord : (S.mk (s.args.drop kn)).ord ≤ s.ord := by
      obtain ⟨l⟩ := s
      simpa [S.ord, S.args] using S.ordL_drop_le l kn
    have hdeep := s.ord_lt
    have ho1 : s.orders = ((s.ord : Int), 0) := by simp [S.orders, hok]
    have ho2 : (S.mk (s.args.drop kn)).orders = (((S.mk (s.args.drop kn)).ord : Int), 0) := by simp [S.orders, hxok]
    have hz1 : s.sizes = (s.count, s.deep) := by simp [S.sizes, hcnt]
    have hE2 : ∀ mn : Nat, (S.mk (s.args.drop kn)).behindE mn = 0 → s.behindE (kn + mn : Int) = 0 ∧ s.behindS (kn + mn : Int) = (S.mk (s.args.drop kn)).behindS mn := by
      intro mn h
      obtain ⟨_, h1, h2⟩ := S.behindE_zero h
      have h2' : mn ≤ s.args.length - kn := by simpa [S.args] using h2
      have e1 : s.behindE (kn + mn : Int) = 0 := s.behindE_ok hok (by omega)
      refine ⟨e1, ?_⟩
      have e2 := s.behindS_yes (m := kn + mn) (by simpa using e1)
      rw [show ((kn + mn : Nat) : Int) = (kn : Int) + mn from by omega] at e2
      rw [e2, S.behindS_yes _ h]
      simp [S.args, List.drop_drop]
    have hxl : (S.mk (s.args.drop kn)).args.length ≤ s.args.length := by simp [S.args]
    rw [hE, hX] at HB
    generalize hx : S.mk (s.args.drop kn) = x at *
    by_cases hF : x.behindE m = 0
    · obtain ⟨_, hm0, hm1⟩ := S.behindE_zero hF
      obtain ⟨mn, rfl⟩ := Int.eq_ofNat_of_zero_le hm0
      have hmn : mn ≤ 60 := by have := hxl; omega
      have hkn : kn ≤ 60 := by omega
      obtain ⟨hG, hGS⟩ := hE2 mn hF
      have hyc := x.behindS_count mn
      have HO1 := Lib.hid (fun W lo hi => Order_any s (.slice A n c) W lo hi)
      have HO2 := Lib.hid (fun u W lo hi => Order_any x u W lo hi)
      have HZ := Lib.hid (fun W lo hi => size_any s (.slice A n c) W lo hi)
      have HB2 := Lib.hid (fun u W lo hi => behind_any x u mn W lo hi)
      have HB3 := Lib.hid (fun W lo hi => behind_any s (.slice A n c) (kn + mn : Int) W lo hi)
      unfold Behinds at HB2 HB3
      rw [hF] at HB2
      rw [hG, hGS] at HB3
      rw [ho1] at HO1
      rw [ho2] at HO2
      rw [hz1] at HZ
      generalize x.behindS mn = y at *
      have HSm := Lib.hid (fun u1 u2 W lo hi lo' hi' => same_any y y u1 u2 W lo hi lo' hi')
      simp only [hyc, decide_true, Bool.true_and, (S.eqb_iff y y).2 rfl] at HSm
      generalize x.ord = xo at *
      generalize s.ord = so at *
      generalize s.deep = sd at *
      clear hE hF hG hGS ho1 ho2 hz1 hE2 hx hX hok hxok hin i0 hk0 hk1 hm0 hm1 hlen hcnt hyc
      go_enter Try.func11, Try.ntmps11
      go_wp2_with fail
      refine HB.out.mono ?_
      rintro e w1 ⟨v1, f1, rfl, s1, _, r1, b1⟩
      obtain ⟨A1, n1, c1, rfl⟩ := s1.form
      have q1 := Has.new (s1.in_ _ r1) (Nat.le_refl _)
      have bb1 := below_new w1 (.cells #[.slice A1 n1 c1] 24)
      have p1 := (p0.next b1).next bb1
      have cp1 := p1.cell
      obtain ⟨_, _, _, ip1, hp1⟩ := p1
      go_wp2_with fail
      refine (HO1.out _ _ _ ip1 hp1).mono ?_
      rintro e w2 ⟨rfl, b2⟩
      have p2 := ((p0.next b1).next bb1).next b2
      have q2 := q1.next b2
      have cq2 := q2.cell
      obtain ⟨_, _, _, iq2, hq2⟩ := q2
      go_wp2_with fail
      refine (HO2.out _ _ _ _ iq2 hq2).mono ?_
      rintro e w3 ⟨rfl, b3⟩
      have p3 := p2.next b3
      have q3 := (q1.next b2).next b3
      have cp3 := p3.cell
      obtain ⟨_, _, _, ip3, hp3⟩ := p3
      go_wp2_with fail
      refine (HZ.out _ _ _ ip3 hp3).mono ?_
      rintro e w4 ⟨rfl, b4⟩
      have p4 := (p2.next b3).next b4
      have q4 := q3.next b4
      have cq4 := q4.cell
      obtain ⟨_, _, _, iq4, hq4⟩ := q4
      go_wp2_with fail
      refine (HB2.out _ _ _ _ iq4 hq4).mono ?_
      rintro e w5 ⟨v5, f5, rfl, s5, _, r5, b5⟩
      obtain ⟨A5, n5, c5, rfl⟩ := s5.form
      have y5 := Has.new (s5.in_ _ r5) (Nat.le_refl _)
      have bb5 := below_new w5 (.cells #[.slice A5 n5 c5] 24)
      have p5 := (p4.next b5).next bb5
      have cp5 := p5.cell
      obtain ⟨_, _, _, ip5, hp5⟩ := p5
      go_wp2_with fail
      refine (HB3.out _ _ _ ip5 hp5).mono ?_
      rintro e w6 ⟨v6, f6, rfl, s6, _, r6, b6⟩
      obtain ⟨A6, n6, c6, rfl⟩ := s6.form
      have z6 := Has.new (s6.in_ _ r6) (Nat.le_refl _)
      have bb6 := below_new w6 (.cells #[.slice A6 n6 c6] 24)
      have y6 := (y5.next b6).next bb6
      have cz6 := z6.cell
      have cy6 := y6.cell
      obtain ⟨_, _, _, iy6, hy6⟩ := y6
      obtain ⟨_, _, _, iz6, hz6⟩ := z6
      go_wp2_with fail
      refine (HSm.out _ _ _ _ _ _ _ iy6 hy6 iz6 hz6).mono ?_
      rintro e w7 ⟨rfl, b7⟩
      go_wp2_with fail
      refine (alive_any w7).mono ?_
      rintro e w8 ⟨rfl, b8⟩
      go_wp2_with fail
      go_ret
      have t1 := b0.size
      have t2 := b1.size
      have t3 := bb1.size
      have t4 := b2.size
      have t5 := b3.size
      have t6 := b4.size
      have t7 := b5.size
      have t8 := bb5.size
      have t9 := b6.size
      have t10 := bb6.size
      have t11 := b7.size
      exact ⟨rfl, ((((((((((b0.trans (b1.mono (by omega))).trans (bb1.mono (by omega))).trans (b2.mono (by omega))).trans (b3.mono (by omega))).trans (b4.mono (by omega))).trans (b5.mono (by omega))).trans (bb5.mono (by omega))).trans (b6.mono (by omega))).trans (bb6.mono (by omega))).trans (b7.mono (by omega))).trans (b8.mono (by omega))⟩
    · have hFb : (x.behindE m != 0) = true := by simpa using hF
      have HO1 := Lib.hid (fun W lo hi => Order_any s (.slice A n c) W lo hi)
      have HO2 := Lib.hid (fun u W lo hi => Order_any x u W lo hi)
      have HZ := Lib.hid (fun W lo hi => size_any s (.slice A n c) W lo hi)
      have HB2 := Lib.hid (fun u W lo hi => behind_any x u m W lo hi)
      unfold Behinds at HB2
      rw [ho1] at HO1
      rw [ho2] at HO2
      rw [hz1] at HZ
      generalize x.behindE m = F at *
      generalize x.behindS m = y at *
      generalize x.ord = xo at *
      generalize s.ord = so at *
      generalize s.deep = sd at *
      clear hE hF ho1 ho2 hz1 hE2 hx hX hok hxok hin i0 hk0 hk1 hlen hcnt hxl
      go_enter Try.func11, Try.ntmps11
      go_wp2_with fail
      refine HB.out.mono ?_
      rintro e w1 ⟨v1, f1, rfl, s1, _, r1, b1⟩
      obtain ⟨A1, n1, c1, rfl⟩ := s1.form
      have q1 := Has.new (s1.in_ _ r1) (Nat.le_refl _)
      have bb1 := below_new w1 (.cells #[.slice A1 n1 c1] 24)
      have p1 := (p0.next b1).next bb1
      have cp1 := p1.cell
      obtain ⟨_, _, _, ip1, hp1⟩ := p1
      go_wp2_with fail
      refine (HO1.out _ _ _ ip1 hp1).mono ?_
      rintro e w2 ⟨rfl, b2⟩
      have p2 := ((p0.next b1).next bb1).next b2
      have q2 := q1.next b2
      have cq2 := q2.cell
      obtain ⟨_, _, _, iq2, hq2⟩ := q2
      go_wp2_with fail
      refine (HO2.out _ _ _ _ iq2 hq2).mono ?_
      rintro e w3 ⟨rfl, b3⟩
      have p3 := p2.next b3
      have q3 := (q1.next b2).next b3
      have cp3 := p3.cell
      obtain ⟨_, _, _, ip3, hp3⟩ := p3
      go_wp2_with fail
      refine (HZ.out _ _ _ ip3 hp3).mono ?_
      rintro e w4 ⟨rfl, b4⟩
      have q4 := q3.next b4
      have cq4 := q4.cell
      obtain ⟨_, _, _, iq4, hq4⟩ := q4
      go_wp2_with fail
      refine (HB2.out _ _ _ _ iq4 hq4).mono ?_
      rintro e w5 ⟨v5, f5, rfl, s5, _, r5, b5⟩
      obtain ⟨A5, n5, c5, rfl⟩ := s5.form
      have bb5 := below_new w5 (.cells #[.slice A5 n5 c5] 24)
      go_wp2_with fail
      refine (alive_any _).mono ?_
      rintro e w8 ⟨rfl, b8⟩
      go_wp2_with fail
      go_ret
      have t1 := b0.size
      have t2 := b1.size
      have t3 := bb1.size
      have t4 := b2.size
      have t5 := b3.size
      have t6 := b4.size
      have t7 := b5.size
      have t8 := bb5.size
      exact ⟨rfl, (((((((b0.trans (b1.mono (by omega))).trans (bb1.mono (by omega))).trans (b2.mono (by omega))).trans (b3.mono (by omega))).trans (b4.mono (by omega))).trans (b5.mono (by omega))).trans (bb5.mono (by omega))).trans (b8.mono (by omega))⟩
  · have hEb : (s.behindE k != 0) = true := by simpa using hE
    have HE := Lib.hid hE
    generalize s.behindE k = E at *
    clear hE
    go_enter Try.func11, Try.ntmps11
    go_wp2_with fail
    refine HB.out.mono ?_
    rintro e w1 ⟨v1, f1, rfl, s1, _, r1, b1⟩
    obtain ⟨A1, n1, c1, rfl⟩ := s1.form
    have bb1 := below_new w1 (.cells #[.slice A1 n1 c1] 24)
    go_wp2_with fail
    refine (alive_any _).mono ?_
    rintro e w8 ⟨rfl, b8⟩
    go_wp2_with fail
    go_ret
    have t1 := b0.size
    have t2 := b1.size
    have t3 := bb1.size
    exact ⟨rfl, ((b0.trans (b1.mono (by omega))).trans (bb1.mono (by omega))).trans (b8.mono (by omega))⟩
end Go.Proofs.Ytbifnkjfjndjjaa
