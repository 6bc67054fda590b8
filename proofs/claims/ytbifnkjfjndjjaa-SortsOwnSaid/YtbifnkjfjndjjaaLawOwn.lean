/-
  SortsOwn: no function of sorts modifies its argument, what Behind returns shares no memory with it, and the example comes out.
-/
import Derived.Test.YtbifnkjfjndjjaaLawOrders
import Derived.Test.YtbifnkjfjndjjaaTurn
namespace Go.Proofs.Ytbifnkjfjndjjaa
open Go.RowKit

set_option maxHeartbeats 3200000 in
set_option maxRecDepth 100000 in
theorem lawOwn_any (s : S) (v : Value) (k : Int) (w : World) (lo hi : Nat) (hin : s.In w lo hi v) (hhi : hi ≤ w.heap.size) :
    Calls Try.prog 12 #[.agg #[v], .int .i64 k] w fun e w' => e = .returned (.bool true) ∧ Below w.heap.size w w' := by
  obtain ⟨A, n, c, rfl⟩ := hin.form
  have p0 := Has.new hin hhi
  have b0 := below_new w (.cells #[.slice A n c] 24)
  have HI := Lib.hid (is_any s _ _ lo hi (hin.below b0 hhi) (by simp; omega))
  cases hok : s.ok with
  | true =>
    have hcnt := S.ok_count hok
    rw [hok] at HI
    have HCopy := Lib.hid (fun W lo hi => copy_any _ s (.slice A n c) W lo hi (Nat.le_refl _) (by omega))
    have HCheck := Lib.hid (fun W lo hi => check_any s (.slice A n c) W lo hi)
    have HSize := Lib.hid (fun W lo hi => size_any s (.slice A n c) W lo hi)
    have HSame := Lib.hid (fun W lo hi h1 h2 => same_any s s (.slice A n c) (.slice A n c) W lo hi lo hi h1 h2 h1 h2)
    have HOrd := Lib.hid (fun W lo hi => Order_any s (.slice A n c) W lo hi)
    have HPut := Lib.hid (fun W lo hi => put_any s (.slice A n c) W lo hi)
    have HBeh := Lib.hid (fun W lo hi => behind_any s (.slice A n c) k W lo hi)
    have HTurn := Lib.hid (fun u fp W => turn_any _ (s.behindS k) u fp W (Nat.le_refl _))
    have HEq := Lib.hid (fun u W lo hi lo' hi' => refEqual_any _ s s (.slice A n c) u W lo hi lo' hi' (Nat.le_refl _))
    simp only [(S.eqb_iff s s).2 rfl] at HEq
    unfold Cloned at HCopy
    unfold Behinds at HBeh
    generalize errOf s.ok = E1 at *
    generalize (decide (s.count ≤ 60) && (decide (s.count ≤ 60) && true)) = E2 at *
    generalize s.sizes.1 = E3 at *
    generalize s.sizes.2 = E4 at *
    generalize s.orders.1 = E5 at *
    generalize s.orders.2 = E6 at *
    generalize s.behindE k = E7 at *
    generalize s.behindS k = t at *
    clear hok hin hcnt
    go_enter Try.func12, Try.ntmps12
    go_wp2_with fail
    refine HI.out.mono ?_
    rintro e w1 ⟨rfl, b1⟩
    have p1 := p0.next b1
    have cp1 := p1.cell
    obtain ⟨_, _, _, ip1, hp1⟩ := p1
    go_wp2_with fail
    refine (HCopy.out _ _ _ ip1 hp1).mono ?_
    rintro e w2 ⟨v2, f2, rfl, s2, _, r2, b2⟩
    obtain ⟨A2, n2, c2, rfl⟩ := s2.form
    have q2 := Has.new (s2.in_ _ r2) (Nat.le_refl _)
    have bb2 := below_new w2 (.cells #[.slice A2 n2 c2] 24)
    have p2 := ((p0.next b1).next b2).next bb2
    have cp2 := p2.cell
    obtain ⟨_, _, _, ip2, hp2⟩ := p2
    go_wp2_with fail
    refine (HCheck.out _ _ _ ip2 hp2).mono ?_
    rintro e w3 ⟨rfl, b3⟩
    have p3 := (((p0.next b1).next b2).next bb2).next b3
    have cp3 := p3.cell
    obtain ⟨_, _, _, ip3, hp3⟩ := p3
    go_wp2_with fail
    refine (HSize.out _ _ _ ip3 hp3).mono ?_
    rintro e w4 ⟨rfl, b4⟩
    have p4 := ((((p0.next b1).next b2).next bb2).next b3).next b4
    have cp4 := p4.cell
    obtain ⟨_, _, _, ip4, hp4⟩ := p4
    go_wp2_with fail
    refine (HSame.out _ _ _ ip4 hp4).mono ?_
    rintro e w5 ⟨rfl, b5⟩
    have p5 := (((((p0.next b1).next b2).next bb2).next b3).next b4).next b5
    have cp5 := p5.cell
    obtain ⟨_, _, _, ip5, hp5⟩ := p5
    go_wp2_with fail
    refine (HOrd.out _ _ _ ip5 hp5).mono ?_
    rintro e w6 ⟨rfl, b6⟩
    have p6 := ((((((p0.next b1).next b2).next bb2).next b3).next b4).next b5).next b6
    have cp6 := p6.cell
    obtain ⟨_, _, _, ip6, hp6⟩ := p6
    go_wp2_with fail
    refine (HPut.out _ _ _ ip6 hp6).mono ?_
    rintro e w7 ⟨rfl, b7⟩
    have p7 := (((((((p0.next b1).next b2).next bb2).next b3).next b4).next b5).next b6).next b7
    have q7 := ((((q2.next b3).next b4).next b5).next b6).next b7
    have cp7 := p7.cell
    have p7' := p7
    obtain ⟨_, _, _, ip7, hp7⟩ := p7'
    go_wp2_with fail
    refine (HBeh.out _ _ _ ip7 hp7).mono ?_
    rintro e w8 ⟨v8, f8, rfl, s8, n8, r8, b8⟩
    obtain ⟨A8, l8, c8, rfl⟩ := s8.form
    have bb8 := below_new w8 (.cells #[.slice A8 l8 c8] 24)
    have s9 := s8.keep (w' := w8.alloc (.cells #[.slice A8 l8 c8] 24)) _ (fun b hb => Below.heap_alloc _ _ _ (r8 b hb).2)
    have HT := Lib.hid (HTurn.out _ _ _ s9 n8 (fun b hb => by have := (r8 b hb).2; simp; omega))
    have t8 := b8.size
    go_wp2_with fail
    refine HT.out.mono ?_
    rintro e w9 ⟨rfl, h9⟩
    have b9 : Below w7.heap.size w7 w9 := (b8.trans (bb8.mono t8)).trans (h9.below (by simp; omega) (fun b hb h => by have := (r8 b h).1; omega))
    have p9 := p7.next b9
    have q9 := q7.next b9
    have cp9 := p9.cell
    have cq9 := q9.cell
    obtain ⟨_, _, _, ip9, hp9⟩ := p9
    obtain ⟨_, _, _, iq9, hq9⟩ := q9
    go_wp2_with fail
    refine (HEq.out _ _ _ _ _ _ ip9 hp9 iq9 hq9).mono ?_
    rintro e w10 ⟨rfl, b10⟩
    go_wp2_with fail
    refine (alive_any w10).mono ?_
    rintro e w11 ⟨rfl, b11⟩
    go_wp2_with fail
    go_ret
    have t0 := b0.size
    have t1 := b1.size
    have t2 := b2.size
    have t2' := bb2.size
    have t3 := b3.size
    have t4 := b4.size
    have t5 := b5.size
    have t6 := b6.size
    have t7 := b7.size
    have t9 := b9.size
    have t10 := b10.size
    exact ⟨rfl, (((((((((((b0.trans (b1.mono (by omega))).trans (b2.mono (by omega))).trans (bb2.mono (by omega))).trans (b3.mono (by omega))).trans (b4.mono (by omega))).trans (b5.mono (by omega))).trans (b6.mono (by omega))).trans (b7.mono (by omega))).trans (b9.mono (by omega))).trans (b10.mono (by omega))).trans (b11.mono (by omega)))⟩
  | false =>
    rw [hok] at HI
    clear hok hin
    go_enter Try.func12, Try.ntmps12
    go_wp2_with fail
    refine HI.out.mono ?_
    rintro e w1 ⟨rfl, b1⟩
    go_wp2_with fail
    refine (alive_any w1).mono ?_
    rintro e w2 ⟨rfl, b2⟩
    go_wp2_with fail
    go_ret
    have t0 := b0.size
    have t1 := b1.size
    exact ⟨rfl, (b0.trans (b1.mono (by omega))).trans (b2.mono (by omega))⟩
end Go.Proofs.Ytbifnkjfjndjjaa
