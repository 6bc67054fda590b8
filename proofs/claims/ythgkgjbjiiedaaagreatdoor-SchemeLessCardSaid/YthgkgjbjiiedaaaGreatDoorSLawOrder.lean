/-
  SchemeOrder: Order and Ranks answer as the reference does.
-/
import Derived.Test.YthgkgjbjiiedaaaGreatDoorSLawCheck
import Derived.Test.YthgkgjbjiiedaaaGreatDoorSRanks
namespace Go.Proofs.YthgkgjbjiiedaaaGreatDoor
open Go.RowKit

set_option maxRecDepth 100000 in
set_option maxHeartbeats 1600000 in
theorem refScOrder_any (s : Sc) (v0 v1 : Value) (w : World) (hi : Nat) (hin : ScIn w hi s v0 v1) (hhi : hi ≤ w.heap.size) :
    Calls Tryz.prog 20 #[.agg #[v0, v1]] w fun e w' => e = .returned (.tuple #[.int .i64 s.orders.1, .int .i64 s.orders.2]) ∧ Below w.heap.size w w' := by
  have k0 := ScKept.start hin hhi
  obtain ⟨⟨A0, n0, c0, rfl⟩, ⟨A1, n1, c1, rfl⟩⟩ := hin.form
  have HC := Lib.hid (refScIs_any s _ _ _ hi k0.i (by have := k0.b.lt; have := k0.hi; omega))
  rw [sayOk_ok] at HC
  have d0 := k0.b.cell 0
  have d1 := k0.b.cell 1
  cases hok : s.ok with
  | false =>
    have HO : Hid (s.orders = (0, 7)) := Lib.hid (by simp [Sc.orders, hok])
    rw [hok] at HC
    clear hok
    go_enter Tryz.func20, Tryz.ntmps20
    go_wp2_with fail
    refine HC.out.mono ?_
    rintro e w1 ⟨rfl, b1⟩
    have k1 := k0.next b1
    go_wp2_with fail
    go_ret2
    exact ⟨by rw [HO.out]; rfl, k1.bel⟩
  | true =>
    have G := Sc.good hok
    have HO : Hid (s.orders = ((ordF s.funs : Int), 0)) := Lib.hid (by simp [Sc.orders, hok])
    rw [hok] at HC
    clear hok
    go_enter Tryz.func20, Tryz.ntmps20
    go_wp2_with fail
    refine HC.out.mono ?_
    rintro e w1 ⟨rfl, b1⟩
    have k1 := k0.next b1
    have hl1 := k1.b.lt
    have hz1 := k1.bel.size
    have e1 := k1.b.cell 1
    simp at e1
    obtain ⟨A, _, c, us, he, hl, hnc, hc, hrd, hrow⟩ := k1.i.fn
    injection he with g1 g2 g3
    subst g1 g2 g3 hl
    have K1 := Lib.hid k1
    clear k0 b1 HC d0 d1 k1
    go_wp2_with fail
    go_loopw [4, 13] (fun m i wr => ∃ k : Nat, k ≤ s.funs.length ∧ i = .int .i64 k ∧ (∃ q : Nat, m = .int .i64 (q : Int) ∧ q = ordF (s.funs.take k)) ∧ Below w1.heap.size w1 wr) (fun _ i _ => s.funs.length - (intOf i).toNat)
    case atStart => exact ⟨0, Nat.zero_le _, rfl, ⟨0, rfl, by simp [ordF]⟩, Below.refl _ _⟩
    case round =>
      obtain ⟨k, hk, rfl, ⟨q, rfl, hq⟩, hbel⟩ := hrel
      have hsz := hbel.size
      by_cases hlt : k < s.funs.length
      · have hx : s.funs[k]? = some s.funs[k] := List.getElem?_eq_getElem hlt
        obtain ⟨ad, u, v, rfl, hPa, hel, hsu, hbv, _⟩ := fn_el hrd hrow hx
        obtain ⟨r0, r1, r2, r3, r4⟩ := hel.keep (hbel.block _ (by omega))
        have hso := G.so s.funs[k] (List.getElem_mem hlt)
        have hts := ordF_succ hx
        have hsm := ordF_small G k
        rw [← hq] at hts hsm
        obtain ⟨A2, n2, c2, rfl⟩ := hsu.form
        obtain ⟨A3, n3, c3, rfl⟩ := hbv.form
        generalize s.funs[k] = x at *
        obtain ⟨name, sort, body⟩ := x
        simp only at r0 r1 r2 r3 r4 hso hsu hts
        have bz : Below wr.heap.size wr (wr.alloc (.cells #[.string name, .slice A2 n2 c2, .int .i64 body.kind, .int .i64 body.num, .slice A3 n3 c3] 52)) := (Below.refl _ _).alloc (Nat.le_refl _) _
        have hba := Blk.new wr 52 #[.string name, .slice A2 n2 c2, .int .i64 body.kind, .int .i64 body.num, .slice A3 n3 c3]
        have p1 := hba.cell 1
        simp at p1
        have HOR := Lib.hid (rank_any sort.count sort (.slice A2 n2 c2) _ 0 hi (Nat.le_refl _) (by have := S.ok_count hso; omega) (hsu.below (hbel.trans (bz.mono (by omega))) (by omega)) (by simp; omega))
        have hsmall : sort.ord ≤ 60 := by
          have h2 := S.ok_count hso
          have h3 := S.ord_lt sort
          have h4 := S.deep_le sort
          omega
        have HT := Lib.hid hts
        clear hx hel hts hsu hbv hba hso
        generalize sort.ord = o at *
        go_wp2_with fail
        refine HOR.out.mono ?_
        rintro e w3 ⟨rfl, b3⟩
        simp only [World.size_alloc] at b3
        go_wp2_with fail
        go_roundw
        case rel => exact ⟨k + 1, by omega, by go_num, ⟨max q o, by congr 1; omega, HT.out.symm⟩, (hbel.trans (bz.mono (by omega))).trans (b3.mono (by omega))⟩
        case measure => simp [intOf]; omega
      · have h1 : s.funs.take k = s.funs := List.take_of_length_le (by omega)
        rw [h1] at hq
        clear h1
        go_wp2_with fail
        go_ret2
        exact ⟨by rw [HO.out, ← hq]; rfl, K1.out.bel.trans (hbel.mono (by omega))⟩

/-- What the loop of ints holds. -/
def TwoZ3 (l : List Int) (u v : Value) (w0 : World) (i : Value) (w : World) : Prop :=
  ∃ k : Nat, k ≤ l.length ∧ i = .int .i64 k ∧ Zs 0 w l u ∧ Zs 0 w l v ∧ Below w0.heap.size w0 w
set_option maxHeartbeats 1600000 in
theorem ints3_any (l : List Int) (u v : Value) (w : World) (hu : Zs 0 w l u) (hv : Zs 0 w l v) (_ : l.length ≤ 1000000) :
    Calls Tryz.prog 23 #[u, v] w fun e w' => e = .returned (.bool true) ∧ Below w.heap.size w w' := by
  obtain ⟨A, c, rfl, _, _⟩ := hu.form
  obtain ⟨A1, c1, rfl, _, _⟩ := hv.form
  go_enter Tryz.func23, Tryz.ntmps23
  go_wp2_with fail
  go_loopw [13] (fun i wr => TwoZ3 l (.slice A l.length c) (.slice A1 l.length c1) w i wr) (fun i _ => l.length - (intOf i).toNat)
  case atStart => exact ⟨0, Nat.zero_le _, rfl, hu, hv, Below.refl _ _⟩
  case round =>
    obtain ⟨k, hk, rfl, h1, h2, hbel⟩ := hrel
    clear hu hv
    by_cases hlt : k < l.length
    · have hx : l[k]? = some l[k] := List.getElem?_eq_getElem hlt
      obtain ⟨g, rfl, hg, r0⟩ := h1.cell hx
      obtain ⟨g1, rfl, hg1, r1⟩ := h2.cell hx
      have HX := Lib.hid hx
      generalize l[k] = x at *
      have hlt' : (k : Int) < (l.length : Int) := by omega
      have hk0 : (0 : Int) ≤ (k : Int) := by omega
      clear hx
      go_wp2_with fail
      go_region
      all_goals
        go_wp2_with fail
        go_roundw
        case rel => exact ⟨k + 1, by omega, by go_num, h1, h2, hbel.drew⟩
        case measure => simp [intOf]; omega
    · go_wp2_with fail
      go_ret
      exact ⟨rfl, hbel⟩

set_option maxHeartbeats 3200000 in
set_option maxRecDepth 100000 in
theorem lawOrderS_any (s : Sc) (v0 v1 : Value) (w : World) (hi : Nat) (hin : ScIn w hi s v0 v1) (hhi : hi ≤ w.heap.size) (hg : GV w) (h8 : 8 ≤ w.heap.size) :
    Calls Tryz.prog 5 #[.agg #[v0, v1]] w fun e w' => e = .returned (.bool true) ∧ Below w.heap.size w w' := by
  have k0 := ScG.start hin hhi hg h8
  obtain ⟨⟨A0, n0, c0, rfl⟩, ⟨A1, n1, c1, rfl⟩⟩ := hin.form
  obtain ⟨d0, d1⟩ := k0.two
  have H1 := Lib.hid (schemeOrder_any s _ _ _ hi k0.k.i k0.lt.1)
  have H2 := Lib.hid (fun W (h : ScG s (.slice A0 n0 c0) (.slice A1 n1 c1) hi w.heap.size w W) => refScOrder_any s _ _ W hi h.k.i h.lt.1)
  have H3 := Lib.hid (fun W (h : ScG s (.slice A0 n0 c0) (.slice A1 n1 c1) hi w.heap.size w W) => schemeRanks_any s _ _ W hi h.k.i h.lt.1)
  have H4 := Lib.hid (fun W (h : ScG s (.slice A0 n0 c0) (.slice A1 n1 c1) hi w.heap.size w W) => refScRanks_any s _ _ W hi h.k.i h.lt.1)
  have hlen : s.ranks.length ≤ 1000000 := by
    unfold Sc.ranks
    split
    · rename_i h
      have := (Sc.good h).sy_all.1
      simp; omega
    · simp
  generalize s.orders.1 = o1 at *
  generalize s.orders.2 = o2 at *
  generalize schErr s.ok = E at *
  generalize s.ranks = rk at *
  go_enter Tryz.func5, Tryz.ntmps5
  go_wp2_with fail
  refine H1.out.mono ?_
  rintro e w1 ⟨rfl, b1⟩
  have k1 := k0.next b1
  obtain ⟨e0, e1⟩ := k1.two
  clear H1 d0 d1 k0 b1
  go_wp2_with fail
  refine (H2.out _ k1).mono ?_
  rintro e w2 ⟨rfl, b2⟩
  have k2 := k1.next b2
  obtain ⟨f0, f1⟩ := k2.two
  clear H2 e0 e1 k1 b2
  go_wp2_with fail
  refine (H3.out _ k2).mono ?_
  rintro e w3 ⟨u, rfl, z3, b3⟩
  obtain ⟨A2, c2, rfl, _, _⟩ := z3.form
  have k3 := k2.next b3
  obtain ⟨g0, g1⟩ := k3.two
  have Z3 := Lib.hid z3
  clear H3 f0 f1 k2 b3 z3
  go_wp2_with fail
  refine (H4.out _ k3).mono ?_
  rintro e w4 ⟨u', rfl, z4, b4⟩
  obtain ⟨A3, c3, rfl, _, _⟩ := z4.form
  have k4 := k3.next b4
  have HI := Lib.hid (ints3_any rk _ _ w4 ((Z3.out.below b4).less (Nat.zero_le _)) (z4.less (Nat.zero_le _)) hlen)
  clear H4 g0 g1 k3 b4 z4 Z3
  go_wp2_with fail
  refine HI.out.mono ?_
  rintro e w5 ⟨rfl, b5⟩
  have k5 := k4.next b5
  have HA := Lib.hid (aliveS_any w5 k5.g k5.lt.2)
  clear HI k4 b5
  go_wp2_with fail
  refine HA.out.mono ?_
  rintro e w6 ⟨rfl, b6⟩
  have k6 := k5.next b6
  go_wp2_with fail
  go_ret
  exact ⟨rfl, k6.k.bel⟩
end Go.Proofs.YthgkgjbjiiedaaaGreatDoor
