/-
  SchemeReach: Reach answers as the reference does.
-/
import Derived.Test.YthgkgjbjiiedaaaGreatDoorSLawOrder
import Derived.Test.YthgkgjbjiiedaaaGreatDoorSRefReach
namespace Go.Proofs.YthgkgjbjiiedaaaGreatDoor
open Go.RowKit

set_option maxHeartbeats 3200000 in
set_option maxRecDepth 100000 in
theorem lawReachS_any (s : Sc) (v0 v1 : Value) (w : World) (hi : Nat) (hin : ScIn w hi s v0 v1) (hhi : hi ≤ w.heap.size) (hg : GV w) (h8 : 8 ≤ w.heap.size) :
    Calls Tryz.prog 6 #[.agg #[v0, v1]] w fun e w' => e = .returned (.bool true) ∧ Below w.heap.size w w' := by
  have k0 := ScG.start hin hhi hg h8
  obtain ⟨⟨A0, n0, c0, rfl⟩, ⟨A1, n1, c1, rfl⟩⟩ := hin.form
  obtain ⟨d0, d1⟩ := k0.two
  have H3 := Lib.hid (schemeReach_any s _ _ _ hi k0.k.i k0.lt.1)
  have H4 := Lib.hid (fun W (h : ScG s (.slice A0 n0 c0) (.slice A1 n1 c1) hi w.heap.size w W) => refScReach_any s _ _ W hi h.k.i h.lt.1)
  have hlen : s.reaches.length ≤ 1000000 := by
    unfold Sc.reaches
    split
    · rename_i h
      have := (Sc.good h).n64
      have := reachL_len s
      omega
    · simp
  generalize schErr s.ok = E at *
  generalize s.reaches = rk at *
  go_enter Tryz.func6, Tryz.ntmps6
  go_wp2_with fail
  refine H3.out.mono ?_
  rintro e w3 ⟨u, rfl, z3, b3⟩
  obtain ⟨A2, c2, rfl, _, _⟩ := z3.form
  have k3 := k0.next b3
  obtain ⟨g0, g1⟩ := k3.two
  have Z3 := Lib.hid z3
  clear H3 d0 d1 k0 b3 z3
  go_wp2_with fail
  refine (H4.out _ k3).mono ?_
  rintro e w4 ⟨u', rfl, z4, b4⟩
  obtain ⟨A3, c3, rfl, _, _⟩ := z4.form
  have k4 := k3.next b4
  have HI := Lib.hid (ints3_any rk _ _ w4 ((Z3.out.below b4).less (Nat.zero_le _)) (z4.less (Nat.zero_le _)) hlen)
  clear H4 g0 g1 k3 b4 z4 Z3
  go_wp2_with fail
  refine HI.out.mono ?_
  rintro e w5 ⟨rfl, b5⟩
  have k5 := k4.next b5
  have HA := Lib.hid (aliveS_any w5 k5.g k5.lt.2)
  clear HI k4 b5
  go_wp2_with fail
  refine HA.out.mono ?_
  rintro e w6 ⟨rfl, b6⟩
  have k6 := k5.next b6
  go_wp2_with fail
  go_ret
  exact ⟨rfl, k6.k.bel⟩
end Go.Proofs.YthgkgjbjiiedaaaGreatDoor
