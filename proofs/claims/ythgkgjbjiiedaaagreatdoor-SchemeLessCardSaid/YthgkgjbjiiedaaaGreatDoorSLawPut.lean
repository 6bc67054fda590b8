/-
  SchemePut: Put answers as the reference does.
-/
import Derived.Test.YthgkgjbjiiedaaaGreatDoorSLawCheck
import Derived.Test.YthgkgjbjiiedaaaGreatDoorSRefPut
namespace Go.Proofs.YthgkgjbjiiedaaaGreatDoor
open Go.RowKit

set_option maxHeartbeats 1600000 in
set_option maxRecDepth 100000 in
theorem lawPutS_any (s : Sc) (v0 v1 : Value) (w : World) (hi : Nat) (hin : ScIn w hi s v0 v1) (hhi : hi ≤ w.heap.size) (hg : GV w) (h8 : 8 ≤ w.heap.size) :
    Calls Tryz.prog 7 #[.agg #[v0, v1]] w fun e w' => e = .returned (.bool true) ∧ Below w.heap.size w w' := by
  have k0 := ScG.start hin hhi hg h8
  obtain ⟨⟨A0, n0, c0, rfl⟩, ⟨A1, n1, c1, rfl⟩⟩ := hin.form
  obtain ⟨d0, d1⟩ := k0.two
  have H1 := Lib.hid (schemePut_any s _ _ _ hi k0.k.i k0.lt.1)
  have H2 := Lib.hid (fun W (h : ScG s (.slice A0 n0 c0) (.slice A1 n1 c1) hi w.heap.size w W) => refScPut_any s _ _ W hi h.k.i h.lt.1)
  generalize s.puts = t at *
  generalize s.putE = E at *
  go_enter Tryz.func7, Tryz.ntmps7
  go_wp2_with fail
  refine H1.out.mono ?_
  rintro e w1 ⟨rfl, b1⟩
  have k1 := k0.next b1
  obtain ⟨e0, e1⟩ := k1.two
  clear H1 d0 d1 k0 b1
  go_wp2_with fail
  refine (H2.out _ k1).mono ?_
  rintro e w2 ⟨rfl, b2⟩
  have k2 := k1.next b2
  have HA := Lib.hid (aliveS_any w2 k2.g k2.lt.2)
  clear H2 e0 e1 k1 b2
  go_wp2_with fail
  refine HA.out.mono ?_
  rintro e w3 ⟨rfl, b3⟩
  have k3 := k2.next b3
  go_wp2_with fail
  go_ret
  exact ⟨rfl, k3.k.bel⟩
end Go.Proofs.YthgkgjbjiiedaaaGreatDoor
