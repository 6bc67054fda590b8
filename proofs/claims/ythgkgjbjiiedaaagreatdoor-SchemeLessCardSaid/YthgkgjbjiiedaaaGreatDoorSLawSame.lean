/-
  SchemeSame: Same answers as the reference does.
-/
import Derived.Test.YthgkgjbjiiedaaaGreatDoorSLawCheck
import Derived.Test.YthgkgjbjiiedaaaGreatDoorSchSame
namespace Go.Proofs.YthgkgjbjiiedaaaGreatDoor
open Go.RowKit

theorem ScIn.both {w : World} {hi hi2 : Nat} {a b : Sc} {v0 v1 u0 u1 : Value} (ha : ScIn w hi a v0 v1) (hb : ScIn w hi2 b u0 u1) : ScIn w (max hi hi2) a v0 v1 ∧ ScIn w (max hi hi2) b u0 u1 := ⟨ha.more (by omega), hb.more (by omega)⟩
set_option maxHeartbeats 3200000 in
set_option maxRecDepth 100000 in
theorem lawSameS_any (a : Sc) (v0 v1 : Value) (b : Sc) (u0 u1 : Value) (w : World) (hi : Nat) (ha : ScIn w hi a v0 v1) (hb : ScIn w hi b u0 u1) (hhi : hi ≤ w.heap.size) (hg : GV w) (h8 : 8 ≤ w.heap.size) :
    Calls Tryz.prog 4 #[.agg #[v0, v1], .agg #[u0, u1]] w fun e w' => e = .returned (.bool true) ∧ Below w.heap.size w w' := by
  have HK0 := Sc2.start ha hb hhi
  have hGV : ∀ W, Below w.heap.size w W → GV W ∧ 8 ≤ W.heap.size := fun W hW => ⟨hg.below hW h8, Nat.le_trans h8 hW.size⟩
  obtain ⟨⟨A0, n0, c0, rfl⟩, ⟨A1, n1, c1, rfl⟩⟩ := ha.form
  obtain ⟨⟨A2, n2, c2, rfl⟩, ⟨A3, n3, c3, rfl⟩⟩ := hb.form
  generalize (Value.slice A0 n0 c0) = X0 at *
  generalize (Value.slice A1 n1 c1) = X1 at *
  generalize (Value.slice A2 n2 c2) = Y0 at *
  generalize (Value.slice A3 n3 c3) = Y1 at *
  generalize hK : (fun W => Sc2 a b X0 X1 Y0 Y1 hi w.heap.size w W) = K
  have hKn : ∀ W W', K W → Below W.heap.size W W' → K W' := by
    intro W W' h hb
    rw [← hK] at h ⊢
    exact h.next hb
  have of_ : ∀ W, K W → Sc2 a b X0 X1 Y0 Y1 hi w.heap.size w W := by
    intro W h
    rw [← hK] at h
    exact h
  have lt_ : ∀ W, K W → hi ≤ W.heap.size := fun W h => by
    have h1 := (of_ W h).bb.lt
    have h2 := (of_ W h).hi
    omega
  have HS1 := Lib.hid (fun W (h : K W) => (schemeSame_any a b X0 X1 Y0 Y1 W hi (of_ W h).ia (of_ W h).ib (lt_ W h)).mono fun e w' ⟨he, hb⟩ => (⟨he, hKn _ _ h hb⟩ : e = _ ∧ K w'))
  have HR1 := Lib.hid (fun W (h : K W) => (refScSame_any a b X0 X1 Y0 Y1 W hi (of_ W h).ia (of_ W h).ib (lt_ W h)).mono fun e w' ⟨he, hb⟩ => (⟨he, hKn _ _ h hb⟩ : e = _ ∧ K w'))
  have HS2 := Lib.hid (fun W (h : K W) => (schemeSame_any a a X0 X1 X0 X1 W hi (of_ W h).ia (of_ W h).ia (lt_ W h)).mono fun e w' ⟨he, hb⟩ => (⟨he, hKn _ _ h hb⟩ : e = _ ∧ K w'))
  have HR2 := Lib.hid (fun W (h : K W) => (refScSame_any a a X0 X1 X0 X1 W hi (of_ W h).ia (of_ W h).ia (lt_ W h)).mono fun e w' ⟨he, hb⟩ => (⟨he, hKn _ _ h hb⟩ : e = _ ∧ K w'))
  have HA := Lib.hid (fun W (h : K W) => (aliveS_any W (hGV W (of_ W h).bel).1 (hGV W (of_ W h).bel).2).mono fun e w' ⟨he, hb⟩ => (⟨he, hKn _ _ h hb⟩ : e = _ ∧ K w'))
  have HCell : Hid (∀ W, K W → W.cell? ⟨w.heap.size, 0, none⟩ = some X0 ∧ W.cell? ⟨w.heap.size, 1, none⟩ = some X1 ∧ W.cell? ⟨w.heap.size + 1, 0, none⟩ = some Y0 ∧ W.cell? ⟨w.heap.size + 1, 1, none⟩ = some Y1) := Lib.hid fun W h => (of_ W h).four
  have HKB : Hid (∀ W, K W → Below w.heap.size w W) := Lib.hid fun W h => (of_ W h).bel
  have k0 : K ((w.alloc (.cells #[X0, X1] 25)).alloc (.cells #[Y0, Y1] 25)) := by rw [← hK]; exact HK0
  have kd := hKn _ _ k0 (Below.refl _ _).drew
  generalize a.same b = E1 at *
  generalize a.same a = E2 at *
  clear hK hKn of_ lt_ HK0 ha hb hg hGV
  obtain ⟨x0, x1, x2, x3⟩ := HCell.out _ k0
  clear k0
  go_enter Tryz.func4, Tryz.ntmps4
  go_wp2_with fail
  go_region_held3 (fun w' => w'.cell? ⟨w.heap.size, 0, none⟩ = some X0 ∧ w'.cell? ⟨w.heap.size, 1, none⟩ = some X1 ∧ w'.cell? ⟨w.heap.size + 1, 0, none⟩ = some Y0 ∧ w'.cell? ⟨w.heap.size + 1, 1, none⟩ = some Y1)
    (first
      | assumption
      | exact HCell.out _ (by assumption)
      | go_keep)
    (first
    | (go_at_call 17; first | ((with_reducible refine (HS1.out _ (by assumption)).mono ?_); rintro e W2 ⟨rfl, K2⟩; have C2 := HCell.out _ K2) | ((with_reducible refine (HS2.out _ (by assumption)).mono ?_); rintro e W4 ⟨rfl, K4⟩; have C4 := HCell.out _ K4))
    | (go_at_call 18; first | ((with_reducible refine (HR1.out _ (by assumption)).mono ?_); rintro e W3 ⟨rfl, K3⟩; have C3 := HCell.out _ K3) | ((with_reducible refine (HR2.out _ (by assumption)).mono ?_); rintro e W5 ⟨rfl, K5⟩; have C5 := HCell.out _ K5))
    | (go_at_call 16; refine (HA.out _ (by assumption)).mono ?_; rintro e W6 ⟨rfl, K6⟩; have C6 := HCell.out _ K6))
  all_goals
    go_wp2_with fail
    go_ret
    exact ⟨rfl, HKB.out _ K6⟩
end Go.Proofs.YthgkgjbjiiedaaaGreatDoor
