/-
  TermCheck: for every place that can be read, Check answers as the reference does, and the example comes out.
-/
import Derived.Test.YtmggccgjhjknpaaTAlive
import Derived.Test.YtmggccgjhjknpaaTCheck
import Derived.Deep.RegionHeld3
namespace Go.Proofs.Ytmggccgjhjknpaa
open Go.RowKit

theorem PlKept.cells {ty : Nat} {p : Pl} {v0 v1 v2 : Value} {lo hi B : Nat} {w0 w : World} (h : PlKept ty p v0 v1 v2 lo hi B w0 w) : w.cell? ⟨B, 0, none⟩ = some v0 ∧ w.cell? ⟨B, 1, none⟩ = some v1 ∧ w.cell? ⟨B, 2, none⟩ = some v2 := by
  have a0 := h.b.cell 0
  have a1 := h.b.cell 1
  have a2 := h.b.cell 2
  simp at a0 a1 a2
  exact ⟨a0, a1, a2⟩

set_option maxHeartbeats 3200000 in
set_option maxRecDepth 100000 in
theorem lawCheckT_any (p : Pl) (v0 v1 v2 : Value) (w : World) (hi : Nat) (hin : PlIn w 0 hi p v0 v1 v2) (hhi : hi ≤ w.heap.size) :
    Calls Try.prog 3 #[.agg #[v0, v1, v2]] w fun e w' => e = .returned (.bool true) ∧ Below w.heap.size w w' := by
  have HK0 := PlKept.start (ty := 25) hin hhi
  obtain ⟨A0, n0, c0, rfl⟩ := hin.s.form
  obtain ⟨A1, n1, c1, rfl⟩ := hin.f.form
  obtain ⟨A2, n2, c2, rfl⟩ := hin.r.form
  have HG := Lib.hid (given_any A0 A1 A2 n0 c0 n1 c1 n2 c2)
  generalize (Value.slice A0 n0 c0) = X0 at *
  generalize (Value.slice A1 n1 c1) = X1 at *
  generalize (Value.slice A2 n2 c2) = X2 at *
  generalize hK : (fun W => PlKept 25 p X0 X1 X2 0 hi w.heap.size w W) = K
  have hKn : ∀ W W', K W → Below W.heap.size W W' → K W' := by
    intro W W' h hb
    rw [← hK] at h ⊢
    exact h.next hb
  have of_ : ∀ W, K W → PlKept 25 p X0 X1 X2 0 hi w.heap.size w W := by
    intro W h
    rw [← hK] at h
    exact h
  have HV := Lib.hid (fun W (h : K W) => (HG.out W).mono fun e w' ⟨he, hb⟩ => (⟨he, hKn _ _ h hb⟩ : e = _ ∧ K w'))
  have HC := Lib.hid (fun W (h : K W) => (placeCheck_any p X0 X1 X2 W 0 hi (of_ W h).i (of_ W h).hi).mono fun e w' ⟨he, hb⟩ => (⟨he, hKn _ _ h hb⟩ : e = _ ∧ K w'))
  have HR := Lib.hid (fun W (h : K W) => (refPlaceCheck_any p X0 X1 X2 W hi (of_ W h).i (of_ W h).hi).mono fun e w' ⟨he, hb⟩ => (⟨he, hKn _ _ h hb⟩ : e = _ ∧ K w'))
  have HA := Lib.hid (fun W (h : K W) => (aliveT_any W).mono fun e w' ⟨he, hb⟩ => (⟨he, hKn _ _ h hb⟩ : e = _ ∧ K w'))
  have HCell : Hid (∀ W, K W → W.cell? ⟨w.heap.size, 0, none⟩ = some X0 ∧ W.cell? ⟨w.heap.size, 1, none⟩ = some X1 ∧ W.cell? ⟨w.heap.size, 2, none⟩ = some X2) := Lib.hid fun W h => (of_ W h).cells
  have HKB : Hid (∀ W, K W → Below w.heap.size w W) := Lib.hid fun W h => (of_ W h).bel
  have k0 : K (w.alloc (.cells #[X0, X1, X2] 25)) := by rw [← hK]; exact HK0
  have kd := hKn _ _ k0 (Below.refl _ _).drew
  generalize argErr p.ok = E at *
  clear hK hKn of_ HK0 hin HG
  obtain ⟨x0, x1, x2⟩ := HCell.out _ k0
  clear k0
  go_enter Try.func3, Try.ntmps3
  go_wp2_with fail
  go_region_held3 (fun w' => w'.cell? ⟨w.heap.size, 0, none⟩ = some X0 ∧ w'.cell? ⟨w.heap.size, 1, none⟩ = some X1 ∧ w'.cell? ⟨w.heap.size, 2, none⟩ = some X2)
    (first
      | go_keep
      | assumption
      | exact HCell.out _ (by assumption))
    (first
    | (go_at_call 15; ((with_reducible refine (HV.out _ (by assumption)).mono ?_); rintro e W1 ⟨rfl, K1⟩; have C1 := HCell.out _ K1))
    | (go_at_call 14; ((with_reducible refine (HC.out _ (by assumption)).mono ?_); rintro e W2 ⟨rfl, K2⟩; have C2 := HCell.out _ K2))
    | (go_at_call 16; ((with_reducible refine (HR.out _ (by assumption)).mono ?_); rintro e W3 ⟨rfl, K3⟩; have C3 := HCell.out _ K3))
    | (go_at_call 17; refine (HA.out _ (by assumption)).mono ?_; rintro e W5 ⟨rfl, K5⟩; have C5 := HCell.out _ K5))
  all_goals
    go_wp2_with fail
    go_ret
    exact ⟨rfl, HKB.out _ K5⟩
end Go.Proofs.Ytmggccgjhjknpaa
