/-
  SchemeCheck: for every scheme that can be read, Check answers as the reference does, and the example comes out.
-/
import Derived.Test.YthgkgjbjiiedaaaGreatDoorGJ
import Derived.Test.YthgkgjbjiiedaaaGreatDoorGL
import Derived.Deep.RegionHeld3
namespace Go.Proofs.YthgkgjbjiiedaaaGreatDoor
open Go.RowKit

/-- A scheme in its box, kept, beside the library's variables. -/
structure ScG (s : Sc) (v0 v1 : Value) (hi B : Nat) (w0 w : World) : Prop where
  k : ScKept s v0 v1 hi B w0 w
  g : GV w
  h8 : 8 ≤ B
theorem ScG.next {s : Sc} {v0 v1 : Value} {hi B : Nat} {w0 w w' : World} (h : ScG s v0 v1 hi B w0 w) (hb : Below w.heap.size w w') : ScG s v0 v1 hi B w0 w' :=
  ⟨h.k.next hb, h.g.below hb (by have := h.k.b.lt; have := h.h8; omega), h.h8⟩
theorem ScG.start {s : Sc} {v0 v1 : Value} {hi : Nat} {w : World} (h : ScIn w hi s v0 v1) (hhi : hi ≤ w.heap.size) (hg : GV w) (h8 : 8 ≤ w.heap.size) : ScG s v0 v1 hi w.heap.size w (w.alloc (.cells #[v0, v1] 25)) :=
  ⟨ScKept.start h hhi, hg.below ((Below.refl w.heap.size w).alloc (Nat.le_refl _) _) h8, h8⟩
theorem ScG.two {s : Sc} {v0 v1 : Value} {hi B : Nat} {w0 w : World} (h : ScG s v0 v1 hi B w0 w) : w.cell? ⟨B, 0, none⟩ = some v0 ∧ w.cell? ⟨B, 1, none⟩ = some v1 := by
  have a0 := h.k.b.cell 0
  have a1 := h.k.b.cell 1
  simp at a0 a1
  exact ⟨a0, a1⟩
theorem ScG.lt {s : Sc} {v0 v1 : Value} {hi B : Nat} {w0 w : World} (h : ScG s v0 v1 hi B w0 w) : hi ≤ w.heap.size ∧ 8 ≤ w.heap.size := by
  have h1 := h.k.b.lt
  have h2 := h.k.hi
  have h3 := h.h8
  omega

set_option maxHeartbeats 3200000 in
set_option maxRecDepth 100000 in
theorem lawCheckS_any (s : Sc) (v0 v1 : Value) (w : World) (hi : Nat) (hin : ScIn w hi s v0 v1) (hhi : hi ≤ w.heap.size) (hg : GV w) (h8 : 8 ≤ w.heap.size) :
    Calls Tryz.prog 3 #[.agg #[v0, v1]] w fun e w' => e = .returned (.bool true) ∧ Below w.heap.size w w' := by
  have HK0 := ScG.start hin hhi hg h8
  obtain ⟨⟨A0, n0, c0, rfl⟩, ⟨A1, n1, c1, rfl⟩⟩ := hin.form
  generalize (Value.slice A0 n0 c0) = X0 at *
  generalize (Value.slice A1 n1 c1) = X1 at *
  generalize hK : (fun W => ScG s X0 X1 hi w.heap.size w W) = K
  have hKn : ∀ W W', K W → Below W.heap.size W W' → K W' := by
    intro W W' h hb
    rw [← hK] at h ⊢
    exact h.next hb
  have of_ : ∀ W, K W → ScG s X0 X1 hi w.heap.size w W := by
    intro W h
    rw [← hK] at h
    exact h
  have HC := Lib.hid (fun W (h : K W) => (schemeCheck_any s X0 X1 W hi (of_ W h).k.i (of_ W h).lt.1).mono fun e w' ⟨he, hb⟩ => (⟨he, hKn _ _ h hb⟩ : e = _ ∧ K w'))
  have HR := Lib.hid (fun W (h : K W) => (refScCheck_any s X0 X1 W hi (of_ W h).k.i (of_ W h).lt.1).mono fun e w' ⟨he, hb⟩ => (⟨he, hKn _ _ h hb⟩ : e = _ ∧ K w'))
  have HA := Lib.hid (fun W (h : K W) => (aliveS_any W (of_ W h).g (of_ W h).lt.2).mono fun e w' ⟨he, hb⟩ => (⟨he, hKn _ _ h hb⟩ : e = _ ∧ K w'))
  have HCell : Hid (∀ W, K W → W.cell? ⟨w.heap.size, 0, none⟩ = some X0 ∧ W.cell? ⟨w.heap.size, 1, none⟩ = some X1) := Lib.hid fun W h => (of_ W h).two
  have HKB : Hid (∀ W, K W → Below w.heap.size w W) := Lib.hid fun W h => (of_ W h).k.bel
  have k0 : K (w.alloc (.cells #[X0, X1] 25)) := by rw [← hK]; exact HK0
  have kd := hKn _ _ k0 (Below.refl _ _).drew
  generalize schErr s.ok = E at *
  clear hK hKn of_ HK0 hin hg
  obtain ⟨x0, x1⟩ := HCell.out _ k0
  clear k0
  go_enter Tryz.func3, Tryz.ntmps3
  go_wp2_with fail
  go_region_held3 (fun w' => w'.cell? ⟨w.heap.size, 0, none⟩ = some X0 ∧ w'.cell? ⟨w.heap.size, 1, none⟩ = some X1)
    (first
      | go_keep
      | assumption
      | exact HCell.out _ (by assumption))
    (first
    | (go_at_call 14; ((with_reducible refine (HC.out _ (by assumption)).mono ?_); rintro e W2 ⟨rfl, K2⟩; have C2 := HCell.out _ K2))
    | (go_at_call 15; ((with_reducible refine (HR.out _ (by assumption)).mono ?_); rintro e W3 ⟨rfl, K3⟩; have C3 := HCell.out _ K3))
    | (go_at_call 16; refine (HA.out _ (by assumption)).mono ?_; rintro e W5 ⟨rfl, K5⟩; have C5 := HCell.out _ K5))
  all_goals
    go_wp2_with fail
    go_ret
    exact ⟨rfl, HKB.out _ K5⟩
end Go.Proofs.YthgkgjbjiiedaaaGreatDoor
