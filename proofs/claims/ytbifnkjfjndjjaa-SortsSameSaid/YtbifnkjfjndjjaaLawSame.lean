/-
  SortsSame: Same answers as the reference does, and the example comes out.
-/
import Derived.Test.YtbifnkjfjndjjaaKept
import Derived.Deep.RegionHeld3
namespace Go.Proofs.Ytbifnkjfjndjjaa
open Go.RowKit

set_option maxHeartbeats 3200000 in
set_option maxRecDepth 100000 in
theorem lawSame_any (s : S) (v : Value) (t : S) (u : Value) (w : World) (lo hi lo' hi' : Nat) (hin : s.In w lo hi v) (hhi : hi ≤ w.heap.size) (hin2 : t.In w lo' hi' u) (hhi2 : hi' ≤ w.heap.size) :
    Calls Try.prog 4 #[.agg #[v], .agg #[u]] w fun e w' => e = .returned (.bool true) ∧ Below w.heap.size w w' := by
  obtain ⟨A, n, c, rfl⟩ := hin.form
  obtain ⟨A2, n2, c2, rfl⟩ := hin2.form
  have HK0 := Kept.start hin hhi
  have HL0 := Kept.start (hin2.below HK0.bel hhi2) (by simp; omega)
  replace HK0 := HK0.next (w' := (w.alloc (.cells #[.slice A n c] 24)).alloc (.cells #[.slice A2 n2 c2] 24)) ((Below.refl _ _).alloc (Nat.le_refl _) _)
  simp only [World.size_alloc] at HL0
  generalize (Value.slice A n c) = X at *
  generalize (Value.slice A2 n2 c2) = Y at *
  have HKL : Hid (∀ W, Kept s X lo hi w w.heap.size W ∧ Kept t Y lo' hi' (w.alloc (.cells #[X] 24)) (w.heap.size + 1) W → W.cell? ⟨w.heap.size, 0, none⟩ = some X ∧ W.cell? ⟨w.heap.size + 1, 0, none⟩ = some Y) := Lib.hid fun W h => ⟨h.1.cell, h.2.cell⟩
  generalize hK : (fun W => Kept s X lo hi w w.heap.size W ∧ Kept t Y lo' hi' (w.alloc (.cells #[X] 24)) (w.heap.size + 1) W) = K at *
  have hKn : ∀ W W', K W → Below W.heap.size W W' → K W' := by
    intro W W' h hb
    rw [← hK] at h ⊢
    exact ⟨h.1.next hb, h.2.next hb⟩
  have hKb : ∀ W, K W → Below w.heap.size w W := by
    intro W h
    rw [← hK] at h
    exact h.1.bel
  have HC1 := Lib.hid (fun W (h : K W) => (same_any s t X Y W lo hi lo' hi' (by rw [← hK] at h; exact h.1.ins) (by rw [← hK] at h; exact h.1.hw) (by rw [← hK] at h; exact h.2.ins) (by rw [← hK] at h; exact h.2.hw)).mono fun e w' ⟨he, hb⟩ => (⟨he, hKn _ _ h hb⟩ : e = _ ∧ K w'))
  have HC2 := Lib.hid (fun W (h : K W) => (same_any s s X X W lo hi lo hi (by rw [← hK] at h; exact h.1.ins) (by rw [← hK] at h; exact h.1.hw) (by rw [← hK] at h; exact h.1.ins) (by rw [← hK] at h; exact h.1.hw)).mono fun e w' ⟨he, hb⟩ => (⟨he, hKn _ _ h hb⟩ : e = _ ∧ K w'))
  have HR1 := Lib.hid (fun W (h : K W) => (refSame_any s t X Y W lo hi lo' hi' (by rw [← hK] at h; exact h.1.ins) (by rw [← hK] at h; exact h.1.hw) (by rw [← hK] at h; exact h.2.ins) (by rw [← hK] at h; exact h.2.hw)).mono fun e w' ⟨he, hb⟩ => (⟨he, hKn _ _ h hb⟩ : e = _ ∧ K w'))
  have HR2 := Lib.hid (fun W (h : K W) => (refSame_any s s X X W lo hi lo hi (by rw [← hK] at h; exact h.1.ins) (by rw [← hK] at h; exact h.1.hw) (by rw [← hK] at h; exact h.1.ins) (by rw [← hK] at h; exact h.1.hw)).mono fun e w' ⟨he, hb⟩ => (⟨he, hKn _ _ h hb⟩ : e = _ ∧ K w'))
  have HA := Lib.hid (fun W (h : K W) => (alive_any W).mono fun e w' ⟨he, hb⟩ => (⟨he, hKn _ _ h hb⟩ : e = _ ∧ K w'))
  have HCell : Hid (∀ W, K W → W.cell? ⟨w.heap.size, 0, none⟩ = some X ∧ W.cell? ⟨w.heap.size + 1, 0, none⟩ = some Y) := Lib.hid fun W h => HKL.out W (by rw [← hK] at h; exact h)
  have HKB := Lib.hid hKb
  have kd : K ((w.alloc (.cells #[X] 24)).alloc (.cells #[Y] 24)).drew := by
    rw [← hK]
    exact ⟨HK0.drew, HL0.drew⟩
  generalize (decide (s.count ≤ 60) && (decide (t.count ≤ 60) && s.eqb t)) = B1 at *
  generalize (decide (s.count ≤ 60) && (decide (s.count ≤ 60) && s.eqb s)) = B2 at *
  clear hK hKn hKb HKL HK0 HL0 hin hin2
  go_enter Try.func4, Try.ntmps4
  go_wp2_with fail
  go_region_held3 (fun w' => w'.cell? ⟨w.heap.size, 0, none⟩ = some X ∧ w'.cell? ⟨w.heap.size + 1, 0, none⟩ = some Y)
    (first
      | go_keep
      | assumption
      | (go_split_ands; refine ⟨?_, ?_⟩ <;> assumption))
    (first
    | (go_at_call 18; ((with_reducible refine (HC1.out _ (by assumption)).mono ?_); rintro e W1 ⟨rfl, K1⟩; obtain ⟨C1, D1⟩ := HCell.out _ K1))
    | (go_at_call 18; ((with_reducible refine (HC2.out _ (by assumption)).mono ?_); rintro e W2 ⟨rfl, K2⟩; obtain ⟨C2, D2⟩ := HCell.out _ K2))
    | (go_at_call 19; ((with_reducible refine (HR1.out _ (by assumption)).mono ?_); rintro e W3 ⟨rfl, K3⟩; obtain ⟨C3, D3⟩ := HCell.out _ K3))
    | (go_at_call 19; ((with_reducible refine (HR2.out _ (by assumption)).mono ?_); rintro e W4 ⟨rfl, K4⟩; obtain ⟨C4, D4⟩ := HCell.out _ K4))
    | (go_at_call 17; refine (HA.out _ (by assumption)).mono ?_; rintro e W5 ⟨rfl, K5⟩; obtain ⟨C5, D5⟩ := HCell.out _ K5))
  all_goals
    go_wp2_with fail
    go_ret
    exact ⟨rfl, HKB.out _ K5⟩
end Go.Proofs.Ytbifnkjfjndjjaa
