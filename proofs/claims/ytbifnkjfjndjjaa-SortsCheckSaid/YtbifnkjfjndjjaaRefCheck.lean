/-
  The reference's Check and Size of sorts: contracts.
-/
import Derived.Test.YtbifnkjfjndjjaaRef
namespace Go.Proofs.Ytbifnkjfjndjjaa
open Go.RowKit

set_option maxHeartbeats 400000 in
theorem refCheck_any (s : S) (v : Value) (w : World) (lo hi : Nat) (hin : s.In w lo hi v) (hhi : hi ≤ w.heap.size) :
    Calls Try.prog 16 #[.agg #[v]] w fun e w' => e = .returned (.int .i64 (errOf s.ok)) ∧ Below w.heap.size w w' := by
  obtain ⟨A, n, c, rfl⟩ := hin.form
  have hin1 := hin.below ((Below.refl _ _).alloc (Nat.le_refl _) (.cells #[.slice A n c] 24)) hhi
  cases hok : s.ok with
  | true =>
    have H : Hid (s.ok = true) := Lib.hid hok
    clear hok
    go_enter Try.func16, Try.ntmps16
    go_wp2_with fail
    refine (is_any s _ _ lo hi hin1 (by simp; omega)).mono ?_
    rw [H.out]
    rintro e w1 ⟨rfl, hb1⟩
    simp only [World.size_alloc] at hb1
    go_wp2_with fail
    go_ret
    exact ⟨rfl, (((Below.refl _ _).alloc (Nat.le_refl _) _).trans (hb1.mono (by omega)))⟩
  | false =>
    have H : Hid (s.ok = false) := Lib.hid hok
    clear hok
    go_enter Try.func16, Try.ntmps16
    go_wp2_with fail
    refine (is_any s _ _ lo hi hin1 (by simp; omega)).mono ?_
    rw [H.out]
    rintro e w1 ⟨rfl, hb1⟩
    simp only [World.size_alloc] at hb1
    go_wp2_with fail
    go_ret
    exact ⟨rfl, (((Below.refl _ _).alloc (Nat.le_refl _) _).trans (hb1.mono (by omega)))⟩

set_option maxHeartbeats 400000 in
theorem refSize_any (s : S) (v : Value) (w : World) (lo hi : Nat) (hin : s.In w lo hi v) (hhi : hi ≤ w.heap.size) :
    Calls Try.prog 14 #[.agg #[v]] w fun e w' => e = .returned (.tuple #[.int .i64 (s.sizes.1 : Int), .int .i64 (s.sizes.2 : Int)]) ∧ Below w.heap.size w w' := by
  obtain ⟨A, n, c, rfl⟩ := hin.form
  have hin1 := hin.below ((Below.refl _ _).alloc (Nat.le_refl _) (.cells #[.slice A n c] 24)) hhi
  have hbk := Blk.new w 24 #[.slice A n c]
  by_cases h1 : s.count ≤ 60
  · have HS : Hid (s.sizes = (s.count, s.deep)) := Lib.hid (by simp [S.sizes, h1])
    go_enter Try.func14, Try.ntmps14
    go_wp2_with fail
    refine (nodes_any _ s _ 60 _ lo hi (Nat.le_refl _) (by omega) (by omega) hin1 (by simp; omega)).mono ?_
    rw [show min (s.count : Int) (60 + 1) = (s.count : Int) from by omega]
    rintro e w1 ⟨rfl, hb1⟩
    have hin2 := hin1.below hb1 (by simp; omega)
    have hbk1 := hbk.below hb1 (by simp)
    have hz := hb1.size
    simp only [World.size_alloc] at hb1 hz
    have hc1 := hbk1.cell 0
    go_wp2_with fail
    refine (depth_any _ s _ _ lo hi (Nat.le_refl _) (by omega) hin2 (by omega)).mono ?_
    rintro e w2 ⟨rfl, hb2⟩
    go_wp2_with fail
    go_ret2
    exact ⟨by rw [HS.out]; rfl, (((Below.refl _ _).alloc (Nat.le_refl _) _).trans (hb1.mono (by omega))).trans (hb2.mono (by omega))⟩
  · have HS : Hid (s.sizes = (61, 0)) := Lib.hid (by simp [S.sizes, h1])
    go_enter Try.func14, Try.ntmps14
    go_wp2_with fail
    refine (nodes_any _ s _ 60 _ lo hi (Nat.le_refl _) (by omega) (by omega) hin1 (by simp; omega)).mono ?_
    rw [show min (s.count : Int) (60 + 1) = 61 from by omega]
    rintro e w1 ⟨rfl, hb1⟩
    simp only [World.size_alloc] at hb1
    go_wp2_with fail
    go_ret2
    exact ⟨by rw [HS.out]; rfl, (((Below.refl _ _).alloc (Nat.le_refl _) _).trans (hb1.mono (by omega)))⟩
end Go.Proofs.Ytbifnkjfjndjjaa
