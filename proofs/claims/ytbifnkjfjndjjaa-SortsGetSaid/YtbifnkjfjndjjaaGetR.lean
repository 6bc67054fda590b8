/-
  The reference's Get.
-/
import Derived.Test.YtbifnkjfjndjjaaGet
namespace Go.Proofs.Ytbifnkjfjndjjaa
open Go.RowKit

set_option maxHeartbeats 1600000 in
theorem refGet_any (t : List UInt8) (w : World) (hm : t.length ≤ 9223372036854775807) : Calls Try.prog 27 #[.string ⟨t.toArray⟩] w (Gets t w) := by
  have hw0 := below_new' w (.cells #[.slice none 0 0] 24)
  have hr0 := Blk.new w 24 #[.slice none 0 0]
  by_cases hl : 65536 < t.length
  · have HE : Hid (getE t = 3) := Lib.hid (by simp [getE, hl])
    go_enter Try.func27, Try.ntmps27
    go_wp2_with fail
    refine bodyPost_ret (refGet_results (y := .int .i64 3) rfl rfl (by exact Blk.new _ _ _)) rfl ?_
    exact Gets.no HE.out (by decide) hw0
  · have HR := Lib.hid (refParse_any (t.length + 1) t 0 0 (w.alloc (.cells #[.slice none 0 0] 24)) rfl (by omega) (Nat.zero_le _) (by omega))
    cases hp : parse [] t with
    | none =>
      have HQ : Hid (∀ W e w', ParsePost t 0 W e w' → ∃ A n c, ∃ i : Int, e = .returned (.tuple #[.agg #[.slice A n c], .int .i64 i, .bool false]) ∧ Below W.heap.size W w') := Lib.hid (fun W e w' h => by rw [ParsePost, List.drop_zero, hp] at h; exact h)
      have HE : Hid (getE t = 4) := Lib.hid (by simp [getE, hl, whole, hp])
      clear hp
      go_enter Try.func27, Try.ntmps27
      go_wp2_with fail
      refine HR.out.mono ?_
      intro e w1 h1
      obtain ⟨A, n, c, i, rfl, b1⟩ := HQ.out _ _ _ h1
      have r1 := (hr0.below b1 (by simp)).alloc (.cells #[.slice A n c] 24)
      have c1 := r1.cell 0
      have f1 := r1.frozen 0
      have z1 := b1.size
      simp only [World.size_alloc] at b1 z1
      go_wp2_with fail
      refine bodyPost_ret (refGet_results (x := .slice none 0 0) (y := .int .i64 4) rfl rfl ?_) rfl ?_
      rotate_left
      · exact Gets.no HE.out (by decide) (by first | exact ((hw0.trans (b1.mono (by omega))).alloc (by omega) _).setCell (p := ⟨w.heap.size, 0, none⟩) (Nat.le_refl _) _ | exact ((hw0.trans (b1.mono (by omega))).setCell (p := ⟨w.heap.size, 0, none⟩) (Nat.le_refl _) _).alloc (by simp [World.setCell]; omega) _)
      · first | exact r1.set_ 0 _ | exact ((hr0.below b1 (by omega)).set_ 0 _).alloc _
    | some y =>
      obtain ⟨s, r⟩ := y
      have HQ : Hid (∀ W e w', ParsePost t 0 W e w' → ∃ v fp, ∃ nx : Nat, e = .returned (.tuple #[.agg #[v], .int .i64 (nx : Int), .bool true]) ∧ t.drop nx = r ∧ nx ≤ t.length ∧ s.Sep w' v fp ∧ fp.Nodup ∧ (∀ k ∈ fp, W.heap.size ≤ k ∧ k < w'.heap.size) ∧ Below W.heap.size W w') :=
        Lib.hid (fun W e w' h => by rw [ParsePost, List.drop_zero, hp] at h; exact h)
      by_cases hr : r = []
      · subst hr
        have hwh : whole t = some s := by simp [whole, hp]
        have HC := Lib.hid (fun v W lo hi => is_any s v W lo hi)
        cases hok : s.ok with
        | true =>
          have HW := Lib.hid hwh
          have HOK := Lib.hid hok
          have HL := Lib.hid hl
          rw [hok] at HC
          clear hp hok hwh
          go_enter Try.func27, Try.ntmps27
          go_wp2_with fail
          refine HR.out.mono ?_
          intro e w1 h1
          obtain ⟨v, fp, nx, rfl, q1, q2, g1, g2, g3, b1⟩ := HQ.out _ _ _ h1
          obtain ⟨A, n, c, rfl⟩ := g1.form
          have hnx : nx = t.length := by have := congrArg List.length q1; rw [List.length_drop] at this; simp at this; omega
          subst hnx
          have r1 := (hr0.below b1 (by simp)).alloc (.cells #[.slice A n c] 24)
          have x1 := Blk.new w1 24 #[.slice A n c]
          have cx1 := x1.cell 0
          have z1 := b1.size
          simp only [World.size_alloc] at b1 z1 g3
          have hwx := below_new' w1 (.cells #[.slice A n c] 24)
          have g4 := g1.keep (w' := w1.alloc (.cells #[.slice A n c] 24)) _ (fun k hk => Below.heap_alloc _ _ _ (g3 k hk).2)
          have i4 := g4.in_ (lo := 0) (hi := w1.heap.size) _ (fun k hk => ⟨Nat.zero_le _, (g3 k hk).2⟩)
          have HD := Lib.hid (HC.out _ _ _ _ i4 (by simp))
          clear q1
          go_wp2_with fail
          refine HD.out.mono ?_
          rintro e w2 ⟨rfl, b2⟩
          have r2 := r1.below b2 (by simp; omega)
          have x2 := x1.below b2 (by simp)
          have c2 := x2.cell 0
          have c3 := r2.cell 0
          have f3 := r2.frozen 0
          have z2 := b2.size
          simp only [World.size_alloc] at b2 z2
          go_wp2_with fail
          refine bodyPost_ret (refGet_results (y := .int .i64 0) rfl rfl (r2.set_ 0 _)) rfl ?_
          refine Gets.yes (fp := fp) HL.out HW.out HOK.out (g4.keep _ fun k hk => ?_) g2 (fun k hk => ?_) ((((hw0.trans (b1.mono (by omega))).trans (hwx.mono (by omega))).trans (b2.mono (by omega))).setCell (p := ⟨w.heap.size, 0, none⟩) (Nat.le_refl _) _)
          · have := g3 k hk
            rw [Below.heap_setCell _ _ _ _ (by show k ≠ w.heap.size; omega)]
            exact b2.block k (by omega)
          · have := g3 k hk
            simp [World.setCell]
            omega
        | false =>
          have HE : Hid (getE t = 6) := Lib.hid (by simp [getE, hl, hwh, hok, errOf])
          rw [hok] at HC
          clear hp hok hwh
          go_enter Try.func27, Try.ntmps27
          go_wp2_with fail
          refine HR.out.mono ?_
          intro e w1 h1
          obtain ⟨v, fp, nx, rfl, q1, q2, g1, g2, g3, b1⟩ := HQ.out _ _ _ h1
          obtain ⟨A, n, c, rfl⟩ := g1.form
          have hnx : nx = t.length := by have := congrArg List.length q1; rw [List.length_drop] at this; simp at this; omega
          subst hnx
          have r1 := (hr0.below b1 (by simp)).alloc (.cells #[.slice A n c] 24)
          have cx1 := (Blk.new w1 24 #[.slice A n c]).cell 0
          have z1 := b1.size
          simp only [World.size_alloc] at b1 z1 g3
          have hwx := below_new' w1 (.cells #[.slice A n c] 24)
          have g4 := g1.keep (w' := w1.alloc (.cells #[.slice A n c] 24)) _ (fun k hk => Below.heap_alloc _ _ _ (g3 k hk).2)
          have i4 := g4.in_ (lo := 0) (hi := w1.heap.size) _ (fun k hk => ⟨Nat.zero_le _, (g3 k hk).2⟩)
          have HD := Lib.hid (HC.out _ _ _ _ i4 (by simp))
          clear q1
          go_wp2_with fail
          refine HD.out.mono ?_
          rintro e w2 ⟨rfl, b2⟩
          have r2 := r1.below b2 (by simp; omega)
          have c3 := r2.cell 0
          have f3 := r2.frozen 0
          have z2 := b2.size
          simp only [World.size_alloc] at b2 z2
          go_wp2_with fail
          refine bodyPost_ret (refGet_results (y := .int .i64 6) rfl rfl (r2.set_ 0 _)) rfl ?_
          exact Gets.no HE.out (by decide) ((((hw0.trans (b1.mono (by omega))).trans (hwx.mono (by omega))).trans (b2.mono (by omega))).setCell (p := ⟨w.heap.size, 0, none⟩) (Nat.le_refl _) _)
      · have HE : Hid (getE t = 4) := Lib.hid (by
          have : whole t = none := by
            rw [whole, hp]
            cases r with
            | nil => exact absurd rfl hr
            | cons a r => rfl
          simp [getE, hl, this])
        have hrl : 0 < r.length := List.length_pos_iff.2 hr
        clear hp hr
        go_enter Try.func27, Try.ntmps27
        go_wp2_with fail
        refine HR.out.mono ?_
        intro e w1 h1
        obtain ⟨v, fp, nx, rfl, q1, q2, g1, g2, g3, b1⟩ := HQ.out _ _ _ h1
        obtain ⟨A, n, c, rfl⟩ := g1.form
        have hnx : nx < t.length := by have := congrArg List.length q1; rw [List.length_drop] at this; omega
        have hne : ((nx : Int) != (t.length : Int)) = true := by rw [bne_iff_ne]; omega
        have r1 := (hr0.below b1 (by simp)).alloc (.cells #[.slice A n c] 24)
        have c1 := r1.cell 0
        have f1 := r1.frozen 0
        have z1 := b1.size
        simp only [World.size_alloc] at b1 z1
        clear q1
        go_wp2_with fail
        refine bodyPost_ret (refGet_results (x := .slice none 0 0) (y := .int .i64 4) rfl rfl ?_) rfl ?_
        rotate_left
        · exact Gets.no HE.out (by decide) (by first | exact ((hw0.trans (b1.mono (by omega))).alloc (by omega) _).setCell (p := ⟨w.heap.size, 0, none⟩) (Nat.le_refl _) _ | exact ((hw0.trans (b1.mono (by omega))).setCell (p := ⟨w.heap.size, 0, none⟩) (Nat.le_refl _) _).alloc (by simp [World.setCell]; omega) _)
        · first | exact r1.set_ 0 _ | exact ((hr0.below b1 (by omega)).set_ 0 _).alloc _
end Go.Proofs.Ytbifnkjfjndjjaa
