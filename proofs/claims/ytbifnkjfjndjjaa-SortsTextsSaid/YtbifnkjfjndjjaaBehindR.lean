/-
  The reference's Behind: contract.
-/
import Derived.Test.YtbifnkjfjndjjaaBehind
namespace Go.Proofs.Ytbifnkjfjndjjaa
open Go.RowKit

theorem refBehind_any_results {tmps : Array Value} {w : World} {a : Nat} {x y : Value} (h2 : tmps.getD 4 undef = .pointer (some ⟨a, 0, none⟩)) (h3 : tmps.getD 5 undef = y)
    (ha : Blk w a 24 #[x]) : (results Try.f23 tmps).run Try.prog w = .ok (.tuple #[.agg #[x], y]) w := by
  have h4 := ha.cell 0
  simp at h4
  have h2' : tmps[4]?.getD undef = .pointer (some ⟨a, 0, none⟩) := by simpa using h2
  have h3' : tmps[5]?.getD undef = y := by simpa using h3
  simp [results, Try.results23, go_sem, h2', h3', h4]

set_option maxRecDepth 100000 in
set_option maxHeartbeats 800000 in
theorem refBehind_any (s : S) (v : Value) (k : Int) (w : World) (lo hi : Nat) (hin : s.In w lo hi v) (hhi : hi ≤ w.heap.size) :
    Calls Try.prog 23 #[.agg #[v], .int .i64 k] w (Behinds s k w) := by
  obtain ⟨l⟩ := s
  have hin0 := hin
  simp only [S.In] at hin
  obtain ⟨A, _, c, rfl, rfl, hnc, hc, hall⟩ := hin
  have hw1 : Below w.heap.size w ((w.alloc (.cells #[.slice A l.length c] 24)).alloc (.cells #[.slice none 0 0] 24)) := ((Below.refl _ _).alloc (Nat.le_refl _) _).alloc (by simp) _
  have hin1 := hin0.below hw1 hhi
  have hbk : Blk ((w.alloc (.cells #[.slice A l.length c] 24)).alloc (.cells #[.slice none 0 0] 24)) w.heap.size 24 #[.slice A l.length c] := (Blk.new w _ _).alloc _
  have hbr : Blk ((w.alloc (.cells #[.slice A l.length c] 24)).alloc (.cells #[.slice none 0 0] 24)) (w.heap.size + 1) 24 #[.slice none 0 0] := by simpa using Blk.new (w.alloc (.cells #[.slice A l.length c] 24)) 24 #[.slice none 0 0]
  have HC := Lib.hid (is_any _ _ _ lo hi hin1 (by simp; omega))
  cases hok : (S.mk l).ok with
  | true =>
    rw [hok] at HC
    have hcnt := S.ok_count hok
    by_cases hk : k < 0 ∨ (l.length : Int) < k
    · have HE := Lib.hid ((S.mk l).behindE_arg hok hk)
      have HS := Lib.hid ((S.mk l).behindS_no (k := k) (by rw [HE.out]; decide))
      clear hok
      by_cases hkn : k < 0
      · clear hk
        go_enter Try.func23, Try.ntmps23
        go_wp2_with fail
        refine HC.out.mono ?_
        rintro e w1 ⟨rfl, hb1⟩
        have hk1 := hbk.below hb1 (by simp; omega)
        have hr1 := hbr.below hb1 (by simp)
        have hc1 := hk1.cell 0
        have hcr := hr1.cell 0
        have hfr := hr1.frozen 0
        have hin2 := hin1.below hb1 (by simp; omega)
        have hz := hb1.size
        simp only [World.size_alloc] at hb1 hz
        go_wp2_with fail
        refine bodyPost_ret (refBehind_any_results (y := .int .i64 2) rfl rfl (hr1.set_ 0 _)) rfl ?_
        exact ⟨_, [], by rw [HE.out], by rw [HS.out]; exact sep_nil _, by simp, by simp, (hw1.trans (hb1.mono (by omega))).setCell (by simp) _⟩
      · have hkl : (l.length : Int) < k := by omega
        clear hk
        go_enter Try.func23, Try.ntmps23
        go_wp2_with fail
        refine HC.out.mono ?_
        rintro e w1 ⟨rfl, hb1⟩
        have hk1 := hbk.below hb1 (by simp; omega)
        have hr1 := hbr.below hb1 (by simp)
        have hc1 := hk1.cell 0
        have hcr := hr1.cell 0
        have hfr := hr1.frozen 0
        have hin2 := hin1.below hb1 (by simp; omega)
        have hz := hb1.size
        simp only [World.size_alloc] at hb1 hz
        go_wp2_with fail
        refine bodyPost_ret (refBehind_any_results (y := .int .i64 2) rfl rfl (hr1.set_ 0 _)) rfl ?_
        exact ⟨_, [], by rw [HE.out], by rw [HS.out]; exact sep_nil _, by simp, by simp, (hw1.trans (hb1.mono (by omega))).setCell (by simp) _⟩
    · have hk1 : 0 ≤ k := by omega
      have hk2 : k ≤ l.length := by omega
      obtain ⟨m, rfl⟩ := Int.eq_ofNat_of_zero_le hk1
      have HE := Lib.hid ((S.mk l).behindE_ok hok hk)
      have HS := Lib.hid ((S.mk l).behindS_yes HE.out)
      have hcd : (S.mk (l.drop m)).count ≤ 60 := by have := S.countL_drop_le l m; simp only [S.count] at hcnt ⊢; omega
      clear hok hk
      by_cases hcm : c = m
      · subst hcm
        go_enter Try.func23, Try.ntmps23
        go_wp2_with fail
        refine HC.out.mono ?_
        rintro e w1 ⟨rfl, hb1⟩
        have hk1 := hbk.below hb1 (by simp; omega)
        have hr1 := hbr.below hb1 (by simp)
        have hc1 := hk1.cell 0
        have hcr := hr1.cell 0
        have hfr := hr1.frozen 0
        have hin2 := hin1.below hb1 (by simp; omega)
        have hz := hb1.size
        simp only [World.size_alloc] at hb1 hz
        have hdr := hin2.drop (k := c) (by omega)
        rw [if_pos rfl, Nat.sub_self, Nat.sub_eq_zero_of_le hnc] at hdr
        have HD := Lib.hid (copy_any _ _ _ _ lo hi (Nat.le_refl _) (by omega) hdr (by omega))
        go_wp2_with fail
        refine HD.out.mono ?_
        rintro e w2 ⟨v2, fp, rfl, g1, g2, g3, g4⟩
        obtain ⟨A2, n2, c2, rfl⟩ := g1.form
        have hr2 := hr1.below g4 (by omega)
        have hcr2 := hr2.cell 0
        have hfr2 := hr2.frozen 0
        go_wp2_with fail
        refine bodyPost_ret (refBehind_any_results (y := .int .i64 0) rfl rfl (hr2.set_ 0 _)) rfl ?_
        refine ⟨_, fp, by rw [HE.out], ?_, g2, ?_, ((hw1.trans (hb1.mono (by omega))).trans (g4.mono (by omega))).setCell (by simp) _⟩
        · rw [HS.out]
          exact g1.keep _ (fun b hb => Below.heap_setCell _ _ _ _ (by have := g3 b hb; show b ≠ w.heap.size + 1; omega))
        · intro b hb
          have := g3 b hb
          simp [World.setCell]
          omega
      · go_enter Try.func23, Try.ntmps23
        go_wp2_with fail
        refine HC.out.mono ?_
        rintro e w1 ⟨rfl, hb1⟩
        have hk1 := hbk.below hb1 (by simp; omega)
        have hr1 := hbr.below hb1 (by simp)
        have hc1 := hk1.cell 0
        have hcr := hr1.cell 0
        have hfr := hr1.frozen 0
        have hin2 := hin1.below hb1 (by simp; omega)
        have hz := hb1.size
        simp only [World.size_alloc] at hb1 hz
        have hdr := hin2.drop (k := m) (by omega)
        rw [if_neg hcm] at hdr
        have HD := Lib.hid (copy_any _ _ _ _ lo hi (Nat.le_refl _) (by omega) hdr (by omega))
        go_wp2_with fail
        refine HD.out.mono ?_
        rintro e w2 ⟨v2, fp, rfl, g1, g2, g3, g4⟩
        obtain ⟨A2, n2, c2, rfl⟩ := g1.form
        have hr2 := hr1.below g4 (by omega)
        have hcr2 := hr2.cell 0
        have hfr2 := hr2.frozen 0
        go_wp2_with fail
        refine bodyPost_ret (refBehind_any_results (y := .int .i64 0) rfl rfl (hr2.set_ 0 _)) rfl ?_
        refine ⟨_, fp, by rw [HE.out], ?_, g2, ?_, ((hw1.trans (hb1.mono (by omega))).trans (g4.mono (by omega))).setCell (by simp) _⟩
        · rw [HS.out]
          exact g1.keep _ (fun b hb => Below.heap_setCell _ _ _ _ (by have := g3 b hb; show b ≠ w.heap.size + 1; omega))
        · intro b hb
          have := g3 b hb
          simp [World.setCell]
          omega
  | false =>
    rw [hok] at HC
    have HE := Lib.hid ((S.mk l).behindE_bad (k := k) hok)
    have HS := Lib.hid ((S.mk l).behindS_no (k := k) (by rw [HE.out]; decide))
    clear hok
    go_enter Try.func23, Try.ntmps23
    go_wp2_with fail
    refine HC.out.mono ?_
    rintro e w1 ⟨rfl, hb1⟩
    have hk1 := hbk.below hb1 (by simp; omega)
    have hr1 := hbr.below hb1 (by simp)
    have hc1 := hk1.cell 0
    have hcr := hr1.cell 0
    have hfr := hr1.frozen 0
    have hin2 := hin1.below hb1 (by simp; omega)
    have hz := hb1.size
    simp only [World.size_alloc] at hb1 hz
    go_wp2_with fail
    refine bodyPost_ret (refBehind_any_results (y := .int .i64 6) rfl rfl (hr1.set_ 0 _)) rfl ?_
    exact ⟨_, [], by rw [HE.out], by rw [HS.out]; exact sep_nil _, by simp, by simp, (hw1.trans (hb1.mono (by omega))).setCell (by simp) _⟩
end Go.Proofs.Ytbifnkjfjndjjaa
