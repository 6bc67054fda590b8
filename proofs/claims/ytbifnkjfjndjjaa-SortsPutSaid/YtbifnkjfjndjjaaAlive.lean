/-
  The statements' example and the check that the chapter's example comes out.
-/
import Derived.Test.YtbifnkjfjndjjaaPut
import Derived.Test.YtbifnkjfjndjjaaBehindR
import Derived.Test.YtbifnkjfjndjjaaOrd
namespace Go.Proofs.Ytbifnkjfjndjjaa
open Go.RowKit

/-- The sort of the chapter's example. -/
def exS : S := .mk [.mk [.mk []], .mk []]

theorem example_results {tmps : Array Value} {w : World} {a : Nat} {x : Value} (h2 : tmps.getD 0 undef = .pointer (some ⟨a, 0, none⟩))
    (ha : Blk w a 24 #[x]) : (results Try.f38 tmps).run Try.prog w = .ok (.agg #[x]) w := by
  have h4 := ha.cell 0
  simp at h4
  have h2' : tmps[0]?.getD undef = .pointer (some ⟨a, 0, none⟩) := by simpa using h2
  simp [results, Try.results38, go_sem, h2', h4]

set_option maxHeartbeats 800000 in
theorem example_any (w : World) :
    Calls Try.prog 38 #[] w fun e w' => ∃ v, e = .returned (.agg #[v]) ∧ exS.In w' w.heap.size w'.heap.size v ∧ Below w.heap.size w w' := by
  go_enter Try.func38, Try.ntmps38
  go_wp2_with fail
  refine bodyPost_ret (example_results rfl ((((Blk.new _ _ _).alloc _).alloc _).alloc _)) rfl ⟨_, rfl, ?_, (((((Below.refl _ _).alloc (Nat.le_refl _) _).alloc (by simp) _).alloc (by simp; omega) _).alloc (by simp; omega) _)⟩
  have hb2 : ∀ o1 o2 : Obj, Blk ((((w.alloc o1).alloc o2).alloc (.cells #[.slice none 0 0] 24)).alloc (.cells #[.slice (some ⟨w.heap.size + 1 + 1, 0, none⟩) 1 1, .slice none 0 0] 24)) (w.heap.size + 1 + 1) 24 #[.slice none 0 0] := by
    intro o1 o2
    have := Blk.new ((w.alloc o1).alloc o2) 24 #[.slice none 0 0]
    simp only [World.size_alloc] at this
    exact this.alloc _
  have hb3 : ∀ o1 o2 o3 : Obj, Blk ((((w.alloc o1).alloc o2).alloc o3).alloc (.cells #[.slice (some ⟨w.heap.size + 1 + 1, 0, none⟩) 1 1, .slice none 0 0] 24)) (w.heap.size + 1 + 1 + 1) 24 #[.slice (some ⟨w.heap.size + 1 + 1, 0, none⟩) 1 1, .slice none 0 0] := by
    intro o1 o2 o3
    have := Blk.new (((w.alloc o1).alloc o2).alloc o3) 24 #[.slice (some ⟨w.heap.size + 1 + 1, 0, none⟩) 1 1, .slice none 0 0]
    simpa only [World.size_alloc] using this
  have c20 := (hb2 (.cells #[.slice (some ⟨w.heap.size + 1 + 1 + 1, 0, none⟩) 2 2] 24) (.cells #[.slice none 0 0] 24)).cell 0
  have c30 := (hb3 (.cells #[.slice (some ⟨w.heap.size + 1 + 1 + 1, 0, none⟩) 2 2] 24) (.cells #[.slice none 0 0] 24) (.cells #[.slice none 0 0] 24)).cell 0
  have c31 := (hb3 (.cells #[.slice (some ⟨w.heap.size + 1 + 1 + 1, 0, none⟩) 2 2] 24) (.cells #[.slice none 0 0] 24) (.cells #[.slice none 0 0] 24)).cell 1
  simp only [exS, S.In, S.All]
  refine ⟨_, _, _, rfl, rfl, by omega, by omega, ⟨_, _, rfl, by simp; omega, by simp, c30, _, _, _, rfl, rfl, by omega, by omega, ⟨_, _, rfl, by simp; omega, by simp, c20, _, _, _, rfl, rfl, by omega, by omega, trivial⟩, trivial⟩, ⟨_, _, rfl, by simp; omega, by simp, c31, _, _, _, rfl, rfl, by omega, by omega, trivial⟩, trivial⟩

set_option maxHeartbeats 1600000 in
set_option maxRecDepth 100000 in
theorem alive_any (w : World) : Calls Try.prog 17 #[] w fun e w' => e = .returned (.bool true) ∧ Below w.heap.size w w' := by
  have hP : exS.puts = [40, 111, 32, 62, 32, 111, 41, 32, 62, 32, 111, 32, 62, 32, 111] := by decide +kernel
  have hK : exS.ok = true := by decide +kernel
  have hO : exS.orders = (2, 0) := by decide +kernel
  have hZ : exS.sizes = (4, 3) := by decide +kernel
  have hBE : exS.behindE 1 = 0 := by decide +kernel
  have hBS : exS.behindS 1 = .mk [.mk []] := by rw [S.behindS, if_pos hBE]; rfl
  have hPB : (exS.behindS 1).puts = [111, 32, 62, 32, 111] := by rw [hBS]; decide +kernel
  have hKB : (exS.behindS 1).ok = true := by rw [hBS]; decide +kernel
  have HEx := Lib.hid example_any
  have HPut := Lib.hid (fun v w lo hi => put_any exS v w lo hi)
  have HOrd := Lib.hid (fun v w lo hi => Order_any exS v w lo hi)
  have HSize := Lib.hid (fun v w lo hi => size_any exS v w lo hi)
  have HBeh := Lib.hid (fun v w lo hi => behind_any exS v 1 w lo hi)
  have HPut2 := Lib.hid (fun v w lo hi => put_any (exS.behindS 1) v w lo hi)
  unfold Behinds at HBeh
  rw [hP, hK] at HPut
  rw [hO] at HOrd
  rw [hZ] at HSize
  rw [hBE] at HBeh
  rw [hPB, hKB] at HPut2
  clear hP hK hO hZ hBE hBS hPB hKB
  go_enter Try.func17, Try.ntmps17
  go_wp2_with fail
  refine (HEx.out _).mono ?_
  rintro e w1 ⟨v1, rfl, i1, b1⟩
  have z1 := b1.size
  go_wp2_with fail
  refine (HPut.out _ _ _ _ i1 (Nat.le_refl _)).mono ?_
  rintro e w2 ⟨rfl, b2⟩
  have z2 := b2.size
  simp only [errOf, if_true]
  go_wp2_with fail
  refine (HEx.out _).mono ?_
  rintro e w3 ⟨v3, rfl, i3, b3⟩
  have z3 := b3.size
  go_wp2_with fail
  refine (HOrd.out _ _ _ _ i3 (Nat.le_refl _)).mono ?_
  rintro e w4 ⟨rfl, b4⟩
  have z4 := b4.size
  go_wp2_with fail
  refine (HEx.out _).mono ?_
  rintro e w5 ⟨v5, rfl, i5, b5⟩
  have z5 := b5.size
  go_wp2_with fail
  refine (HSize.out _ _ _ _ i5 (Nat.le_refl _)).mono ?_
  rintro e w6 ⟨rfl, b6⟩
  have z6 := b6.size
  go_wp2_with fail
  refine (HEx.out _).mono ?_
  rintro e w7 ⟨v7, rfl, i7, b7⟩
  have z7 := b7.size
  go_wp2_with fail
  refine (HBeh.out _ _ _ _ i7 (Nat.le_refl _)).mono ?_
  rintro e w8 ⟨v8, fp, rfl, s8, _, r8, b8⟩
  have z8 := b8.size
  obtain ⟨A8, n8, c8, rfl⟩ := s8.form
  have i8 := s8.in_ _ r8
  have hw9 : Below w8.heap.size w8 (w8.alloc (.cells #[.slice A8 n8 c8] 24)) := (Below.refl _ _).alloc (Nat.le_refl _) _
  have i9 := i8.below hw9 (Nat.le_refl _)
  have HL := Lib.hid (HPut2.out _ _ _ _ i9 (by simp))
  simp only [errOf, if_true] at HL
  go_wp2_with fail
  refine HL.out.mono ?_
  rintro e w10 ⟨rfl, b10⟩
  go_wp2_with fail
  go_ret
  refine ⟨rfl, ?_⟩
  exact (((((((((b1.trans (b2.mono (by omega))).trans (b3.mono (by omega))).trans (b4.mono (by omega))).trans (b5.mono (by omega))).trans (b6.mono (by omega))).trans (b7.mono (by omega))).trans (b8.mono (by omega))).trans (hw9.mono (by omega))).trans (b10.mono (by simp; omega)))
end Go.Proofs.Ytbifnkjfjndjjaa
