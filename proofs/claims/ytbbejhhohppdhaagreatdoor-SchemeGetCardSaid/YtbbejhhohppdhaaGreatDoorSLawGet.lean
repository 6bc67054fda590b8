/-
  SchemeGet: scheme.Get and the reference's Get answer alike, and the example comes out.
-/
import Derived.Test.YtbbejhhohppdhaaGreatDoorSRefGets
import Derived.Test.YtbbejhhohppdhaaGreatDoorSGetSame
import Derived.Test.YtbbejhhohppdhaaGreatDoorGW
import Derived.Test.YtbbejhhohppdhaaGreatDoorGJ
namespace Go.Proofs.YtbbejhhohppdhaaGreatDoor
open Go.RowKit

theorem SyIn.len' {w : World} {P : Nat → Prop} {l : List Sy} {A : Option Addr} {n c : Nat} (h : SyIn w P l (.slice A n c)) : l.length = n := by
  obtain ⟨_, _, _, h1, h2, _⟩ := h
  injection h1 with _ h3 _
  omega
theorem FnIn.len' {w : World} {hi : Nat} {l : List Fn} {A : Option Addr} {n c : Nat} (h : FnIn w hi l (.slice A n c)) : l.length = n := by
  obtain ⟨_, _, _, _, h1, h2, _⟩ := h
  injection h1 with _ h3 _
  omega
theorem getS3_ok {t : List UInt8} (h : getE3 t = 0) : (getS3 t).sayOk = true := by
  have h0 := h
  rw [getE3] at h
  split at h
  · cases h
  · split at h
    · cases h
    · rename_i s hs
      rw [getS3, if_pos h0, hs]
      split at h
      · assumption
      · cases h
theorem getS3_no {t : List UInt8} (h : getE3 t ≠ 0) : getS3 t = ⟨[], []⟩ := by rw [getS3, if_neg h]

set_option maxRecDepth 100000 in
set_option maxHeartbeats 1600000 in
theorem isS_yes (s : Sc) (hok : s.sayOk = true) (v0 v1 u0 u1 : Value) (w : World) (hi : Nat) (ha : ScIn w hi s v0 v1) (hb : ScIn w hi s u0 u1) (hhi : hi ≤ w.heap.size) :
    Calls Tryz.prog 14 #[.agg #[v0, v1], .int .i64 0, .agg #[u0, u1], .int .i64 0] w fun e w' => e = .returned (.bool true) ∧ Below w.heap.size w w' := by
  obtain ⟨⟨A0, n0, c0, rfl⟩, ⟨A1, n1, c1, rfl⟩⟩ := ha.form
  obtain ⟨⟨B0, m0, d0, rfl⟩, ⟨B1, m1, d1, rfl⟩⟩ := hb.form
  have hbel := ((Below.refl w.heap.size w).alloc (Nat.le_refl _) (.cells #[.slice A0 n0 c0, .slice A1 n1 c1] 25)).alloc (by simp) (.cells #[.slice B0 m0 d0, .slice B1 m1 d1] 25)
  have hA : Blk ((w.alloc (.cells #[.slice A0 n0 c0, .slice A1 n1 c1] 25)).alloc (.cells #[.slice B0 m0 d0, .slice B1 m1 d1] 25)) w.heap.size 25 #[.slice A0 n0 c0, .slice A1 n1 c1] := (Blk.new _ _ _).alloc _
  have hB : Blk ((w.alloc (.cells #[.slice A0 n0 c0, .slice A1 n1 c1] 25)).alloc (.cells #[.slice B0 m0 d0, .slice B1 m1 d1] 25)) (w.heap.size + 1) 25 #[.slice B0 m0 d0, .slice B1 m1 d1] := by
    have := Blk.new (w.alloc (.cells #[.slice A0 n0 c0, .slice A1 n1 c1] 25)) 25 #[.slice B0 m0 d0, .slice B1 m1 d1]
    simpa using this
  have x0 := hA.cell 0
  have x1 := hA.cell 1
  have y0 := hB.cell 0
  have y1 := hB.cell 1
  simp at x0 x1 y0 y1
  have HS := Lib.hid (refScSame_any s s _ _ _ _ _ hi (ha.below hbel hhi) (hb.below hbel hhi) (Nat.le_trans hhi hbel.size))
  have hss : s.same s = true := by
    rw [sayOk_ok] at hok
    simp only [Sc.same, hok, Bool.true_and]
    exact Sc.eqb_same s
  rw [hss] at HS
  have HBL := Lib.hid hbel
  clear hss hA hB ha hb hbel
  go_enter Tryz.func14, Tryz.ntmps14
  go_wp2_with fail
  refine HS.out.mono ?_
  rintro e w1 ⟨rfl, b1⟩
  go_wp2_with fail
  go_ret
  exact ⟨rfl, HBL.out.trans (b1.mono HBL.out.size)⟩
set_option maxRecDepth 100000 in
set_option maxHeartbeats 1600000 in
theorem isS_no (E : Int) (hE : E ≠ 0) (A0 A1 : Option Addr) (c0 c1 : Nat) (B0 B1 : Option Addr) (m0 m1 d0 d1 : Nat) (w : World) :
    Calls Tryz.prog 14 #[.agg #[.slice A0 0 c0, .slice A1 0 c1], .int .i64 E, .agg #[.slice B0 m0 d0, .slice B1 m1 d1], .int .i64 E] w fun e w' => e = .returned (.bool true) ∧ Below w.heap.size w w' := by
  have hbel := ((Below.refl w.heap.size w).alloc (Nat.le_refl _) (.cells #[.slice A0 0 c0, .slice A1 0 c1] 25)).alloc (by simp) (.cells #[.slice B0 m0 d0, .slice B1 m1 d1] 25)
  have hA : Blk ((w.alloc (.cells #[.slice A0 0 c0, .slice A1 0 c1] 25)).alloc (.cells #[.slice B0 m0 d0, .slice B1 m1 d1] 25)) w.heap.size 25 #[.slice A0 0 c0, .slice A1 0 c1] := (Blk.new _ _ _).alloc _
  have x0 := hA.cell 0
  have x1 := hA.cell 1
  simp at x0 x1
  have hEb : (E == 0) = false := by simpa using hE
  have hEn : (E != 0) = true := by simpa using hE
  have HBL := Lib.hid hbel
  clear hA hE hbel
  go_enter Tryz.func14, Tryz.ntmps14
  go_wp2_with fail
  go_ret
  exact ⟨rfl, HBL.out⟩

set_option maxHeartbeats 1600000 in
set_option maxRecDepth 100000 in
theorem lawGetS_any (x : ByteArray) (w : World) (hx : x.size ≤ maxLen) (hg : GV w) (h8 : 8 ≤ w.heap.size) :
    Calls Tryz.prog 3 #[.string x] w fun e w' => e = .returned (.bool true) ∧ Below w.heap.size w w' := by
  obtain ⟨t, rfl⟩ : ∃ t : List UInt8, x = ⟨t.toArray⟩ := ⟨x.data.toList, by cases x; simp⟩
  have HG := Lib.hid (schGet_any t w hg h8 (by exact hx))
  have HR := Lib.hid (fun W => refGet3_any t W (by exact hx))
  obtain ⟨h1, h2⟩ := get_same t
  unfold GetSPost at HG
  rw [h1, h2] at HG
  unfold GetPost3 at HR
  clear h1 h2
  have HIS : Hid (∀ (A0 : Option Addr) (n0 c0 : Nat) (A1 : Option Addr) (n1 c1 : Nat) (u0 u1 : Value) (W : World), ScIn W W.heap.size (getS3 t) (.slice A0 n0 c0) (.slice A1 n1 c1) → ScIn W W.heap.size (getS3 t) u0 u1 → Calls Tryz.prog 14 #[.agg #[.slice A0 n0 c0, .slice A1 n1 c1], .int .i64 (getE3 t), .agg #[u0, u1], .int .i64 (getE3 t)] W fun e w' => e = .returned (.bool true) ∧ Below W.heap.size W w') := Lib.hid (by
    intro A0 n0 c0 A1 n1 c1 u0 u1 W ha hb
    by_cases hE : getE3 t = 0
    · rw [hE]
      exact isS_yes _ (getS3_ok hE) _ _ _ _ W _ ha hb (Nat.le_refl _)
    · have hS := getS3_no hE
      rw [hS] at ha hb
      have hn0 : n0 = 0 := by have := ha.sy.len'; simpa using this.symm
      have hn1 : n1 = 0 := by have := ha.fn.len'; simpa using this.symm
      subst hn0 hn1
      obtain ⟨⟨B0, m0, d0, rfl⟩, ⟨B1, m1, d1, rfl⟩⟩ := hb.form
      exact isS_no _ hE _ _ _ _ _ _ _ _ _ _ W)
  generalize getE3 t = E at *
  generalize getS3 t = s at *
  go_enter Tryz.func3, Tryz.ntmps3
  go_wp2_with fail
  refine HG.out.mono ?_
  rintro e w1 ⟨A0, n0, c0, A1, n1, c1, rfl, m1, s1⟩
  have b1 : Below w.heap.size w w1 := s1.below (Nat.le_refl _) (fun _ _ h => h)
  have hi1 := m1.in_
  have HX := Lib.hid (Blk.new w1 25 #[.slice A0 n0 c0, .slice A1 n1 c1])
  have bA := (Below.refl w1.heap.size w1).alloc (Nat.le_refl _) (.cells #[.slice A0 n0 c0, .slice A1 n1 c1] 25)
  have HI1 := Lib.hid (hi1.below bA (Nat.le_refl _))
  have HB1 := Lib.hid (b1.trans (bA.mono b1.size))
  have z1 := b1.size
  clear HG m1 s1 hi1
  go_wp2_with fail
  refine (HR.out _).mono ?_
  rintro e w2 ⟨u0, u1, rfl, hs2, hb2⟩
  obtain ⟨⟨B0, m0, d0, rfl⟩, ⟨B1, m1, d1, rfl⟩⟩ := hs2.form
  have z2 := hb2.size
  simp only [World.size_alloc] at z2
  have hX2 := HX.out.below hb2 (by simp)
  have bB := (Below.refl w2.heap.size w2).alloc (Nat.le_refl _) (.cells #[.slice B0 m0 d0, .slice B1 m1 d1] 25)
  have hX3 := hX2.alloc (.cells #[.slice B0 m0 d0, .slice B1 m1 d1] 25)
  have hY3 := Blk.new w2 25 #[.slice B0 m0 d0, .slice B1 m1 d1]
  have x0 := hX3.cell 0
  have x1 := hX3.cell 1
  have y0 := hY3.cell 0
  have y1 := hY3.cell 1
  simp at x0 x1 y0 y1
  have hs3 := ((hs2.below bB (Nat.le_refl _)).more bB.size)
  have hs1 := (((HI1.out.more (by simp : w1.heap.size ≤ (w1.alloc (.cells #[.slice A0 n0 c0, .slice A1 n1 c1] 25)).heap.size)).below hb2 (Nat.le_refl _)).more hb2.size).below bB (Nat.le_refl _) |>.more bB.size
  have HC := Lib.hid (HIS.out A0 n0 c0 A1 n1 c1 (.slice B0 m0 d0) (.slice B1 m1 d1) _ hs1 hs3)
  have HB3 := Lib.hid ((HB1.out.trans (hb2.mono (by simp; omega))).trans (bB.mono (by omega)))
  clear hX2 hX3 hY3 hs1 hs2 hs3 HIS
  go_wp2_with fail
  refine HC.out.mono ?_
  rintro e w4 ⟨rfl, hb4⟩
  have hb5 := HB3.out.trans (hb4.mono HB3.out.size)
  have HA := Lib.hid (aliveS_any w4 (hg.below hb5 h8) (Nat.le_trans h8 hb5.size))
  have HB5 := Lib.hid hb5
  clear hb5
  go_wp2_with fail
  refine HA.out.mono ?_
  rintro e w6 ⟨rfl, hb6⟩
  go_wp2_with fail
  go_ret
  exact ⟨rfl, HB5.out.trans (hb6.mono HB5.out.size)⟩
end Go.Proofs.YtbbejhhohppdhaaGreatDoor
