/-
  SchemeRound: each valid scheme is read back from its string unchanged, unless that is too long.
-/
import Derived.Test.YthgkgjbjiiedaaaGreatDoorSLawTexts
import Derived.Test.YthgkgjbjiiedaaaGreatDoorGK
import Derived.Test.YthgkgjbjiiedaaaGreatDoorSRefEq
namespace Go.Proofs.YthgkgjbjiiedaaaGreatDoor
open Go.RowKit

set_option maxHeartbeats 3200000 in
set_option maxRecDepth 100000 in
theorem lawRoundS_any (s : Sc) (v0 v1 : Value) (w : World) (hi : Nat) (hin : ScIn w hi s v0 v1) (hhi : hi ≤ w.heap.size) (hg : GV w) (h8 : 8 ≤ w.heap.size) :
    Calls Tryz.prog 9 #[.agg #[v0, v1]] w fun e w' => e = .returned (.bool true) ∧ Below w.heap.size w w' := by
  have k0 := ScG.start hin hhi hg h8
  obtain ⟨⟨A0, n0, c0, rfl⟩, ⟨A1, n1, c1, rfl⟩⟩ := hin.form
  obtain ⟨d0, d1⟩ := k0.two
  have HI := Lib.hid (refScIs_any s _ _ _ hi k0.k.i k0.lt.1)
  rw [sayOk_ok] at HI
  cases hok : s.ok with
  | false =>
    rw [hok] at HI
    clear hok
    go_enter Tryz.func9, Tryz.ntmps9
    go_wp2_with fail
    refine HI.out.mono ?_
    rintro e w1 ⟨rfl, b1⟩
    have k1 := k0.next b1
    have HA := Lib.hid (aliveS_any w1 k1.g k1.lt.2)
    go_wp2_with fail
    refine HA.out.mono ?_
    rintro e w2 ⟨rfl, b2⟩
    have k2 := k1.next b2
    go_wp2_with fail
    go_ret
    exact ⟨rfl, k2.k.bel⟩
  | true =>
    rw [hok] at HI
    have HP := Lib.hid (fun W (h : ScG s (.slice A0 n0 c0) (.slice A1 n1 c1) hi w.heap.size w W) => schemePut_any s _ _ W hi h.k.i h.lt.1)
    rcases s.putE_cases hok with ⟨p1, p2⟩ | ⟨p1, p2, p3, p4, p5⟩
    · rw [p1, p2] at HP
      clear hok p1 p2
      go_enter Tryz.func9, Tryz.ntmps9
      go_wp2_with fail
      refine HI.out.mono ?_
      rintro e w1 ⟨rfl, b1⟩
      have k1 := k0.next b1
      obtain ⟨e0, e1⟩ := k1.two
      have HP1 := Lib.hid (HP.out _ k1)
      clear HI HP d0 d1
      go_wp2_with fail
      refine HP1.out.mono ?_
      rintro e w2 ⟨rfl, b2⟩
      have k2 := k1.next b2
      have HA := Lib.hid (aliveS_any w2 k2.g k2.lt.2)
      clear HP1 e0 e1
      go_wp2_with fail
      refine HA.out.mono ?_
      rintro e w3 ⟨rfl, b3⟩
      have k3 := k2.next b3
      go_wp2_with fail
      go_ret
      exact ⟨rfl, k3.k.bel⟩
    · rw [p1, p2] at HP
      have HSS : Hid (s.same s = true) := Lib.hid (by simp [Sc.same, hok, Sc.eqb_same])
      have HG := Lib.hid (fun W (h : ScG s (.slice A0 n0 c0) (.slice A1 n1 c1) hi w.heap.size w W) => schGet_any s.text W h.g h.lt.2 (by omega))
      unfold GetSPost at HG
      rw [p4, p5] at HG
      have HS2 := Lib.hid (fun a b c d W h h1 h2 h3 => refScSame_any s s a b c d W h h1 h2 h3)
      rw [HSS.out] at HS2
      have hln : ((s.text.length : Int) ≤ 65536) := by omega
      have hsz : (⟨s.text.toArray⟩ : ByteArray).size = s.text.length := rfl
      generalize s.text = t at *
      clear hok p1 p2 p4 p5
      go_enter Tryz.func9, Tryz.ntmps9
      go_wp2_with fail
      refine HI.out.mono ?_
      rintro e w1 ⟨rfl, b1⟩
      have k1 := k0.next b1
      obtain ⟨e0, e1⟩ := k1.two
      have HP1 := Lib.hid (HP.out _ k1)
      clear HI HP d0 d1
      go_wp2_with fail
      refine HP1.out.mono ?_
      rintro e w2 ⟨rfl, b2⟩
      have k2 := k1.next b2
      have HG2 := Lib.hid (HG.out _ k2)
      clear HP1 e0 e1 HG
      go_wp2_with fail
      refine HG2.out.mono ?_
      rintro e w3 ⟨A2, n2, c2, A3, n3, c3, rfl, m3, s3⟩
      have b3 : Below w2.heap.size w2 w3 := s3.below (Nat.le_refl _) (fun _ _ h => h)
      have k3 := k2.next b3
      have b4 : Below w3.heap.size w3 (w3.alloc (.cells #[.slice A2 n2 c2, .slice A3 n3 c3] 25)) := (Below.refl _ _).alloc (Nat.le_refl _) _
      have k4 := k3.next b4
      have hin4 := m3.in_.below b4 (Nat.le_refl _)
      have hb4 := Blk.new w3 25 #[.slice A2 n2 c2, .slice A3 n3 c3]
      have f0 := hb4.cell 0
      have f1 := hb4.cell 1
      simp at f0 f1
      obtain ⟨g0, g1⟩ := k4.two
      have hz3 := k3.lt
      have HS4 := Lib.hid (HS2.out _ _ _ _ _ w3.heap.size hin4 (k4.k.i.more hz3.1) (by simp))
      clear HG2 m3 s3 hin4 HS2 hb4
      go_wp2_with fail
      refine HS4.out.mono ?_
      rintro e w5 ⟨rfl, b5⟩
      have k5 := k4.next b5
      have HA := Lib.hid (aliveS_any w5 k5.g k5.lt.2)
      clear HS4 f0 f1 g0 g1
      go_wp2_with fail
      refine HA.out.mono ?_
      rintro e w6 ⟨rfl, b6⟩
      have k6 := k5.next b6
      go_wp2_with fail
      go_ret
      exact ⟨rfl, k6.k.bel⟩
end Go.Proofs.YthgkgjbjiiedaaaGreatDoor
