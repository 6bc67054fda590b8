/-
  SchemeTexts: what Get reads is written by Put as the string stood, and the example comes out.
-/
import Derived.Test.YthgkgjbjiiedaaaGreatDoorSLawCheck
import Derived.Test.YthgkgjbjiiedaaaGreatDoorGK
namespace Go.Proofs.YthgkgjbjiiedaaaGreatDoor
open Go.RowKit

theorem SyIn.len {w : World} {P : Nat → Prop} {l : List Sy} {A : Option Addr} {n c : Nat} (h : SyIn w P l (.slice A n c)) : l.length = n := by
  obtain ⟨_, _, _, h1, h2, _⟩ := h
  injection h1 with _ h3 _
  omega
theorem FnIn.len {w : World} {hi : Nat} {l : List Fn} {A : Option Addr} {n c : Nat} (h : FnIn w hi l (.slice A n c)) : l.length = n := by
  obtain ⟨_, _, _, _, h1, h2, _⟩ := h
  injection h1 with _ h3 _
  omega

set_option maxHeartbeats 1600000 in
set_option maxRecDepth 100000 in
theorem lawTextsS_any (x : ByteArray) (w : World) (hx : x.size ≤ maxLen) (hg : GV w) (h8 : 8 ≤ w.heap.size) :
    Calls Tryz.prog 10 #[.string x] w fun e w' => e = .returned (.bool true) ∧ Below w.heap.size w w' := by
  obtain ⟨t, rfl⟩ : ∃ t : List UInt8, x = ⟨t.toArray⟩ := ⟨x.data.toList, by cases x; simp⟩
  have HG := Lib.hid (schGet_any t w hg h8 (by exact hx))
  by_cases hE : getSE t = 0
  · obtain ⟨p1, p2⟩ := getSS_puts hE
    have HP := Lib.hid (fun v0 v1 W hi h hh => schemePut_any (getSS t) v0 v1 W hi h hh)
    rw [p1, p2] at HP
    unfold GetSPost at HG
    rw [hE] at HG
    generalize getSS t = s at *
    clear hE p1 p2
    go_enter Tryz.func10, Tryz.ntmps10
    go_wp2_with fail
    refine HG.out.mono ?_
    rintro e w1 ⟨A0, n0, c0, A1, n1, c1, rfl, m1, s1⟩
    have b1 : Below w.heap.size w w1 := s1.below (Nat.le_refl _) (fun _ _ h => h)
    have k1 := ScG.start m1.in_ (Nat.le_refl _) (hg.below b1 h8) (Nat.le_trans h8 b1.size)
    obtain ⟨d0, d1⟩ := k1.two
    have z1 := b1.size
    have HP1 := Lib.hid (HP.out _ _ _ _ k1.k.i k1.lt.1)
    clear HG m1 s1 HP
    go_wp2_with fail
    refine HP1.out.mono ?_
    rintro e w2 ⟨rfl, b2⟩
    have k2 := k1.next b2
    have HA := Lib.hid (aliveS_any w2 k2.g k2.lt.2)
    clear HP1 d0 d1
    go_wp2_with fail
    refine HA.out.mono ?_
    rintro e w3 ⟨rfl, b3⟩
    have k3 := k2.next b3
    go_wp2_with fail
    go_ret
    exact ⟨rfl, b1.trans (k3.k.bel.mono z1)⟩
  · have hS := getSS_no hE
    unfold GetSPost at HG
    rw [hS] at HG
    have hEb : (getSE t == 0) = false := by simpa using hE
    generalize getSE t = E at *
    clear hS hE
    go_enter Tryz.func10, Tryz.ntmps10
    go_wp2_with fail
    refine HG.out.mono ?_
    rintro e w1 ⟨A0, n0, c0, A1, n1, c1, rfl, m1, s1⟩
    have b1 : Below w.heap.size w w1 := s1.below (Nat.le_refl _) (fun _ _ h => h)
    have k1 := ScG.start m1.in_ (Nat.le_refl _) (hg.below b1 h8) (Nat.le_trans h8 b1.size)
    have hn0 : n0 = 0 := by have := m1.in_.sy.len; simpa using this.symm
    have hn1 : n1 = 0 := by have := m1.in_.fn.len; simpa using this.symm
    subst hn0 hn1
    obtain ⟨d0, d1⟩ := k1.two
    have z1 := b1.size
    have HA := Lib.hid (aliveS_any _ k1.g k1.lt.2)
    clear HG m1 s1
    go_wp2_with fail
    refine HA.out.mono ?_
    rintro e w3 ⟨rfl, b3⟩
    have k3 := k1.next b3
    go_wp2_with fail
    go_ret
    exact ⟨rfl, b1.trans (k3.k.bel.mono z1)⟩
end Go.Proofs.YthgkgjbjiiedaaaGreatDoor
