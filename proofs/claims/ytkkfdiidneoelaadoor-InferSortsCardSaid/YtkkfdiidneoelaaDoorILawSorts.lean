/-
  InferSorts: for every list of symbols and of loose functions that can be read, Sorts answers as the reference does, and the examples come out.
-/
import Derived.Test.YtkkfdiidneoelaaDoorGY
import Derived.Test.YtkkfdiidneoelaaDoorGU
import Derived.Test.YtkkfdiidneoelaaDoorIRSoW
import Derived.Deep.RegionHeld3
namespace Go.Proofs.YtkkfdiidneoelaaDoor
open Go.RowKit

theorem list_len {w : World} {lo hi : Nat} {l : List S} {u : Value} (h : (S.mk l).In w lo hi u) : ∃ A c, u = .slice A l.length c ∧ S.All w lo hi A 0 l := by
  simp only [S.In] at h
  obtain ⟨A, n, c, h1, h2, _, _, h5⟩ := h
  exact ⟨A, c, by rw [h1, h2], h5⟩
set_option maxHeartbeats 1600000 in
theorem sameI_any (a : List S) (hok : ∀ s ∈ a, s.ok = true) (u v : Value) (w : World) (hi : Nat) (hu : (S.mk a).In w 0 hi u) (hv : (S.mk a).In w 0 hi v) (hhi : hi ≤ w.heap.size) (hlen : a.length ≤ 1000) :
    Calls Tryd.prog 14 #[u, v] w fun e w' => e = .returned (.bool true) ∧ Below w.heap.size w w' := by
  obtain ⟨A1, c1, rfl, g1⟩ := list_len hu
  obtain ⟨A2, c2, rfl, g2⟩ := list_len hv
  have HOK := Lib.hid hok
  have HG := Lib.hid (⟨g1, g2⟩ : S.All w 0 hi A1 0 a ∧ S.All w 0 hi A2 0 a)
  clear hu hv g1 g2 hok
  go_enter Tryd.func14, Tryd.ntmps14
  go_wp2_with fail
  go_loopw [13] (fun i wr => ∃ k : Nat, k ≤ a.length ∧ i = .int .i64 (k : Int) ∧ Below w.heap.size w wr) (fun i _ => a.length - (intOf i).toNat)
  case atStart => exact ⟨0, Nat.zero_le _, rfl, Below.refl _ _⟩
  case round =>
    obtain ⟨k, hk, rfl, hbel⟩ := hrel
    have hzr := hbel.size
    by_cases hlt : k < a.length
    · have hx : a[k]? = some a[k] := List.getElem?_eq_getElem hlt
      obtain ⟨ad1, u1, rfl, _, hb1, q1, i1⟩ := HG.out.1.at_ hx
      obtain ⟨ad2, u2, rfl, _, hb2, q2, i2⟩ := HG.out.2.at_ hx
      have ho := HOK.out _ (List.getElem_mem hlt)
      rw [Nat.zero_add] at q1 q2
      have r1 : wr.cell? (ad1.add k) = some u1 := (hbel.cell (by rw [block_of_add]; omega)).trans q1
      have r2 : wr.cell? (ad2.add k) = some u2 := (hbel.cell (by rw [block_of_add]; omega)).trans q2
      generalize a[k] = s at *
      have j1 := i1.below hbel hhi
      have j2 := i2.below hbel hhi
      obtain ⟨As, ns, cs, rfl⟩ := i1.form
      obtain ⟨At, nt, ct, rfl⟩ := i2.form
      have HC : Hid (∀ W, Below wr.heap.size wr W → Calls Tryd.prog 43 #[.agg #[.slice As ns cs], .agg #[.slice At nt ct]] W fun e w' => e = .returned (.bool true) ∧ Below W.heap.size W w') := Lib.hid fun W hW => by
        have h := refSame_any s s (.slice As ns cs) (.slice At nt ct) W 0 hi 0 hi (j1.below hW (by omega)) (by have := hW.size; omega) (j2.below hW (by omega)) (by have := hW.size; omega)
        have hc : s.count ≤ 60 := by
          simp only [S.ok, Bool.and_eq_true, decide_eq_true_eq] at ho
          exact ho.1.1
        have e : (decide (s.count ≤ 60) && (decide (s.count ≤ 60) && s.eqb s)) = true := by
          rw [(S.eqb_iff _ _).2 rfl]; simp [hc]
        rwa [e] at h
      have z1 : (ad1.add k).block < wr.heap.size := by rw [block_of_add]; omega
      have z2 : (ad2.add k).block < wr.heap.size := by rw [block_of_add]; omega
      have HS : Hid (∀ W, Below wr.heap.size wr W → W.cell? (ad1.add k) = some (.slice As ns cs) ∧ W.cell? (ad2.add k) = some (.slice At nt ct)) := Lib.hid fun W hW => ⟨(hW.cell z1).trans r1, (hW.cell z2).trans r2⟩
      have HB := Lib.hid hbel
      have hd : Below wr.heap.size wr wr.drew := (Below.refl _ _).drew
      have s0 := HS.out wr (Below.refl _ _)
      clear hx q1 q2 i1 i2 j1 j2 ho hbel r1 r2
      go_wp2_with fail
      go_region_held3 (fun W => W.cell? (ad1.add k) = some (.slice As ns cs) ∧ W.cell? (ad2.add k) = some (.slice At nt ct))
        (first | assumption | exact HS.out _ (by assumption) | go_keep)
        (first
         | (go_at_call 43; ((with_reducible refine (HC.out _ (by assumption)).mono ?_); rintro e wI ⟨rfl, bwI⟩)
            have hwI : Below wr.heap.size wr wI := hd.trans (bwI.mono hd.size)))
      all_goals
        have B5 : Hid (Below w.heap.size w wI) := Lib.hid (HB.out.trans (hwI.mono hzr))
        clear hwI
        go_wp2_with fail
        go_roundw
        case rel => exact ⟨k + 1, by omega, by go_num, B5.out⟩
        case measure => simp [intOf]; omega
    · have HB := Lib.hid hbel
      clear hbel
      go_wp2_with fail
      go_ret
      exact ⟨rfl, HB.out⟩
theorem Ans.oks {syms : List Sy} {l : List Lz} {E : Int} {lst : List S} (h : Ans syms l E lst) : (∀ s ∈ lst, s.ok = true) ∧ lst.length ≤ 1000 := by
  by_cases hE : E = 0
  · subst hE
    obtain ⟨h1, h2, _, _, _, _, h6⟩ := h.zero
    exact ⟨fun s hs => List.all_eq_true.1 h6 s hs, by omega⟩
  · rcases h with ⟨_, _, rfl⟩ | ⟨_, o, _, rfl, rfl⟩
    · exact ⟨fun s hs => by simp at hs, by simp⟩
    · rw [if_neg hE]
      exact ⟨fun s hs => by simp at hs, by simp⟩

set_option maxHeartbeats 3200000 in
set_option maxRecDepth 100000 in
theorem lawSortsI_any (syms : List Sy) (l : List Lz) (v0 v1 : Value) (w : World) (hi : Nat) (hsy : SyIn w (fun b => b < hi) syms v0) (hl : LzIn w hi l v1) (hhi : hi ≤ w.heap.size) (hfit : ∀ f ∈ l, f.body.fit ∧ fit64 f.params) :
    Calls Tryd.prog 4 #[v0, v1] w fun e w' => e = .returned (.bool true) ∧ Below w.heap.size w w' := by
  have HA := Lib.hid aliveI_any
  have HSY := Lib.hid hsy
  have HLZ := Lib.hid hl
  have HFIT := Lib.hid hfit
  obtain ⟨A0, n0, c0, rfl⟩ := hsy.form
  obtain ⟨A1, _, c1, us, rfl, rfl, _⟩ := hl
  by_cases h : l.length ≤ 1000
  · have HG := Lib.hid (given_any l _ w hi HLZ.out hhi (by omega))
    have g : ¬ (1000 : Int) < (l.length : Int) := by omega
    clear h hsy hfit
    go_enter Tryd.func4, Tryd.ntmps4
    go_wp2_with fail
    refine HG.out.mono ?_
    rintro e w1 ⟨v', rfl, hl1, hb1⟩
    obtain ⟨A', n', c', rfl⟩ := hl1.form
    have hz1 := hb1.size
    have B1 := Lib.hid hb1
    have HSO := Lib.hid (sortsI_any syms l _ _ w1 w1.heap.size ((HSY.out.below hb1 hhi).more (by omega)) hl1 (Nat.le_refl _) HFIT.out)
    clear hl1 hb1
    go_wp2_with fail
    refine HSO.out.mono ?_
    rintro e w2 ⟨E, lst, va, fpa, rfl, han, hsepa, _, hrnga, hb2⟩
    obtain ⟨Aa, na, ca, rfl⟩ := hsepa.form
    have hz2 := hb2.size
    have B2 := Lib.hid (B1.out.trans (hb2.mono hz1))
    have HRS := Lib.hid (refSorts_any syms l _ _ w2 hi (HSY.out.below B2.out hhi) (HLZ.out.below B2.out hhi) (by omega))
    have HSA := Lib.hid (⟨han, hsepa, hrnga⟩ : Ans syms l E lst ∧ (S.mk lst).Sep w2 (.slice Aa na ca) fpa ∧ ∀ b ∈ fpa, w1.heap.size ≤ b ∧ b < w2.heap.size)
    clear han hsepa hrnga hb2
    go_wp2_with fail
    refine HRS.out.mono ?_
    rintro e w3 ⟨F, lst2, vb, fpb, rfl, han2, hsepb, _, hrngb, hb3⟩
    obtain ⟨Ab, nb, cb, rfl⟩ := hsepb.form
    obtain ⟨rfl, rfl⟩ := HSA.out.1.one han2
    have hz3 := hb3.size
    have B3 := Lib.hid (B2.out.trans (hb3.mono B2.out.size))
    have hsepa3 := HSA.out.2.1.keep (w' := w3) _ fun b hb => hb3.block b (HSA.out.2.2 b hb).2
    have HSM := Lib.hid (sameI_any lst han2.oks.1 (.slice Aa na ca) (.slice Ab nb cb) w3 w3.heap.size (S.Sep.in_ _ hsepa3 (fun b hb => ⟨Nat.zero_le _, by have := (HSA.out.2.2 b hb).2; omega⟩)) (S.Sep.in_ _ hsepb (fun b hb => ⟨Nat.zero_le _, (hrngb b hb).2⟩)) (Nat.le_refl _) han2.oks.2)
    clear han2 hsepa3 hsepb hrngb hb3
    go_wp2_with fail
    refine HSM.out.mono ?_
    rintro e w4 ⟨rfl, hb4⟩
    have B4 := Lib.hid (B3.out.trans (hb4.mono B3.out.size))
    clear hb4
    go_wp2_with fail
    refine (HA.out _).mono ?_
    rintro e w5 ⟨rfl, hb5⟩
    have B5 := Lib.hid (B4.out.trans (hb5.mono B4.out.size))
    clear hb5
    go_wp2_with fail
    go_ret
    exact ⟨rfl, B5.out⟩
  · have g : (1000 : Int) < (l.length : Int) := by omega
    clear h hsy hfit
    go_enter Tryd.func4, Tryd.ntmps4
    go_wp2_with fail
    refine (HA.out _).mono ?_
    rintro e w1 ⟨rfl, hb1⟩
    have B1 := Lib.hid hb1
    clear hb1
    go_wp2_with fail
    go_ret
    exact ⟨rfl, B1.out⟩
end Go.Proofs.YtkkfdiidneoelaaDoor
