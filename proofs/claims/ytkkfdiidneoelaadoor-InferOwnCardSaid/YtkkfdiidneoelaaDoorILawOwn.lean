/-
  InferOwn: Sorts and Scheme change none of their arguments, and what Scheme returns shares no memory with them.
-/
import Derived.Test.YtkkfdiidneoelaaDoorIOwnP
import Derived.Deep.RegionLaw
import Derived.Deep.RegionHeld3
namespace Go.Proofs.YtkkfdiidneoelaaDoor
open Go.RowKit

theorem lz4_info : (Tryd.prog.info? 54).map (fun i => (i.zero, i.size, i.bytes)) = some (some (.agg #[.string ⟨#[]⟩, .int .i64 0, .int .i64 0, .int .i64 0, .slice none 0 0]), 5, 64) := by kernel_rfl
theorem namesI_append (w : World) (l : List Sy) (A : Option Addr) (n c : Nat) (P : Nat → Prop) (hn : l.length = n) (hrd : Rd w P A (syCells l)) (hl : l.length ≤ 1000) :
    ∃ v' w', (∀ ty, (Builtin.append_ #[22, 22] ty #[.slice (some ⟨w.heap.size, 0, none⟩) 0 0, .slice A n c]).run Tryd.prog (w.alloc (.cells #[] 57)) = .ok v' w') ∧ w'.ownsRow w.heap.size 57 2 v' l.length (syCells l) ∧ Below w.heap.size w w' ∧ (∃ A c, v' = .slice A n c) := by
  obtain ⟨i0, hi0, hz0, hz1, hz2⟩ := info_parts syI_info
  subst hn
  have hs := syI_length l
  have hown0 : (w.alloc (.cells #[] 57)).ownsRow w.heap.size 57 2 (.slice (some ⟨w.heap.size, 0, none⟩) 0 0) 0 [] := by simpa using World.ownsRow_made w #[] 0 (Nat.le_refl _) (Nat.zero_le _) (by simp) (e := 57) (size := 2)
  by_cases h0 : l = []
  · subst h0
    exact ⟨_, _, fun ty => run_append_nothing2 _ w.heap.size _ ty _ i0 2 Tryd.underlying22 hi0 _ 0 [] hown0 A 0 c rfl, by simpa [syCells] using hown0, (Below.refl _ _).alloc (Nat.le_refl _) _, ⟨_, _, rfl⟩⟩
  · have hpos : 0 < l.length := by
      cases l with
      | nil => exact absurd rfl h0
      | cons a r => simp
    rcases hrd with e | ⟨ad, rfl, hPad, hcell⟩
    · rw [e] at hs; simp at hs; omega
    · obtain ⟨g, cap, w', hrun, h2, h3, _, _⟩ := run_append_lies (P := Tryd.prog) (w.alloc (.cells #[] 57)) 22 22 w.heap.size 57 i0 _ 2 24 Tryd.underlying22 hi0 hz0 hz1 hz2 rfl (by omega) _ 0 [] hown0 ad l.length c (syCells l) hs (fun j u hj => Lib.cell?_alloc_some _ (hcell j u hj)) (syI_one l) hpos (by simp only [maxLen]; omega) (by omega) (by simp) _ rfl
      exact ⟨_, w', fun _ => (hrun :), by simpa using h2, ((Below.refl _ w).alloc (Nat.le_refl _) _).grown h3 (by simp) (by intro k hk; injection hk with hk; exact Nat.le_of_eq hk), ⟨_, _, by rw [Nat.zero_add]⟩⟩
theorem own_max {w : World} {B n : Nat} {v : Value} {t : TypeId} {k : Nat} {xs : List Value} (h : w.ownsRow B t k v n xs) : n ≤ 9223372036854775807 := by
  rcases h.2 with ⟨_, hz⟩ | ⟨g, cap, cur, e, _, _, h1, h2, _⟩
  · omega
  · have : cap ≤ 9223372036854775807 := by simpa [maxLen] using h2
    omega
theorem ones5 {n : ByteArray} {a b c : Int} {y : Value} (h : y.oneCell' = true) : ∀ u ∈ [Value.string n, .int .i64 a, .int .i64 b, .int .i64 c, y], u.oneCell' = true := by
  intro u hu
  simp only [List.mem_cons, List.not_mem_nil, or_false] at hu
  rcases hu with rfl | rfl | rfl | rfl | rfl
  · rfl
  · rfl
  · rfl
  · rfl
  · exact h
theorem check_small {syms : List Sy} {l : List Lz} (h : checkI syms l = 0) : l.length ≤ 64 ∧ syms.length ≤ 24 ∧ ∀ f ∈ l, f.body.count ≤ 400 := by
  unfold checkI at h
  by_cases g1 : symsB syms = true
  case neg => rw [if_neg g1] at h; cases h
  rw [if_pos g1] at h
  by_cases g2 : lzOk syms l = true
  case neg => rw [if_neg g2] at h; cases h
  simp only [lzOk, Bool.and_eq_true, decide_eq_true_eq, List.all_eq_true] at g2
  simp only [symsB, Bool.and_eq_true, decide_eq_true_eq] at g1
  refine ⟨g2.1, g1.1, fun f hf => ?_⟩
  have := g2.2.2.2 f hf
  simp only [Lz.fits, bodyIn, Bool.and_eq_true, decide_eq_true_eq] at this
  exact this.2.2.1

set_option maxHeartbeats 6400000 in
set_option maxRecDepth 100000 in
theorem lawOwnI_any (syms : List Sy) (l : List Lz) (v0 v1 : Value) (w : World) (hi : Nat) (hsy : SyIn w (fun b => b < hi) syms v0) (hl : LzIn w hi l v1) (hhi : hi ≤ w.heap.size) (hfit : ∀ f ∈ l, f.body.fit ∧ fit64 f.params) :
    Calls Tryd.prog 7 #[v0, v1] w fun e w' => e = .returned (.bool true) ∧ Below w.heap.size w w' := by
  obtain ⟨i0, hi0, hz0, hz1, hz2⟩ := info_parts lz4_info
  have HZ1 := Lib.hid hz1
  have HZ2 := Lib.hid hz2
  clear hz1 hz2
  have HA := Lib.hid aliveI_any
  have HC := Lib.hid (refCk_any syms l v0 v1 w hi hsy hl hhi)
  have HSY := Lib.hid hsy
  have HLZ := Lib.hid hl
  have HFIT := Lib.hid hfit
  obtain ⟨A0, n0, c0, rfl, hn0, hnc0, hc0, hrd0, hnm0⟩ := hsy
  obtain ⟨A, _, c, us0, rfl, rfl, hnc, hc, hrd, hrow⟩ := hl
  have HRD0 := Lib.hid hrd0
  have HRD := Lib.hid (⟨hrd, hrow⟩ : Rd w (fun b => b < hi) A us0 ∧ LzRow w hi l us0)
  have HN0 := Lib.hid hn0
  clear hrd0 hnm0 hrd hrow hn0 hfit
  by_cases h0 : checkI syms l = 0
  case neg =>
    have g : ((checkI syms l : Int) != 0) = true := by simpa using h0
    clear h0
    generalize checkI syms l = z at *
    go_enter Tryd.func7, Tryd.ntmps7
    go_wp2_with fail
    refine HC.out.mono ?_
    rintro e w1 ⟨rfl, hb1⟩
    have B1 := Lib.hid hb1
    clear hb1
    go_wp2_with fail
    refine (HA.out _).mono ?_
    rintro e w2 ⟨rfl, hb2⟩
    have B2 := Lib.hid (B1.out.trans (hb2.mono B1.out.size))
    clear hb2
    go_wp2_with fail
    go_ret
    exact ⟨rfl, B2.out⟩
  obtain ⟨h64, h24, h400⟩ := check_small h0
  have H400 := Lib.hid h400
  rw [h0] at HC
  clear h0 h400
  go_enter Tryd.func7, Tryd.ntmps7
  go_wp2_with fail
  refine HC.out.mono ?_
  rintro e w1 ⟨rfl, hb1⟩
  have hz1 := hb1.size
  have B1 := Lib.hid hb1
  clear hb1
  go_wp2_with fail
  go_loopw [5, 23] (fun v i wr => ∃ (k : Nat) (us : List Value), k ≤ l.length ∧ i = .int .i64 (k : Int) ∧ WasAt l w1.heap.size k v us wr ∧ Below w1.heap.size w1 wr) (fun _ i _ => l.length - (intOf i).toNat)
  case atStart => exact ⟨0, [], Nat.zero_le _, rfl, ⟨by simpa using World.ownsRow_nil _ _ _ _, by simp [LzMk]⟩, Below.refl _ _⟩
  case round =>
    obtain ⟨k, us, hk, rfl, hwas, hbel⟩ := hrel
    have hzr := hbel.size
    obtain ⟨Av, _, cv, _, rfl⟩ := own_formN hwas.own
    by_cases hlt : k < l.length
    · have hx : l[k]? = some l[k] := List.getElem?_eq_getElem hlt
      have hbe : Below w.heap.size w wr := B1.out.trans (hbel.mono hz1)
      obtain ⟨ad, bv, rfl, hPa, hel, hbv, hnm⟩ := lz_el HRD.out.1 HRD.out.2 hx
      obtain ⟨r0, r1, r2, r3, r4⟩ := hel.keep (hbe.block _ (by omega))
      have h4 := H400.out _ (List.getElem_mem hlt)
      have hkl : (l.take k).length = k := by rw [List.length_take]; omega
      generalize hxl : l[k] = x at *
      obtain ⟨Ab, nb, cb, rfl⟩ := hbv.form
      have hw1 : Below wr.heap.size wr (wr.alloc (.cells #[.string x.name, .int .i64 x.params, .int .i64 x.body.kind, .int .i64 x.body.num, .slice Ab nb cb] 54)) := (Below.refl _ _).alloc (Nat.le_refl _) _
      have hih := fun w' (h : Below (wr.heap.size + 1) (wr.alloc (.cells #[.string x.name, .int .i64 x.params, .int .i64 x.body.kind, .int .i64 x.body.num, .slice Ab nb cb] 54)) w') =>
        copyT_any x.body.count x.body (.slice Ab nb cb) w' (fun b => b < hi) (Nat.le_refl _) (by omega) (((hbv.below hbe (fun b hb => by omega)).below hw1 (fun b hb => by omega)).below h (fun b hb => by omega)) (fun b hb => by have := h.size; simp at this; omega)
      have hxB := Blk.new wr 54 #[.string x.name, .int .i64 x.params, .int .i64 x.body.kind, .int .i64 x.body.num, .slice Ab nb cb]
      have d0 := hxB.cell 0
      have d1 := hxB.cell 1
      have d2 := hxB.cell 2
      have d3 := hxB.cell 3
      have d4 := hxB.cell 4
      simp at d0 d1 d2 d3 d4
      have HIH := Lib.hid hih
      have HX := Lib.hid hx
      have HL := Lib.hid hkl
      have HW := Lib.hid hwas
      have HB := Lib.hid hbel
      have HXB := Lib.hid hxB
      have hone := fun (vv : Value) (h : ∃ A n c, vv = .slice A n c) => (by obtain ⟨_, _, _, rfl⟩ := h; rfl : vv.oneCell' = true)
      clear hih hx hel hbv hkl hwas hbel hxB hw1 hbe hxl hnm
      generalize hnn : (l.take k).length = nn at *
      have hnk : nn ≤ 64 := by have := HL.out; omega
      have HNN := Lib.hid hnn
      clear hnn
      go_wp2_with fail
      go_region_law
        (first
          | (refine step_append_lies _ (by rfl) _ _ _ (by rfl) w1.heap.size 54 i0 _ 5 64 Tryd.underlying23 hi0 hz0 HZ1.out HZ2.out rfl (by omega) (.slice Av nn cv) _ us (by rfl) (by exact (hown1.alloc _))
              ⟨w2.heap.size, 0, none⟩ 1 1 [.string x.name, .int .i64 x.params, .int .i64 x.body.kind, .int .i64 x.body.num, y1] (by rfl) (by rfl) (by exact World.news_of_block (cs := #[.string x.name, .int .i64 x.params, .int .i64 x.body.kind, .int .i64 x.body.num, y1]) (t := 54) (fr := (0, 0)) (heap_alloc_new w2 _)) (by exact ones5 hone2) (by omega) (by simp only [maxLen]; omega) (by omega) (by simp; omega) (w2.heap.size + 1) (by simp) ?_; intro gg cap w3 hown3 hgrow hat hlt3
             have HF : Hid (WasAt l w1.heap.size (k + 1) (.slice (some ⟨gg, 0, none⟩) (nn + 1) cap) (us ++ [.string x.name, .int .i64 x.params, .int .i64 x.body.kind, .int .i64 x.body.num, y1]) w3 ∧ Below w1.heap.size w1 w3) := by
               have hown3' := hown3
               rw [← HNN.out] at hown3'
               have hnx := HW.out.next HX.out hzr hm1' hbb2 hwz hown3' hgrow hat
               rw [HNN.out] at hnx
               exact Lib.hid ⟨hnx, ((((HB.out.alloc hzr _).drew.trans (hbb2.mono (by omega))).alloc (by omega) _).grown hgrow (by simp; omega) (fun b hb => (hown1.lt b hb).1))⟩
             clear hown3 hgrow hat hlt3)
          | (go_simp; go_at_call 21; refine (HIH.out _ (by exact (Below.refl _ _).drew)).mono ?_; rintro e w2 ⟨y1, us1, rfl, hm1, hb2⟩
             have hone2 : y1.oneCell' = true := by obtain ⟨A1, c1, rfl⟩ := hm1.form; rfl
             have hm1' : Mk (wr.heap.size + 1) w2 x.body.args y1 us1 := by simpa [World.drew] using hm1
             have hwz : wr.heap.size + 1 ≤ w2.heap.size := by have h : (wr.alloc (.cells #[.string x.name, .int .i64 x.params, .int .i64 x.body.kind, .int .i64 x.body.num, .slice Ab nb cb] 54)).heap.size ≤ w2.heap.size := hb2.size; simpa using h
             have hbb2 : Below (wr.heap.size + 1) (wr.alloc (.cells #[.string x.name, .int .i64 x.params, .int .i64 x.body.kind, .int .i64 x.body.num, .slice Ab nb cb] 54)).drew w2 := hb2.mono (by show _ ≤ (wr.alloc _).heap.size; simp)
             have hown1 : w2.ownsRow w1.heap.size 54 5 (.slice Av nn cv) nn us := by
               have h := HW.out.own
               rw [HNN.out] at h
               exact owns_kept3 ((h.alloc _).drew) (fun b hb => hbb2.block b (by have := (h.lt b hb).2; omega))
             have hxb1 := (HXB.out.drew).below hbb2 (by omega)
             have q0 := hxb1.cell 0
             have q1 := hxb1.cell 1
             have q2 := hxb1.cell 2
             have q3 := hxb1.cell 3
             have q4 := hxb1.cell 4
             simp at q0 q1 q2 q3 q4
             clear hxb1))
      all_goals
        go_wp2_with fail
        go_roundw
        case rel => exact ⟨k + 1, _, by omega, by go_num, HF.out.1, HF.out.2⟩
        case measure => simp [intOf]; omega
    · obtain rfl : k = l.length := by omega
      have hbe : Below w.heap.size w wr := B1.out.trans (hbel.mono hz1)
      obtain ⟨vn, w4, hrun, hownN, hb4, An, cn, rfl⟩ := namesI_append wr syms A0 n0 c0 _ HN0.out (HRD0.out.keep fun b hb => hbe.block b (by omega)) (by omega)
      have hbe4 : Below w.heap.size w w4 := hbe.trans (hb4.mono (by have := hbe.size; omega))
      have hz4 := hbe4.size
      have HG1 := Lib.hid (given_any l _ w4 hi (HLZ.out.below hbe4 hhi) (by omega) (by omega))
      have HW4 := Lib.hid (hwas.below hb4)
      have HNM := Lib.hid hownN
      have HB4 := Lib.hid hbe4
      have HB14 : Hid (w1.heap.size ≤ w4.heap.size) := Lib.hid (by have := hb4.size; omega)
      rw [List.take_length]
      clear hwas hbel hbe hownN hb4 hbe4
      go_wp2_with (at_builtin; refine Lib.wpList_append_run _ rfl _ _ _ _ rfl _ _ rfl rfl _ _ (hrun _) ?_)
      refine HG1.out.mono ?_
      rintro e w5 ⟨v5, rfl, hl5, hb5⟩
      have hz5 := hb5.size
      obtain ⟨A5, n5, c5, rfl⟩ := hl5.form
      have HB5 := Lib.hid (HB4.out.trans (hb5.mono hz4))
      have HSO := Lib.hid (sortsI_any syms l _ _ w5 w5.heap.size ((HSY.out.below HB5.out hhi).more (by omega)) hl5 (Nat.le_refl _) HFIT.out)
      have HW5 := Lib.hid (HW4.out.below hb5)
      have HNM5 := Lib.hid (owns_kept3 HNM.out fun b hb => hb5.block b (HNM.out.lt b hb).2)
      clear hrun hb5 hl5
      go_wp2_with fail
      refine HSO.out.mono ?_
      rintro e w6 ⟨E6, lst6, v6, fp6, rfl, _, _, _, _, hb6⟩
      have hz6 := hb6.size
      have HB6 := Lib.hid (HB5.out.trans (hb6.mono (by omega)))
      have HG2 := Lib.hid (given_any l _ w6 hi (HLZ.out.below HB6.out hhi) (by omega) (by omega))
      have HW6 := Lib.hid (HW5.out.below hb6)
      have HNM6 := Lib.hid (owns_kept3 HNM5.out fun b hb => hb6.block b (HNM5.out.lt b hb).2)
      clear hb6
      go_wp2_with fail
      refine HG2.out.mono ?_
      rintro e w7 ⟨v7, rfl, hl7, hb7⟩
      have hz7 := hb7.size
      obtain ⟨A7, n7, c7, rfl⟩ := hl7.form
      have HB7 := Lib.hid (HB6.out.trans (hb7.mono (by omega)))
      have HSC := Lib.hid (schemeI_any syms l _ _ w7 w7.heap.size ((HSY.out.below HB7.out hhi).more (by omega)) hl7 (Nat.le_refl _) HFIT.out)
      have HW7 := Lib.hid (HW6.out.below hb7)
      have HNM7 := Lib.hid (owns_kept3 HNM6.out fun b hb => hb7.block b (HNM6.out.lt b hb).2)
      clear hb7 hl7
      go_wp2_with fail
      refine HSC.out.mono ?_
      rintro e w8 ⟨E8, lst8, s0, s1, us8, rfl, _, hb8, hne8, heq8⟩
      have hz8 := hb8.size
      obtain ⟨fs, sy, P, hchg⟩ := SchIPost.chg hne8 heq8 hz8
      have hb9 : Below w7.heap.size w7 (w8.alloc (.cells #[s0, s1] 38)) := hb8.alloc hz8 _
      obtain ⟨A8, _, c8, _, rfl⟩ := own_formN hchg.osy
      obtain ⟨uf, hofn, hfe⟩ := hchg.ofn
      obtain ⟨A9, _, c9, _, rfl⟩ := own_formN hofn
      have hfm : fs.length ≤ 9223372036854775807 := own_max hofn
      have hsm : sy.length ≤ 9223372036854775807 := own_max hchg.osy
      have HCH := Lib.hid hchg
      have HB9 := Lib.hid hb9
      have c80 := hchg.box.cell 0
      have c81 := hchg.box.cell 1
      simp at c80 c81
      clear hb8 hne8 heq8 hchg hofn hfe hb9
      go_wp2_with fail
      generalize hW9 : w8.alloc (.cells #[.slice A8 sy.length c8, .slice A9 fs.length c9] 38) = W9 at *
      clear hW9
      go_loopw [56] (fun i wr2 => ∃ k2 : Nat, k2 ≤ fs.length ∧ i = .int .i64 (k2 : Int) ∧ Chg w7.heap.size w8.heap.size fs sy P (.slice A8 sy.length c8) (.slice A9 fs.length c9) wr2 ∧ Below w7.heap.size w7 wr2) (fun i _ => fs.length - (intOf i).toNat)
      case atStart => exact ⟨0, Nat.zero_le _, rfl, HCH.out, HB9.out⟩
      case round =>
        clear c80 c81
        obtain ⟨k2, hk2, rfl, hch, hbel2⟩ := hrel
        by_cases hlt2 : k2 < fs.length
        · have hx : fs[k2]? = some fs[k2] := List.getElem?_eq_getElem hlt2
          obtain ⟨uf2, hofn, hfe⟩ := hch.ofn
          obtain ⟨vb, hub, hein⟩ := hfe k2 _ hx
          obtain ⟨g9, rfl, hg9, hg9l⟩ := own_addr hofn (by omega)
          obtain ⟨At, ct, rfl, _, _⟩ := hein.form
          have q0 := (hofn.cellAt (k2 * 5 + 4) (by omega)).trans hub
          have q1 := hch.box.cell 1
          simp at q1
          simp only [T.args] at hein
          have HLT : Hid (k2 < fs.length) := Lib.hid hlt2
          have HT := Lib.hid (turnT_any P _ _ _ wr (Nat.le_refl _) hein)
          have HC2 := Lib.hid hch
          have HB2 := Lib.hid hbel2
          generalize fs[k2].body = bt at *
          obtain ⟨_, _, la⟩ := bt
          simp only [T.args] at q0
          clear hx hofn hfe hub hein hch hbel2
          go_wp2_with fail
          refine HT.out.mono ?_
          rintro e w10 ⟨rfl, hs10, hk10⟩
          have HF : Hid (Chg w7.heap.size w8.heap.size fs sy P (.slice A8 sy.length c8) (.slice (some ⟨g9, 0, none⟩) fs.length c9) w10 ∧ Below w7.heap.size w7 w10) :=
            Lib.hid ⟨HC2.out.turned hs10 hk10, HB2.out.trans (hs10.below HB2.out.size fun b hb hp => by have := (HC2.out.old b hp).1; omega)⟩
          clear hs10 hk10
          go_wp2_with fail
          go_roundw
          case rel => exact ⟨k2 + 1, HLT.out, by go_num, HF.out.1, HF.out.2⟩
          case measure => have := HLT.out; simp [intOf]; omega
        · have H3 : Hid (Chs w7.heap.size w8.heap.size sy.length (.slice A8 sy.length c8) (.slice A9 fs.length c9) wr) := Lib.hid ⟨hch.box, sy, rfl, hch.osy⟩
          have HB2 := Lib.hid hbel2
          have q0 := hch.box.cell 0
          simp at q0
          clear hch hbel2
          go_wp2_with fail
          go_loopw [71] (fun i wr => ∃ k3 : Nat, k3 ≤ sy.length ∧ i = .int .i64 (k3 : Int) ∧ Chs w7.heap.size w8.heap.size sy.length (.slice A8 sy.length c8) (.slice A9 fs.length c9) wr ∧ Below w7.heap.size w7 wr) (fun i _ => sy.length - (intOf i).toNat)
          case atStart => exact ⟨0, Nat.zero_le _, rfl, H3.out, HB2.out⟩
          case round =>
            clear q0
            obtain ⟨k3, hk3, rfl, hcs, hbel3⟩ := hrel
            by_cases hlt3 : k3 < sy.length
            · obtain ⟨sy2, hl2, ho2⟩ := hcs.osy
              have hx : sy2[k3]? = some (sy2[k3]'(by omega)) := List.getElem?_eq_getElem _
              obtain ⟨g8, rfl, hg8, hg8l⟩ := own_addr ho2 (by omega)
              have q0 := (ho2.cellAt (k3 * 2 + 1) (by omega)).trans (syCells_at hx).2
              have q1 := ho2.frozenAt (k3 * 2 + 1)
              have q2 := hcs.box.cell 0
              simp at q2
              have HLT : Hid (k3 < sy.length) := Lib.hid hlt3
              have HC3 := Lib.hid hcs
              have HB3 := Lib.hid hbel3
              generalize (sy2[k3]'(by omega)).rank = rk at *
              clear hx ho2 hcs hbel3
              go_wp2_with fail
              go_roundw
              case rel => exact ⟨k3 + 1, HLT.out, by go_num, HC3.out.store k3 HLT.out _, HB3.out.setCell hg8 _⟩
              case measure => have := HLT.out; simp [intOf]; omega
            · have HB3 := Lib.hid hbel3
              clear hcs hbel3
              go_wp2_with fail
              go_loopw [86] (fun i wr => ∃ k4 : Nat, k4 ≤ l.length ∧ i = .int .i64 (k4 : Int) ∧ Below w7.heap.size w7 wr) (fun i _ => l.length - (intOf i).toNat)
              case atStart => exact ⟨0, Nat.zero_le _, rfl, HB3.out⟩
              case round =>
                obtain ⟨k4, hk4, rfl, hbel4⟩ := hrel
                have hzr4 := hbel4.size
                have hbe : Below w.heap.size w wr := HB7.out.trans (hbel4.mono HB7.out.size)
                by_cases hlt4 : k4 < l.length
                · have hx : l[k4]? = some l[k4] := List.getElem?_eq_getElem hlt4
                  obtain ⟨ad, bv, rfl, hPa, hel, hbv, hnm⟩ := lz_el HRD.out.1 HRD.out.2 hx
                  obtain ⟨r0, r1, r2, r3, r4⟩ := hel.keep (hbe.block _ (by omega))
                  have h4 := H400.out _ (List.getElem_mem hlt4)
                  have hw7o := HW7.out.own
                  have hw7r := HW7.out.row
                  rw [List.take_length] at hw7o hw7r
                  obtain ⟨wv, g2, g3, g4, g5⟩ := hw7r.at_ hx
                  obtain ⟨ga, rfl, hga, hgal⟩ := own_addr hw7o (by omega)
                  have hk := fun j => hbel4.cell (p := ⟨ga, j, none⟩) hgal
                  have q2 := (hk _).trans ((hw7o.cellAt (k4 * 5 + 2) (by omega)).trans g2)
                  have q3 := (hk _).trans ((hw7o.cellAt (k4 * 5 + 3) (by omega)).trans g3)
                  have q4 := (hk _).trans ((hw7o.cellAt (k4 * 5 + 4) (by omega)).trans g4)
                  generalize hxl : l[k4] = x at *
                  obtain ⟨xn, xp, xb⟩ := x
                  simp only at r0 r1 r2 r3 q2 q3 hbv g5 h4
                  obtain ⟨Ab, nb, cb, rfl⟩ := hbv.form
                  have g6 := T.NIn.in_ _ g5
                  obtain ⟨Aw, nw, cw, rfl⟩ := g6.form
                  have HEQ : Hid (∀ W, Below wr.heap.size wr W → Calls Tryd.prog 23 #[.agg #[.int .i64 xb.kind, .int .i64 xb.num, .slice Ab nb cb], .agg #[.int .i64 xb.kind, .int .i64 xb.num, .slice Aw nw cw]] W fun e w' => e = .returned (.bool true) ∧ Below W.heap.size W w') := Lib.hid fun W hW => by
                    have h := refEqualT_any xb.count xb xb (.slice Ab nb cb) (.slice Aw nw cw) W (fun b => b < hi) (fun b => b < w7.heap.size) (Nat.le_refl _) ((hbv.below hbe (fun b hb => by omega)).below hW (fun b hb => by have := hbe.size; omega)) (fun b hb => by have := hW.size; have := hbe.size; omega)
                      (((g6.more (fun b hb => hb.2.1) _).below hbel4 (fun b hb => hb)).below hW (fun b hb => by omega)) (fun b hb => by have := hW.size; omega)
                    rwa [show xb.eqb xb = true from (T.eqb_iff _ _).2 rfl] at h
                  have hW0 : Below wr.heap.size wr (wr.alloc (.cells #[.string xn, .int .i64 xp, .int .i64 xb.kind, .int .i64 xb.num, .slice Ab nb cb] 54)) := (Below.refl _ _).alloc (Nat.le_refl _) _
                  have hwb := Blk.new wr 54 #[.string xn, .int .i64 xp, .int .i64 xb.kind, .int .i64 xb.num, .slice Ab nb cb]
                  have y2 := hwb.cell 2
                  have y3 := hwb.cell 3
                  have y4 := hwb.cell 4
                  simp at y2 y3 y4
                  have z2 := (hW0.cell (p := ⟨ga, k4 * 5 + 2, none⟩) (by show ga < _; omega)).trans q2
                  have z3 := (hW0.cell (p := ⟨ga, k4 * 5 + 3, none⟩) (by show ga < _; omega)).trans q3
                  have z4 := (hW0.cell (p := ⟨ga, k4 * 5 + 4, none⟩) (by show ga < _; omega)).trans q4
                  have hga2 : ga < wr.heap.size := by omega
                  have HS : Hid (∀ W, Below (wr.alloc (.cells #[.string xn, .int .i64 xp, .int .i64 xb.kind, .int .i64 xb.num, .slice Ab nb cb] 54)).heap.size (wr.alloc (.cells #[.string xn, .int .i64 xp, .int .i64 xb.kind, .int .i64 xb.num, .slice Ab nb cb] 54)) W → (W.cell? ⟨wr.heap.size, 2, none⟩ = some (.int .i64 xb.kind) ∧ W.cell? ⟨wr.heap.size, 3, none⟩ = some (.int .i64 xb.num) ∧ W.cell? ⟨wr.heap.size, 4, none⟩ = some (.slice Ab nb cb)) ∧ W.cell? ⟨ga, k4 * 5 + 2, none⟩ = some (.int .i64 xb.kind) ∧ W.cell? ⟨ga, k4 * 5 + 3, none⟩ = some (.int .i64 xb.num) ∧ W.cell? ⟨ga, k4 * 5 + 4, none⟩ = some (.slice Aw nw cw)) := Lib.hid fun W hW => by
                    have hbW := hwb.below hW hwb.lt
                    have hk := fun j => hW.cell (p := ⟨ga, j, none⟩) (by show ga < _; rw [World.size_alloc]; omega)
                    exact ⟨⟨hbW.cell 2, hbW.cell 3, hbW.cell 4⟩, (hk _).trans z2, (hk _).trans z3, (hk _).trans z4⟩
                  have HB4 := Lib.hid hbel4
                  have HW0 := Lib.hid hW0
                  clear hx hel hbv hnm hw7o hw7r g2 g3 g4 g5 g6 hk hxl hbel4 hbe hwb hW0 q2 q3 q4
                  go_wp2_with fail
                  generalize hWW : wr.alloc (.cells #[.string xn, .int .i64 xp, .int .i64 xb.kind, .int .i64 xb.num, .slice Ab nb cb] 54) = W0 at *
                  clear hWW
                  have s0 := HS.out W0 (Below.refl _ _)
                  have hd : Below W0.heap.size W0 W0.drew := (Below.refl _ _).drew
                  have hHd : Below wr.heap.size wr W0.drew := HW0.out.trans (hd.mono HW0.out.size)
                  go_region_held3 (fun W => (W.cell? ⟨wr.heap.size, 2, none⟩ = some (.int .i64 xb.kind) ∧ W.cell? ⟨wr.heap.size, 3, none⟩ = some (.int .i64 xb.num) ∧ W.cell? ⟨wr.heap.size, 4, none⟩ = some (.slice Ab nb cb)) ∧ W.cell? ⟨ga, k4 * 5 + 2, none⟩ = some (.int .i64 xb.kind) ∧ W.cell? ⟨ga, k4 * 5 + 3, none⟩ = some (.int .i64 xb.num) ∧ W.cell? ⟨ga, k4 * 5 + 4, none⟩ = some (.slice Aw nw cw))
                    (first | assumption | exact HS.out _ (by assumption) | go_keep)
                    (first
                     | (go_at_call 23; ((with_reducible refine (HEQ.out _ (by assumption)).mono ?_); rintro e wI ⟨rfl, bwI⟩)
                        have hwI : Below W0.heap.size W0 wI := hd.trans (bwI.mono hd.size)))
                  all_goals
                    have B5 : Hid (Below w7.heap.size w7 wI) := Lib.hid (HB4.out.trans ((HW0.out.trans (hwI.mono HW0.out.size)).mono hzr4))
                    clear hwI
                    go_wp2_with fail
                    go_roundw
                    case rel => exact ⟨k4 + 1, by omega, by go_num, B5.out⟩
                    case measure => simp [intOf]; omega
                · have HB4 := Lib.hid hbel4
                  have HNR := Lib.hid (rd_own (by have h := HNM7.out; rwa [HN0.out] at h))
                  clear hbel4 hbe
                  go_wp2_with fail
                  go_loopw [103] (fun i wr => ∃ k5 : Nat, k5 ≤ n0 ∧ i = .int .i64 (k5 : Int) ∧ Below w7.heap.size w7 wr) (fun i _ => n0 - (intOf i).toNat)
                  case atStart => exact ⟨0, Nat.zero_le _, rfl, HB4.out⟩
                  case round =>
                    obtain ⟨k5, hk5, rfl, hbel5⟩ := hrel
                    have hbe : Below w.heap.size w wr := HB7.out.trans (hbel5.mono HB7.out.size)
                    by_cases hlt5 : k5 < n0
                    · have hx : syms[k5]? = some (syms[k5]'(by have := HN0.out; omega)) := List.getElem?_eq_getElem _
                      obtain ⟨ad0, rfl, hP0, el0⟩ := sy_el HRD0.out hx
                      obtain ⟨adm, rfl, hPm, elm⟩ := sy_el HNR.out hx
                      obtain ⟨r0, r1⟩ := el0.keep (hbe.block _ (by omega))
                      obtain ⟨q0, q1⟩ := elm.keep (hbel5.block _ hPm)
                      have HB5 := Lib.hid hbel5
                      have hnl : k5 < syms.length := by have := HN0.out; omega
                      generalize (syms[k5]'(by have := HN0.out; omega)) = x at *
                      obtain ⟨xn, xr⟩ := x
                      simp only at r0 r1 q0 q1
                      clear hx el0 elm hbe hbel5
                      go_wp2_with fail
                      go_region
                      all_goals
                        go_wp2_with fail
                        go_roundw
                        case rel => exact ⟨k5 + 1, by omega, by go_num, HB5.out.drew⟩
                        case measure => simp [intOf]; omega
                    · have HBE := Lib.hid hbe
                      clear hbe hbel5
                      go_wp2_with fail
                      refine (HA.out _).mono ?_
                      rintro e w15 ⟨rfl, hb15⟩
                      have B3 := Lib.hid (HBE.out.trans (hb15.mono HBE.out.size))
                      clear hb15
                      go_wp2_with fail
                      go_ret
                      exact ⟨rfl, B3.out⟩
end Go.Proofs.YtkkfdiidneoelaaDoor
