/-
  The reference's reading of schemes: Get.
-/
import Derived.Test.YtbbejhhohppdhaaGreatDoorSRefGetP
namespace Go.Proofs.YtbbejhhohppdhaaGreatDoor
open Go.RowKit

theorem getE3_long {t : List UInt8} (h : 65536 < t.length) : getE3 t = 3 := by rw [getE3, if_pos h]
theorem getE3_none {t : List UInt8} (h : ¬ 65536 < t.length) (h2 : get3 t = none) : getE3 t = 4 := by rw [getE3, if_neg h, h2]
theorem getE3_some {t : List UInt8} {s : Sc} (h : ¬ 65536 < t.length) (h2 : get3 t = some s) : getE3 t = if s.sayOk = true then 0 else 7 := by rw [getE3, if_neg h, h2]
theorem get3_names {t : List UInt8} (h : names3 t = none) : get3 t = none := by rw [get3, h]
theorem get3_bods {t : List UInt8} {sy : List Sy} {xs : List (List UInt8 × S × List UInt8)} (h : names3 t = some (sy, xs)) (h2 : bodsA (Sc.fs ⟨sy, xs.map bare3⟩) (Sc.gs ⟨sy, xs.map bare3⟩) [] xs = none) : get3 t = none := by simp only [get3, h, h2]
theorem get3_some {t : List UInt8} {sy : List Sy} {fs : List Fn} {xs : List (List UInt8 × S × List UInt8)} (h : names3 t = some (sy, xs)) (h2 : bodsA (Sc.fs ⟨sy, xs.map bare3⟩) (Sc.gs ⟨sy, xs.map bare3⟩) [] xs = some fs) : get3 t = some ⟨sy, fs⟩ := by simp only [get3, h, h2]

/-- What is known behind the reading of a body. -/
def CutG (w w1 wr : World) (t : List UInt8) (sy : List Sy) (xs : List (List UInt8 × S × List UInt8)) (v0 v1 : Value) (fs : List Fn) (vo : Value) (uo : List Value) (m k : Nat) (fb : Array Value) (s10 s11 s12 s29 : Value) (wx : World) : Prop :=
  ∃ (yb : Nat) (y : T) (Ay : Option Addr) (cy nx : Nat) (ok : Bool), s10 = .pointer (some ⟨yb, 0, none⟩) ∧ s11 = .int .i64 (nx : Int) ∧ s12 = .bool ok ∧ s29 = .int .i64 (k : Int) ∧
    Hid (match termP (Sc.fs ⟨sy, xs.map bare3⟩) (Sc.gs ⟨sy, xs.map bare3⟩) (t.drop m) with | some (x, r) => ok = true ∧ x = y ∧ nx ≤ t.length ∧ t.drop nx = r | none => ok = false) ∧ Hid (Blk wx yb 34 #[.int .i64 y.kind, .int .i64 y.num, .slice Ay y.args.length cy]) ∧
    Hid (GtSt w.heap.size w1 v0 v1 fs vo uo wx) ∧ Hid (Blk wx wr.heap.size 64 fb) ∧
    Hid (y.NIn wx (fun b => wr.heap.size + 1 ≤ b ∧ b < wx.heap.size) (.slice Ay y.args.length cy)) ∧ wr.heap.size + 1 ≤ wx.heap.size
theorem CutG.mk_ {w w1 wr wx : World} {t : List UInt8} {sy : List Sy} {xs : List (List UInt8 × S × List UInt8)} {v0 v1 : Value} {fs : List Fn} {vo : Value} {uo : List Value} {m k : Nat} {fb : Array Value} {yb : Nat} {y : T} {Ay : Option Addr} {cy nx : Nat} {ok : Bool}
    (hS : GtSt w.heap.size w1 v0 v1 fs vo uo (wr.alloc (.cells fb 64))) (hb : Below (wr.heap.size + 1) (wr.alloc (.cells fb 64)) wx)
    (hst : match termP (Sc.fs ⟨sy, xs.map bare3⟩) (Sc.gs ⟨sy, xs.map bare3⟩) (t.drop m) with | some (x, r) => ok = true ∧ x = y ∧ nx ≤ t.length ∧ t.drop nx = r | none => ok = false)
    (hY : Blk wx yb 34 #[.int .i64 y.kind, .int .i64 y.num, .slice Ay y.args.length cy]) (hN : y.NIn wx (fun b => wr.heap.size + 1 ≤ b ∧ b < wx.heap.size) (.slice Ay y.args.length cy)) :
    CutG w w1 wr t sy xs v0 v1 fs vo uo m k fb (.pointer (some ⟨yb, 0, none⟩)) (.int .i64 (nx : Int)) (.bool ok) (.int .i64 (k : Int)) wx :=
  ⟨yb, y, Ay, cy, nx, ok, rfl, rfl, rfl, rfl, Lib.hid hst, Lib.hid hY, Lib.hid (hS.next (by simpa using hb)), Lib.hid ((Blk.new wr _ _).below hb (by omega)), Lib.hid hN, by have := hb.size; simpa using this⟩

set_option maxRecDepth 100000 in
set_option maxHeartbeats 6400000 in
theorem refGet3_any (t : List UInt8) (w : World) (hm : t.length ≤ 9223372036854775807) :
    Calls Tryz.prog 13 #[.string ⟨t.toArray⟩] w (GetPost3 t w) := by
  have hsz : (⟨t.toArray⟩ : ByteArray).size = t.length := rfl
  obtain ⟨j0, hj0, hy0, hy1, hy2⟩ := info_parts fn_info
  have HY1 := Lib.hid hy1
  have HY2 := Lib.hid hy2
  clear hy1 hy2
  have hb0 := (Below.refl w.heap.size w).alloc (Nat.le_refl _) (.cells #[.slice none 0 0, .slice none 0 0] 25)
  by_cases hlong : 65536 < t.length
  · have HE := Lib.hid (getE3_long hlong)
    have hli : decide ((65536 : Int) < (t.length : Int)) = true := decide_eq_true (by omega)
    clear hlong
    go_enter Tryz.func13, Tryz.ntmps13
    go_wp2_with fail
    exact bodyPost_ret (gets3_results rfl rfl (Blk.new w _ _)) rfl (GetPost3.no HE.out (by decide) hb0)
  have ht : t.length ≤ 65536 := by omega
  have hli : decide ((65536 : Int) < (t.length : Int)) = false := decide_eq_false (by omega)
  have HLO := Lib.hid hlong
  clear hlong
  have HNM := Lib.hid (names3_any t (w.alloc (.cells #[.slice none 0 0, .slice none 0 0] 25)) ht)
  go_enter Tryz.func13, Tryz.ntmps13
  go_wp2_with fail
  refine HNM.out.mono ?_
  rintro e w1 ⟨v0, v1, v2, ok, rfl, ⟨A0, n0, c0, rfl⟩, ⟨A1, n1, c1, rfl⟩, hb1, hnm⟩
  have hz1 : w.heap.size + 1 ≤ w1.heap.size := by have := hb1.size; simpa using this
  have hb1' : Below (w.heap.size + 1) (w.alloc (.cells #[.slice none 0 0, .slice none 0 0] 25)) w1 := by simpa using hb1
  have hres1 : Blk w1 w.heap.size 25 #[.slice none 0 0, .slice none 0 0] := (Blk.new w _ _).below hb1' (by omega)
  have hbel1 : Below w.heap.size w w1 := hb0.trans (hb1'.mono (by omega))
  have hbA := (Below.refl w1.heap.size w1).alloc (Nat.le_refl _) (.cells #[.slice A0 n0 c0, .slice A1 n1 c1] 25)
  have HRA : Hid (Blk (w1.alloc (.cells #[.slice A0 n0 c0, .slice A1 n1 c1] 25)) w.heap.size 25 #[.slice none 0 0, .slice none 0 0]) := Lib.hid (hres1.alloc _)
  have HBA : Hid (Below w.heap.size w (w1.alloc (.cells #[.slice A0 n0 c0, .slice A1 n1 c1] 25))) := Lib.hid (hbel1.trans (hbA.mono (by omega)))
  cases hn : names3 t with
  | none =>
    rw [hn] at hnm
    simp only at hnm
    subst hnm
    have HN0 := Lib.hid hn
    clear hn
    have r0 := HRA.out.cell 0
    have r1 := HRA.out.cell 1
    have rf0 := HRA.out.frozen 0
    have rf1 := HRA.out.frozen 1
    simp at r0 r1
    have HEE : Hid (getE3 t = 4) := Lib.hid (getE3_none HLO.out (get3_names HN0.out))
    go_wp2_with fail
    exact bodyPost_ret (gets3_results rfl rfl (((HRA.out.set_ 0 _).set_ 1 _).eq_ rfl)) rfl (GetPost3.no HEE.out (by decide) ((HBA.out.setCell (Nat.le_refl _) _).setCell (Nat.le_refl _) _))
  | some y =>
    obtain ⟨sy, xs⟩ := y
    rw [hn] at hnm
    obtain ⟨rfl, ms, us, hof, hrd⟩ := hnm
    simp only [World.size_alloc] at hrd
    have HN0 := Lib.hid hn
    have HOF := Lib.hid hof
    have HRD := Lib.hid hrd
    have hsc := hrd.scheme
    have hnmd := names3_named hn
    have hscf := hsc.fn
    obtain ⟨A1', n1', c1', us', e1, hl1, hnc1, hcc1, _, _⟩ := hscf
    injection e1 with e2 e3 e4
    subst e2 e3 e4
    simp only [List.length_map] at hl1
    have hn1 : n1 = xs.length := hl1.symm
    subst hn1
    obtain ⟨A2, c2, hv2⟩ := own_len hrd.obs
    have hml : ms.length = xs.length := hof.1
    rw [hml] at hv2
    subst hv2
    have HSC := Lib.hid hsc
    have HND := Lib.hid hnmd
    have hG0 : Hid (GtSt w.heap.size w1 (.slice A0 n0 c0) (.slice A1 xs.length c1) [] (.slice none 0 0) [] (w1.alloc (.cells #[.slice A0 n0 c0, .slice A1 xs.length c1] 25))) := Lib.hid ⟨hbA, Blk.new _ _ _, ⟨by simp, .inl ⟨rfl, rfl⟩⟩, by simp [FnMk]⟩
    have hxl : xs.length ≤ t.length := names3_len hn
    have HT := Lib.hid (fun W (hW : Below w1.heap.size w1 W) (b : Nat) (I : Int) (hb : b ≤ t.length) (hI : I = (b : Int)) => (by subst hI; exact parseTerm3_any ⟨sy, xs.map bare3⟩ _ _ t HND.out ht (t.length - b + 1) b W w1.heap.size (by omega) (HSC.out.below hW (Nat.le_refl _)) hW.size hb : Calls Tryz.prog 36 #[.agg #[.slice A0 n0 c0, .slice A1 xs.length c1], .string ⟨t.toArray⟩, .int .i64 I] W (TermPost3 ⟨sy, xs.map bare3⟩ t b W)))
    have HB := Lib.hid (fun W (b : Nat) (I : Int) (p : List UInt8) (hb : b ≤ t.length + 1) (hp : 1 ≤ p.length ∧ p.length ≤ 10) (hI : I = (b : Int)) => (by subst hI; exact begins3_any t p b W hb ht hp : Calls Tryz.prog 37 #[.string ⟨t.toArray⟩, .int .i64 I, .string ⟨p.toArray⟩] W fun e w' => e = .returned (.bool (strip p (t.drop b)).isSome) ∧ W = w'))
    have HR1 := Lib.hid hres1
    have HBL := Lib.hid hbel1
    have q0 := hG0.out.box.cell 1
    simp at q0
    clear hn hof hrd hsc hnmd hml hl1 hres1 hbel1 hbA HRA HBA hb1 hb1' hb0 HNM
    go_wp2_with fail
    go_loopw [7, 29] (fun o i wr => ∃ (k : Nat) (fs : List Fn) (vo : Value) (uo : List Value), i = .int .i64 (k : Int) ∧ o = vo ∧ k ≤ xs.length ∧ fs.length = k ∧ Hid (bodsA (Sc.fs ⟨sy, xs.map bare3⟩) (Sc.gs ⟨sy, xs.map bare3⟩) [] xs = bodsA (Sc.fs ⟨sy, xs.map bare3⟩) (Sc.gs ⟨sy, xs.map bare3⟩) fs (xs.drop k)) ∧ Hid (GtSt w.heap.size w1 (.slice A0 n0 c0) (.slice A1 xs.length c1) fs vo uo wr)) (fun _ i _ => xs.length - (intOf i).toNat)
    case atStart => exact ⟨0, [], _, [], rfl, rfl, Nat.zero_le _, rfl, Lib.hid (by rw [List.drop_zero]), hG0⟩
    case round =>
      obtain ⟨k, fs, vo, uo, rfl, rfl, hk, hfl, hbd, HS⟩ := hrel
      by_cases hlt : k < xs.length
      · have hx : xs[k]? = some xs[k] := List.getElem?_eq_getElem hlt
        obtain ⟨x, hxe⟩ : ∃ x, xs[k] = x := ⟨_, rfl⟩
        rw [hxe] at hx
        clear hxe
        have hfx : (xs.map bare3)[k]? = some (bare3 x) := by rw [List.getElem?_map, hx]; rfl
        obtain ⟨u, v, fp, g0, g1, g2, g3, g4, hsep, hnd, hfp, hns, ⟨Av, nv, cv, rfl⟩⟩ := HRD.out.row.at_ hfx
        rcases HRD.out.ofn.2 with ⟨e0, h0⟩ | ⟨gf, capf, curf, e0, _⟩
        · rw [List.length_map] at h0; omega
        have hcf := HRD.out.ofn.cells (g := gf) (by rw [e0]; rfl)
        have hgf := HRD.out.ofn.lt gf (by rw [e0]; rfl)
        obtain ⟨ad, had⟩ : ∃ ad : Addr, (⟨gf, 0, none⟩ : Addr) = ad := ⟨_, rfl⟩
        have hadb : ad.block = gf := by rw [← had]
        injection e0 with e1 e2 e3
        rw [had] at e1 hcf
        subst e1 e3
        clear e2 had
        have hel : FnEl w1 ad k (bare3 x) u (.slice Av nv cv) := ⟨hcf _ _ g0, by rw [← add_one_more ad (k * 5) 0]; exact hcf _ _ g1, by rw [← add_one_more ad (k * 5) 1]; exact hcf _ _ g2, by rw [← add_one_more ad (k * 5) 2]; exact hcf _ _ g3, by rw [← add_one_more ad (k * 5) 3]; exact hcf _ _ g4⟩
        obtain ⟨r0, r1, r2, r3, r4⟩ := hel.keep (HS.out.bel.block _ (by omega))
        obtain ⟨m, hmk⟩ : ∃ m, ms[k]? = some m := by
          have : k < ms.length := by rw [HOF.out.1]; exact hlt
          exact ⟨ms[k], List.getElem?_eq_getElem this⟩
        obtain ⟨hm1, hm2⟩ := HOF.out.2 k m x hmk hx
        rcases HRD.out.obs.2 with ⟨e0, h0⟩ | ⟨gm, capm, curm, e0, _⟩
        · rw [HOF.out.1] at h0; omega
        have hcm := HRD.out.obs.cells (g := gm) (by rw [e0]; rfl) k (.int .i64 (m : Int)) (by rw [List.getElem?_map, hmk]; rfl)
        have hgm := HRD.out.obs.lt gm (by rw [e0]; rfl)
        obtain ⟨am, ham⟩ : ∃ am : Addr, (⟨gm, 0, none⟩ : Addr) = am := ⟨_, rfl⟩
        have hamb : am.block = gm := by rw [← ham]
        injection e0 with e1 e2 e3
        rw [ham] at e1 hcm
        subst e1 e3
        clear e2 ham
        obtain ⟨Au, nu, cu, rfl⟩ := hsep.form
        simp only [bare3, T.kind, T.num] at r0 r1 r2 r3 r4 hsep hns
        have hzr := HS.out.bel.size
        have hSf := HS.out.next ((Below.refl _ _).alloc (Nat.le_refl _) (.cells #[.string ⟨x.1.toArray⟩, .slice Au nu cu, .int .i64 0, .int .i64 0, .slice Av nv cv] 64))
        have HSf := Lib.hid hSf
        have b0 := hSf.box.cell 0
        have b1 := hSf.box.cell 1
        have hbw := hSf.bel
        have hmf : (wr.alloc (.cells #[.string ⟨x.1.toArray⟩, .slice Au nu cu, .int .i64 0, .int .i64 0, .slice Av nv cv] 64)).cell? (am.add k) = some (.int .i64 (m : Int)) := (World.cell?_of_block (by rw [block_of_add]; exact hbw.block _ (by omega))).trans hcm
        simp at b0 b1
        have i1 : (0 : Int) ≤ (k : Int) := by omega
        have i2 : (k : Int) < (xs.length : Int) := by omega
        have HX := Lib.hid hx
        have HSEP := Lib.hid hsep
        have HND2 := Lib.hid hnd
        have HFP := Lib.hid hfp
        have HFL := Lib.hid hfl
        have HSTEP := Lib.hid (bodsA_step (f := Sc.fs ⟨sy, xs.map bare3⟩) (g := Sc.gs ⟨sy, xs.map bare3⟩) (acc := fs) hx)
        rw [← hm2] at HSTEP
        have HWF : Hid ((wr.alloc (.cells #[.string ⟨x.1.toArray⟩, .slice Au nu cu, .int .i64 0, .int .i64 0, .slice Av nv cv] 64)).heap.size = wr.heap.size + 1) := Lib.hid (by simp)
        have hvl : ∀ b, u7.ownBlock = some b → w1.heap.size + 1 ≤ b ∧ b < wr.heap.size := fun b hb => HS.out.own.lt b hb
        have hflx : fs.length ≤ xs.length := by omega
        have hcm2 := Lib.hid hcm
        clear hx hfx hsep hnd hfp hfl g0 g1 g2 g3 g4 hcf hel hcm hmk hm2 hSf q0
        have HYB : Hid (∀ w2, Below ((wr.alloc (.cells #[.string ⟨x.1.toArray⟩, .slice Au nu cu, .int .i64 0, .int .i64 0, .slice Av nv cv] 64)).alloc (.cells #[.int .i64 0, .int .i64 0, .slice none 0 0] 34)).heap.size ((wr.alloc (.cells #[.string ⟨x.1.toArray⟩, .slice Au nu cu, .int .i64 0, .int .i64 0, .slice Av nv cv] 64)).alloc (.cells #[.int .i64 0, .int .i64 0, .slice none 0 0] 34)).drew w2 → Blk w2 (wr.heap.size + 1) 34 #[.int .i64 0, .int .i64 0, .slice none 0 0]) := Lib.hid (fun w2 hb => by
          have h := Blk.new (wr.alloc (.cells #[.string ⟨x.1.toArray⟩, .slice Au nu cu, .int .i64 0, .int .i64 0, .slice Av nv cv] 64)) 34 #[.int .i64 0, .int .i64 0, .slice none 0 0]
          rw [HWF.out] at h
          exact (h.drew).below hb (by simp))
        have hbz := hbw.alloc (by simp; omega) (.cells #[.int .i64 0, .int .i64 0, .slice none 0 0] 34)
        have hmz : ((wr.alloc (.cells #[.string ⟨x.1.toArray⟩, .slice Au nu cu, .int .i64 0, .int .i64 0, .slice Av nv cv] 64)).alloc (.cells #[.int .i64 0, .int .i64 0, .slice none 0 0] 34)).cell? (am.add k) = some (.int .i64 (m : Int)) := (World.cell?_of_block (by rw [block_of_add]; exact hbz.block _ (by omega))).trans hcm2.out
        have bz := HSf.out.box.alloc (.cells #[.int .i64 0, .int .i64 0, .slice none 0 0] 34)
        have bz0 := bz.cell 0
        have bz1 := bz.cell 1
        simp at bz0 bz1
        clear bz
        go_upto_region 10 with fail
        go_cut [10, 11, 12, 29] from 29 to 63 (fun s10 s11 s12 s29 wx => CutG w w1 wr t sy xs (.slice A0 n0 c0) (.slice (some ad) xs.length c1) fs u7 uo m k #[.string ⟨x.1.toArray⟩, .slice Au nu cu, .int .i64 0, .int .i64 0, .slice Av nv cv] s10 s11 s12 s29 wx)
        case first =>
          go_region_law
            (first
              | (go_simp; go_at_call 36; refine (HT.out _ (by first | exact hbw.drew | exact hbz.drew | exact hbw.drew.alloc (by show w1.heap.size ≤ (World.alloc _ _).heap.size; simp; omega) _) m _ hm1 (by first | rfl | simp)).mono ?_; rintro e w2 ⟨y, vy, usy, nx, ok, rfl, hnx, hst, hmky, hb2⟩; obtain ⟨Ay, cy, hvy⟩ := hmky.form; subst hvy; try (have hyb : Blk w2 (wr.heap.size + 1) 34 #[.int .i64 0, .int .i64 0, .slice none 0 0] := HYB.out w2 hb2; have y0 := hyb.cell 0; have y1 := hyb.cell 1; have y2 := hyb.cell 2; have z0 := hyb.frozen 0; have z1 := hyb.frozen 1; have z2 := hyb.frozen 2; simp at y0 y1 y2)))
          all_goals
            go_wp2_with fail
            go_meet
            first
              | (have hb2' : Below (wr.heap.size + 1) (wr.alloc (.cells #[.string ⟨x.1.toArray⟩, .slice Au nu cu, .int .i64 0, .int .i64 0, .slice Av nv cv] 64)) w2 := ((Below.refl (wr.heap.size + 1) (wr.alloc (.cells #[.string ⟨x.1.toArray⟩, .slice Au nu cu, .int .i64 0, .int .i64 0, .slice Av nv cv] 64))).drew).trans (Below.mono (B := (wr.alloc (.cells #[.string ⟨x.1.toArray⟩, .slice Au nu cu, .int .i64 0, .int .i64 0, .slice Av nv cv] 64)).heap.size) (w := (wr.alloc (.cells #[.string ⟨x.1.toArray⟩, .slice Au nu cu, .int .i64 0, .int .i64 0, .slice Av nv cv] 64)).drew) hb2 (by simp))
                 have hz2 : wr.heap.size + 1 ≤ w2.heap.size := by have := hb2'.size; simpa using this
                 exact CutG.mk_ HSf.out (hb2'.alloc hz2 _) hst (Blk.new w2 _ _) ((T.NIn.keep (fun b hb => Below.heap_alloc _ _ _ hb.2) _ hmky.nterm).more (fun b hb => ⟨by have h : (wr.alloc (.cells #[.string ⟨x.1.toArray⟩, .slice Au nu cu, .int .i64 0, .int .i64 0, .slice Av nv cv] 64)).heap.size ≤ b := hb.1; simp at h; exact h, by have := hb.2; simp; omega⟩) _))
              | (have hbz2 : Below (wr.heap.size + 1) (wr.alloc (.cells #[.string ⟨x.1.toArray⟩, .slice Au nu cu, .int .i64 0, .int .i64 0, .slice Av nv cv] 64)) w2 := (((Below.refl (wr.heap.size + 1) (wr.alloc (.cells #[.string ⟨x.1.toArray⟩, .slice Au nu cu, .int .i64 0, .int .i64 0, .slice Av nv cv] 64))).alloc (by simp) (.cells #[.int .i64 0, .int .i64 0, .slice none 0 0] 34)).drew).trans (Below.mono (B := ((wr.alloc (.cells #[.string ⟨x.1.toArray⟩, .slice Au nu cu, .int .i64 0, .int .i64 0, .slice Av nv cv] 64)).alloc (.cells #[.int .i64 0, .int .i64 0, .slice none 0 0] 34)).heap.size) (w := ((wr.alloc (.cells #[.string ⟨x.1.toArray⟩, .slice Au nu cu, .int .i64 0, .int .i64 0, .slice Av nv cv] 64)).alloc (.cells #[.int .i64 0, .int .i64 0, .slice none 0 0] 34)).drew) hb2 (by simp))
                 have hz2 : wr.heap.size + 1 ≤ w2.heap.size := by have := hbz2.size; simpa using this
                 refine CutG.mk_ HSf.out (((hbz2.setCell (Nat.le_refl _) _).setCell (Nat.le_refl _) _).setCell (Nat.le_refl _) _) hst ((((hyb.set_ 0 _).set_ 1 _).set_ 2 _).eq_ rfl) ((T.NIn.keep (fun b hb => ?_) _ hmky.nterm).more (fun b hb => ?_) _)
                 · have h1 : b ≠ wr.heap.size + 1 := by
                     have h : ((wr.alloc (.cells #[.string ⟨x.1.toArray⟩, .slice Au nu cu, .int .i64 0, .int .i64 0, .slice Av nv cv] 64)).alloc (.cells #[.int .i64 0, .int .i64 0, .slice none 0 0] 34)).heap.size ≤ b := hb.1
                     simp at h; omega
                   rw [Below.heap_setCell _ _ _ _ h1, Below.heap_setCell _ _ _ _ h1, Below.heap_setCell _ _ _ _ h1]
                 · have h : ((wr.alloc (.cells #[.string ⟨x.1.toArray⟩, .slice Au nu cu, .int .i64 0, .int .i64 0, .slice Av nv cv] 64)).alloc (.cells #[.int .i64 0, .int .i64 0, .slice none 0 0] 34)).heap.size ≤ b := hb.1
                   simp at h
                   have h2 := hb.2
                   exact ⟨by omega, by simpa [World.setCell] using h2⟩)
        case rest =>
          obtain ⟨yb, y, Ay, cy, nx, ok, rfl, rfl, rfl, rfl, hst, hYB, HS3, hFB, hNI, hzx⟩ := hcut
          have HRX : Hid (Blk wc w.heap.size 25 #[.slice none 0 0, .slice none 0 0]) := Lib.hid (HR1.out.below HS3.out.bel (by omega))
          have HBX : Hid (Below w.heap.size w wc) := Lib.hid (HBL.out.trans (HS3.out.bel.mono (by omega)))
          clear HYB HSf hbw hmf b0 b1 bz0 bz1 hmz hbz r0 r1 r2 r3 r4
          rcases term_cases hst.out with ⟨rfl, htn⟩ | ⟨rfl, hnx2, hts⟩
          · have HTN := Lib.hid (by rw [hbd.out, HSTEP.out, htn] : bodsA (Sc.fs ⟨sy, xs.map bare3⟩) (Sc.gs ⟨sy, xs.map bare3⟩) [] xs = none)
            clear hst htn
            have r0 := HRX.out.cell 0
            have r1 := HRX.out.cell 1
            have rf0 := HRX.out.frozen 0
            have rf1 := HRX.out.frozen 1
            simp at r0 r1
            have HEE : Hid (getE3 t = 4) := Lib.hid (getE3_none HLO.out (get3_bods HN0.out HTN.out))
            go_wp2_with fail
            exact bodyPost_ret (gets3_results rfl rfl (((HRX.out.set_ 0 _).set_ 1 _).eq_ rfl)) rfl (GetPost3.no HEE.out (by decide) ((HBX.out.setCell (Nat.le_refl _) _).setCell (Nat.le_refl _) _))
          · clear hst
            have HTS := Lib.hid hts
            clear hts
            go_wp2_with fail
            refine (HB.out _ nx _ [10] (by omega) ⟨by decide, by decide⟩ (by first | rfl | simp)).mono ?_
            rintro e w5 ⟨rfl, rfl⟩
            cases hs : strip [10] (t.drop nx) with
            | none =>
              have HTN := Lib.hid (by rw [hbd.out, HSTEP.out, HTS.out]; simp only [hs] : bodsA (Sc.fs ⟨sy, xs.map bare3⟩) (Sc.gs ⟨sy, xs.map bare3⟩) [] xs = none)
              clear hs
              have r0 := HRX.out.cell 0
              have r1 := HRX.out.cell 1
              have rf0 := HRX.out.frozen 0
              have rf1 := HRX.out.frozen 1
              simp at r0 r1
              have HEE : Hid (getE3 t = 4) := Lib.hid (getE3_none HLO.out (get3_bods HN0.out HTN.out))
              go_wp2_with fail
              exact bodyPost_ret (gets3_results rfl rfl (((HRX.out.set_ 0 _).set_ 1 _).eq_ rfl)) rfl (GetPost3.no HEE.out (by decide) ((HBX.out.setCell (Nat.le_refl _) _).setCell (Nat.le_refl _) _))
            | some q =>
              have HBD2 := Lib.hid (by rw [hbd.out, HSTEP.out, HTS.out]; simp only [hs] : bodsA (Sc.fs ⟨sy, xs.map bare3⟩) (Sc.gs ⟨sy, xs.map bare3⟩) [] xs = bodsA (Sc.fs ⟨sy, xs.map bare3⟩) (Sc.gs ⟨sy, xs.map bare3⟩) (fs ++ [⟨⟨x.1.toArray⟩, x.2.1, y⟩]) (xs.drop (k + 1)))
              have own3 := HS3.out.own
              have f0 := hFB.out.cell 0
              have f1 := hFB.out.cell 1
              have y0 := hYB.out.cell 0
              have y1 := hYB.out.cell 1
              have y2 := hYB.out.cell 2
              simp at f0 f1 y0 y1 y2
              clear hs
              go_wp2_with
                (at_builtin
                 refine wpList_append_lies _ rfl _ _ _ rfl (w1.heap.size + 1) 64 j0 _ 5 80 Tryz.underlying23 hj0 hy0 HY1.out HY2.out rfl (by omega) u7 _ uo (by rfl) (own3.alloc _)
                   ⟨wc.heap.size, 0, none⟩ 1 1 [.string ⟨x.1.toArray⟩, .slice Au nu cu, .int .i64 y.kind, .int .i64 y.num, .slice Ay y.args.length cy] (by rfl) (by rfl) (World.news_of_block (cs := #[.string ⟨x.1.toArray⟩, .slice Au nu cu, .int .i64 y.kind, .int .i64 y.num, .slice Ay y.args.length cy]) (t := 64) (fr := (0, 0)) (heap_alloc_new wc _)) (by simp [Value.oneCell']) (by omega) (by simp only [maxLen]; omega) (by omega) (by simp; omega) (wc.heap.size + 1) (by simp) ?_
                 intro gg cap2 w4 hown4 hgrow hat4 hlt4)
              go_roundw
              case rel =>
                refine ⟨k + 1, fs ++ [⟨⟨x.1.toArray⟩, x.2.1, y⟩], _, uo ++ [.string ⟨x.1.toArray⟩, .slice Au nu cu, .int .i64 y.kind, .int .i64 y.num, .slice Ay y.args.length cy], by go_num, rfl, by omega, by simp [HFL.out], HBD2, Lib.hid (HS3.out.push ⟨⟨x.1.toArray⟩, x.2.1, y⟩ (u := .slice Au nu cu) (v := .slice Ay y.args.length cy) (HSEP.out.keep _ (fun b hb => HS3.out.bel.block b (HFP.out b hb).2.1)) HND2.out (fun b hb => ⟨(HFP.out b hb).2.1, by have := (HFP.out b hb).1; omega⟩) (hNI.out.more (fun b hb => ⟨hb.2, fun e => by have := hvl b e; omega, by omega, by omega⟩) _) hns hown4 hgrow hat4 hlt4)⟩
              case measure => simp [intOf]; omega
      · have hkx : k = xs.length := by omega
        have HBD2 := Lib.hid (by rw [hbd.out, hkx, List.drop_length]; rfl : bodsA (Sc.fs ⟨sy, xs.map bare3⟩) (Sc.gs ⟨sy, xs.map bare3⟩) [] xs = some fs)
        have HG := Lib.hid (get3_some HN0.out HBD2.out)
        obtain ⟨Ao, co, hvo⟩ := HS.out.form
        have HSS := HS.out.store
        have hzr := HS.out.bel.size
        have b0 := HS.out.box.cell 0
        have b1 := HS.out.box.cell 1
        have bf := HS.out.box.frozen 1
        simp at b0 b1
        rw [hvo] at HSS
        have hinS := get_scheme HRD.out HSS (by omega) (Nat.le_refl _) (fun _ _ _ => rfl) (by omega)
        have HIS := Lib.hid (refScIs_any ⟨sy, fs⟩ _ _ _ _ hinS (Nat.le_refl _))
        have HSF := Lib.hid HSS
        have d0 := HSS.box.cell 0
        have d1 := HSS.box.cell 1
        simp at d0 d1
        have hlen : fs.length = xs.length := by omega
        have HFL := Lib.hid hlen
        have hge : ¬ ((k : Nat) : Int) < (xs.length : Int) := by omega
        clear hinS HSS hfl hlen hkx q0
        rw [hvo]
        go_wp2_with fail
        refine HIS.out.mono ?_
        rintro e w6 ⟨rfl, hb6⟩
        have HS6 := HSF.out.next hb6
        have H6 := Lib.hid HS6
        have e0 := HS6.box.cell 0
        have e1 := HS6.box.cell 1
        simp at e0 e1
        have HRX : Hid (Blk w6 w.heap.size 25 #[.slice none 0 0, .slice none 0 0]) := Lib.hid (HR1.out.below HS6.bel (by omega))
        have HBX : Hid (Below w.heap.size w w6) := Lib.hid (HBL.out.trans (HS6.bel.mono (by omega)))
        cases hok : Sc.sayOk ⟨sy, fs⟩ with
        | false =>
          have HOK := Lib.hid hok
          clear hok HS6
          have r0 := HRX.out.cell 0
          have r1 := HRX.out.cell 1
          have rf0 := HRX.out.frozen 0
          have rf1 := HRX.out.frozen 1
          simp at r0 r1
          have HEE : Hid (getE3 t = 7) := Lib.hid (by rw [getE3_some HLO.out HG.out, HOK.out]; rfl)
          go_wp2_with fail
          exact bodyPost_ret (gets3_results rfl rfl (((HRX.out.set_ 0 _).set_ 1 _).eq_ rfl)) rfl (GetPost3.no HEE.out (by decide) ((HBX.out.setCell (Nat.le_refl _) _).setCell (Nat.le_refl _) _))
        | true =>
          have HOK := Lib.hid hok
          have r0 := HRX.out.cell 0
          have r1 := HRX.out.cell 1
          have rf0 := HRX.out.frozen 0
          have rf1 := HRX.out.frozen 1
          simp at r0 r1
          clear hok HS6
          go_wp2_with fail
          have hE : getE3 t = 0 := by rw [getE3_some HLO.out HG.out, HOK.out]; rfl
          refine bodyPost_ret (gets3_results (x := .slice A0 n0 c0) (y := .slice Ao fs.length co) (u := .int .i64 0) rfl rfl (((HRX.out.set_ 0 _).set_ 1 _).eq_ rfl)) rfl ⟨.slice A0 n0 c0, .slice Ao fs.length co, by rw [hE], ?_, (HBX.out.setCell (Nat.le_refl _) _).setCell (Nat.le_refl _) _⟩
          have hS3 : getS3 t = ⟨sy, fs⟩ := by rw [getS3, if_pos hE, HG.out]; rfl
          rw [hS3]
          exact get_scheme HRD.out H6.out (by omega) (by simp [World.setCell]) (fun b hb _ => by rw [Below.heap_setCell _ _ _ _ hb, Below.heap_setCell _ _ _ _ hb]) (by omega)
end Go.Proofs.YtbbejhhohppdhaaGreatDoor
