/-
  The reference's reading of schemes: names, its walk.
-/
import Derived.Test.YtbbejhhohppdhaaGreatDoorSRefNmSt
import Derived.Test.YtbbejhhohppdhaaGreatDoorGI
import Derived.Test.YtbbejhhohppdhaaGreatDoorZs
namespace Go.Proofs.YtbbejhhohppdhaaGreatDoor
open Go.RowKit

theorem symP_1 {r : List UInt8} (h : nameP r = none) : symP r = none := by rw [symP, h]
theorem symP_2 {r r1 s : List UInt8} (h : nameP r = some (s, r1)) (h2 : strip [32] r1 = none) : symP r = none := by simp only [symP, h, h2]
theorem symP_3 {r r1 r2 s : List UInt8} (h : nameP r = some (s, r1)) (h2 : strip [32] r1 = some r2) (h3 : numP r2 = none) : symP r = none := by simp only [symP, h, h2, h3]
theorem symP_4 {r r1 r2 r3 s : List UInt8} {n : Nat} (h : nameP r = some (s, r1)) (h2 : strip [32] r1 = some r2) (h3 : numP r2 = some (n, r3)) (h4 : strip [10] r3 = none) : symP r = none := by simp only [symP, h, h2, h3, h4]
theorem symP_5 {r r1 r2 r3 r4 s : List UInt8} {n : Nat} (h : nameP r = some (s, r1)) (h2 : strip [32] r1 = some r2) (h3 : numP r2 = some (n, r3)) (h4 : strip [10] r3 = some r4) : symP r = some (⟨⟨s.toArray⟩, (n : Int)⟩, r4) := by simp only [symP, h, h2, h3, h4]
theorem funL3_1 {r : List UInt8} (h : nameP r = none) : funL3 r = none := by rw [funL3, h]
theorem funL3_2 {r r1 s : List UInt8} (h : nameP r = some (s, r1)) (h2 : strip [32, 58, 32] r1 = none) : funL3 r = none := by simp only [funL3, h, h2]
theorem funL3_3 {r r1 r2 s : List UInt8} (h : nameP r = some (s, r1)) (h2 : strip [32, 58, 32] r1 = some r2) (h3 : parse [] r2 = none) : funL3 r = none := by simp only [funL3, h, h2, h3]
theorem funL3_4 {r r1 r2 r3 s : List UInt8} {x : S} (h : nameP r = some (s, r1)) (h2 : strip [32, 58, 32] r1 = some r2) (h3 : parse [] r2 = some (x, r3)) (h4 : strip [32, 61, 32] r3 = none) : funL3 r = none := by simp only [funL3, h, h2, h3, h4]
theorem funL3_5 {r r1 r2 r3 b s : List UInt8} {x : S} (h : nameP r = some (s, r1)) (h2 : strip [32, 58, 32] r1 = some r2) (h3 : parse [] r2 = some (x, r3)) (h4 : strip [32, 61, 32] r3 = some b) (h5 : r3.dropWhile (fun c => c != 10) = []) : funL3 r = none := by simp only [funL3, h, h2, h3, h4, h5]
theorem funL3_6 {r r1 r2 r3 b s q : List UInt8} {c : UInt8} {x : S} (h : nameP r = some (s, r1)) (h2 : strip [32, 58, 32] r1 = some r2) (h3 : parse [] r2 = some (x, r3)) (h4 : strip [32, 61, 32] r3 = some b) (h5 : r3.dropWhile (fun c => c != 10) = c :: q) : funL3 r = some ((s, x, b), q) := by simp only [funL3, h, h2, h3, h4, h5]
theorem nameP_len {r r1 s : List UInt8} (h : nameP r = some (s, r1)) : s.length ≤ 24 := (nameP_le h).2

set_option maxRecDepth 100000 in
set_option maxHeartbeats 6400000 in
theorem names3_any (t : List UInt8) (w : World) (ht : t.length ≤ 65536) :
    Calls Tryz.prog 35 #[.string ⟨t.toArray⟩] w (NamesPost3 t w) := by
  have hsz : (⟨t.toArray⟩ : ByteArray).size = t.length := rfl
  obtain ⟨i0, hi0, hz0, hz1, hz2⟩ := info_parts sym_info
  obtain ⟨j0, hj0, hy0, hy1, hy2⟩ := info_parts fn_info
  obtain ⟨k0, hk0, hx0, hx1, hx2⟩ := info_parts int_info
  have HZ1 := Lib.hid hz1
  have HZ2 := Lib.hid hz2
  have HY1 := Lib.hid hy1
  have HY2 := Lib.hid hy2
  have HX1 := Lib.hid hx1
  have HX2 := Lib.hid hx2
  clear hz1 hz2 hy1 hy2 hx1 hx2
  have HB := Lib.hid (fun W (b : Nat) (I : Int) (p : List UInt8) (hb : b ≤ t.length + 1) (hp : 1 ≤ p.length ∧ p.length ≤ 10) (hI : I = (b : Int)) => (by subst hI; exact begins3_any t p b W hb ht hp : Calls Tryz.prog 37 #[.string ⟨t.toArray⟩, .int .i64 I, .string ⟨p.toArray⟩] W fun e w' => e = .returned (.bool (strip p (t.drop b)).isSome) ∧ W = w'))
  have HW := Lib.hid (fun W (b : Nat) (I : Int) (hb : b ≤ t.length) (hI : I = (b : Int)) => (by subst hI; exact word3_any t b W hb ht : Calls Tryz.prog 72 #[.string ⟨t.toArray⟩, .int .i64 I] W fun e w' => e = .returned (.int .i64 ((b + ((t.drop b).takeWhile signB).length : Nat) : Int)) ∧ Below W.heap.size W w'))
  have HNm := Lib.hid (fun W (q : List UInt8) (hq : q.length ≤ 65536) => (refName_any ⟨q.toArray⟩ W (by show q.length ≤ maxLen; unfold maxLen; omega) : Calls Tryz.prog 73 #[.string ⟨q.toArray⟩] W fun e w' => e = .returned (.bool (nameB q)) ∧ W = w'))
  have HNu := Lib.hid (fun W (b : Nat) (I : Int) (hb : b ≤ t.length) (hI : I = (b : Int)) => (by subst hI; exact number3_any t b W hb ht : Calls Tryz.prog 74 #[.string ⟨t.toArray⟩, .int .i64 I] W (NumPost3 t b W)))
  have HPa := Lib.hid (fun W (b : Nat) (I : Int) (hb : b ≤ t.length) (hI : I = (b : Int)) => (refParse_any (t.length - b + 1) t I b W hI (by omega) hb ht : Calls Tryz.prog 75 #[.string ⟨t.toArray⟩, .int .i64 I] W (ParsePost t b W)))
  have hN0 : Hid (NmSt w.heap.size [] [] [] (.slice none 0 0) (.slice none 0 0) (.slice none 0 0) [] w ((w.alloc (.cells #[.slice none 0 0, .slice none 0 0] 25)).alloc (.cells #[.slice none 0 0, .slice none 0 0] 25))) := Lib.hid (by
    have h1 := Blk.new (w.alloc (.cells #[.slice none 0 0, .slice none 0 0] 25)) 25 #[.slice none 0 0, .slice none 0 0]
    exact ⟨(Blk.new _ _ _).alloc _, by simpa using h1, RdN.nil _ _, ((Below.refl _ _).alloc (Nat.le_refl _) _).alloc (by simp) _⟩)
  have hL0 : Hid (linesP symWord symP [] t = linesP symWord symP [] (t.drop 0)) := Lib.hid (by rw [List.drop_zero])
  go_enter Tryz.func35, Tryz.ntmps35
  go_wp2_with fail
  go_loopw [7] (fun i wr => ∃ (m : Nat) (sy : List Sy) (v0 : Value), i = .int .i64 (m : Int) ∧ m ≤ t.length ∧ Hid (sy.length ≤ m) ∧ Hid (linesP symWord symP [] t = linesP symWord symP sy (t.drop m)) ∧ Hid (NmSt w.heap.size sy [] [] v0 (.slice none 0 0) (.slice none 0 0) [] w wr)) (fun i _ => t.length - (intOf i).toNat)
  case atStart => exact ⟨0, [], _, rfl, Nat.zero_le _, Lib.hid (Nat.zero_le _), hL0, hN0⟩
  case round =>
    obtain ⟨m, sy, v0, rfl, hm, hsl, hl, HS⟩ := hrel
    go_wp2_with fail
    refine (HB.out _ m _ symWord (by omega) ⟨by decide, by decide⟩ (by first | rfl | simp)).mono ?_
    rintro e w5 ⟨rfl, rfl⟩
    cases hs : strip symWord (t.drop m) with
    | none =>
      have HE := Lib.hid (sym_end hl.out hs)
      clear hs
      have HS0 := HS
      have hsl0 := hsl.out
      have hFS0 : Hid (FunSt t sy [] m) := Lib.hid (by unfold FunSt; exact HE.out)
      clear hl
      go_wp2_with fail
      go_loopw [6, 7] (fun b i wr => ∃ (m : Nat) (xs : List (List UInt8 × S × List UInt8)) (ms : List Nat) (v1 v2 : Value) (us : List Value), b = v2 ∧ i = .int .i64 (m : Int) ∧ m ≤ t.length ∧ Hid (xs.length ≤ m) ∧ Hid (Offs t xs ms) ∧ Hid (FunSt t sy xs m) ∧ Hid (NmSt w.heap.size sy (xs.map bare3) ms v0 v1 v2 us w wr)) (fun _ i _ => t.length - (intOf i).toNat)
      case atStart => exact ⟨m, [], [], _, _, [], rfl, rfl, hm, Lib.hid (Nat.zero_le _), Lib.hid ⟨rfl, fun i m x h => by simp at h⟩, hFS0, HS0⟩
      case round =>
        clear hFS0 HS0 HS HE hsl hsl0 hm
        obtain ⟨m, xs, ms, v1, v2, us, rfl, rfl, hm, hsl, hof, hl, HS⟩ := hrel
        go_wp2_with fail
        refine (HB.out _ m _ funWord (by omega) ⟨by decide, by decide⟩ (by first | rfl | simp)).mono ?_
        rintro e w5 ⟨rfl, rfl⟩
        cases hs : strip funWord (t.drop m) with
        | none =>
          have HE := Lib.hid (hl.out.end_ hs)
          have hS := HS.out
          obtain ⟨Af0, nf0, cf0, hf0⟩ := own_form hS.rd.osy
          obtain ⟨Af1, nf1, cf1, hf1⟩ := own_form hS.rd.ofn
          have r0 := hS.res.cell 0
          have r1 := hS.res.cell 1
          have rf0 := hS.res.frozen 0
          have rf1 := hS.res.frozen 1
          have b0 := hS.box.cell 0
          have b1 := hS.box.cell 1
          simp at r0 r1 b0 b1
          rw [hf0] at b0
          rw [hf1] at b1
          have HRD := HS
          rw [hf0, hf1] at HRD
          have HSR := Lib.hid hS.res
          have HSB := Lib.hid hS.bel
          clear hS hf0 hf1 hs
          by_cases hml : m = t.length
          · have hmb : ((m : Int) == (t.length : Int)) = true := by rw [beq_iff_eq]; omega
            have HNO : Hid (names3 t = some (sy, xs)) := Lib.hid (by rw [HE.out, if_pos (by rw [hml, List.drop_length])])
            clear hml
            go_wp2_with fail
            refine bodyPost_ret (names3_results rfl rfl rfl (((HSR.out.set_ 0 _).set_ 1 _).eq_ rfl)) rfl ⟨_, _, _, true, rfl, ⟨_, _, _, rfl⟩, ⟨_, _, _, rfl⟩, (HSB.out.setCell (Nat.le_refl _) _).setCell (Nat.le_refl _) _, ?_⟩
            rw [HNO.out]
            exact ⟨rfl, ms, us, hof.out, (HRD.out.rd.put (by omega) _).put (by omega) _⟩
          · have hmb : ((m : Int) == (t.length : Int)) = false := by rw [beq_eq_false_iff_ne]; omega
            have HNO : Hid (names3 t = none) := Lib.hid (by
              rw [HE.out, if_neg]
              intro e
              have := congrArg List.length e
              rw [List.length_drop] at this
              simp at this
              omega)
            clear hml
            go_wp2_with fail
            exact bodyPost_ret (names3_results rfl rfl rfl (((HSR.out.set_ 0 _).set_ 1 _).eq_ rfl)) rfl ⟨_, _, _, false, rfl, ⟨_, _, _, rfl⟩, ⟨_, _, _, rfl⟩, (HSB.out.setCell (Nat.le_refl _) _).setCell (Nat.le_refl _) _, by rw [HNO.out]⟩
        | some r =>
          obtain ⟨hdr, hlr⟩ := strip_drop (p := funWord) (by decide) hs
          rw [show m + funWord.length = m + 4 from rfl] at hdr hlr
          obtain ⟨nb, hnb⟩ : ∃ nb, r.takeWhile signB = nb := ⟨_, rfl⟩
          obtain ⟨r1, hr1⟩ : ∃ r1, r.dropWhile signB = r1 := ⟨_, rfl⟩
          have htl := takeWhile_len signB r
          rw [hnb, hr1] at htl
          have hrl : r.length = t.length - (m + 4) := by rw [← hdr, List.length_drop]
          obtain ⟨e1, he1⟩ : ∃ e1 : Nat, m + 4 + nb.length = e1 := ⟨_, rfl⟩
          have he1l : e1 ≤ t.length := by omega
          have hme1 : m + 4 ≤ e1 := by omega
          have hd1 : t.drop e1 = r1 := by
            rw [← he1, ← List.drop_drop, hdr, ← hnb, (tw_split r).2, hr1]
          have hext : (⟨t.toArray⟩ : ByteArray).extract (m + 4) e1 = ⟨nb.toArray⟩ := by
            rw [bytes_sub, hdr, show e1 - (m + 4) = nb.length by omega, ← hnb, (tw_split r).1]
          have hnl : nb.length ≤ 65536 := by omega
          have hnp : nameP r = if nameB nb = true then some (nb, r1) else none := by unfold nameP; rw [hnb, hr1]
          have HW1 := Lib.hid (fun W => by have h := HW.out W (m + 4) ((m : Int) + 4) hlr (by omega); rw [hdr, hnb, he1] at h; exact h)
          have HD1 := Lib.hid hd1
          have i1 : (0 : Int) ≤ (m : Int) + 4 := by omega
          have i2 : (m : Int) + 4 ≤ (e1 : Int) := by omega
          have i3 : (e1 : Int) ≤ (t.length : Int) := by omega
          have i4 : ((m : Int) + 4).toNat = m + 4 := by omega
          have HNB := Lib.hid hnp
          have HMR := Lib.hid hdr
          clear hnb hr1 htl hrl he1 hd1 hnp hdr
          have HNONE := Lib.hid (fun h => hl.out.none_ hs h)
          have HSOME := Lib.hid (fun x q n h hq => hl.out.some_ (x := x) (q := q) (n := n) hs h hq)
          clear hs
          go_wp2_with fail
          refine (HW1.out _).mono ?_
          rintro e w2 ⟨rfl, hb2⟩
          have HS2 := Lib.hid (HS.out.next hb2)
          go_wp2_with fail
          refine (HNm.out _ nb hnl).mono ?_
          rintro e w5 ⟨rfl, rfl⟩
          cases hnm : nameB nb with
          | false =>
            have HNO := Lib.hid (HNONE.out (funL3_1 (by rw [HNB.out, hnm] <;> rfl)))
            have hS := HS2.out
            obtain ⟨Af0, nf0, cf0, hf0⟩ := own_form hS.rd.osy
            obtain ⟨Af1, nf1, cf1, hf1⟩ := own_form hS.rd.ofn
            have r0 := hS.res.cell 0
            have r1 := hS.res.cell 1
            have rf0 := hS.res.frozen 0
            have rf1 := hS.res.frozen 1
            have b0 := hS.box.cell 0
            have b1 := hS.box.cell 1
            simp at r0 r1 b0 b1
            rw [hf0] at b0
            rw [hf1] at b1
            have HF0 := Lib.hid hf0
            have HF1 := Lib.hid hf1
            have HSR := Lib.hid hS.res
            have HSB := Lib.hid hS.bel
            clear hS hf0 hf1
            go_wp2_with fail
            exact bodyPost_ret (names3_results rfl rfl rfl (((HSR.out.set_ 0 _).set_ 1 _).eq_ rfl)) rfl ⟨_, _, _, false, rfl, ⟨_, _, _, rfl⟩, ⟨_, _, _, rfl⟩, (HSB.out.setCell (Nat.le_refl _) _).setCell (Nat.le_refl _) _, by rw [HNO.out]⟩
          | true =>
            have HNA : Hid (nameP r = some (nb, r1)) := Lib.hid (by rw [HNB.out, hnm] <;> rfl)
            clear hnm
            go_wp2_with fail
            refine (HB.out _ e1 _ [32, 58, 32] (by omega) ⟨by decide, by decide⟩ (by first | rfl | simp)).mono ?_
            rintro e w5 ⟨rfl, rfl⟩
            rw [HD1.out]
            cases hs2 : strip [32, 58, 32] r1 with
            | none =>
              have HNO := Lib.hid (HNONE.out (funL3_2 HNA.out hs2))
              clear hs2
              have hS := HS2.out
              obtain ⟨Af0, nf0, cf0, hf0⟩ := own_form hS.rd.osy
              obtain ⟨Af1, nf1, cf1, hf1⟩ := own_form hS.rd.ofn
              have r0 := hS.res.cell 0
              have r1 := hS.res.cell 1
              have rf0 := hS.res.frozen 0
              have rf1 := hS.res.frozen 1
              have b0 := hS.box.cell 0
              have b1 := hS.box.cell 1
              simp at r0 r1 b0 b1
              rw [hf0] at b0
              rw [hf1] at b1
              have HF0 := Lib.hid hf0
              have HF1 := Lib.hid hf1
              have HSR := Lib.hid hS.res
              have HSB := Lib.hid hS.bel
              clear hS hf0 hf1
              go_wp2_with fail
              exact bodyPost_ret (names3_results rfl rfl rfl (((HSR.out.set_ 0 _).set_ 1 _).eq_ rfl)) rfl ⟨_, _, _, false, rfl, ⟨_, _, _, rfl⟩, ⟨_, _, _, rfl⟩, (HSB.out.setCell (Nat.le_refl _) _).setCell (Nat.le_refl _) _, by rw [HNO.out]⟩
            | some r2 =>
              obtain ⟨hdr2, hlr2⟩ := strip_drop (p := [32, 58, 32]) (by decide) ((congrArg (strip [32, 58, 32]) HD1.out).trans hs2)
              rw [show e1 + ([32, 58, 32] : List UInt8).length = e1 + 3 from rfl] at hdr2 hlr2
              have HR2 := Lib.hid hs2
              have HD2 := Lib.hid hdr2
              clear hs2 hdr2
              go_wp2_with fail
              refine (HPa.out _ (e1 + 3) _ hlr2 (by first | rfl | simp)).mono ?_
              rintro e w3 hmt
              unfold ParsePost at hmt
              rw [HD2.out] at hmt
              cases hn : parse [] r2 with
              | none =>
                rw [hn] at hmt
                obtain ⟨Ax, nx, cx, ix, rfl, hb3⟩ := hmt
                have HS3 := Lib.hid ((HS2.out.next hb3).next ((Below.refl _ _).alloc (Nat.le_refl _) (.cells #[.slice Ax nx cx] 62)))
                have HNO := Lib.hid (HNONE.out (funL3_3 HNA.out HR2.out hn))
                clear hn
                have hS := HS3.out
                obtain ⟨Af0, nf0, cf0, hf0⟩ := own_form hS.rd.osy
                obtain ⟨Af1, nf1, cf1, hf1⟩ := own_form hS.rd.ofn
                have r0 := hS.res.cell 0
                have r1 := hS.res.cell 1
                have rf0 := hS.res.frozen 0
                have rf1 := hS.res.frozen 1
                have b0 := hS.box.cell 0
                have b1 := hS.box.cell 1
                simp at r0 r1 b0 b1
                rw [hf0] at b0
                rw [hf1] at b1
                have HF0 := Lib.hid hf0
                have HF1 := Lib.hid hf1
                have HSR := Lib.hid hS.res
                have HSB := Lib.hid hS.bel
                clear hS hf0 hf1
                go_wp2_with fail
                exact bodyPost_ret (names3_results rfl rfl rfl (((HSR.out.set_ 0 _).set_ 1 _).eq_ rfl)) rfl ⟨_, _, _, false, rfl, ⟨_, _, _, rfl⟩, ⟨_, _, _, rfl⟩, (HSB.out.setCell (Nat.le_refl _) _).setCell (Nat.le_refl _) _, by rw [HNO.out]⟩
              | some y =>
                obtain ⟨x, r3⟩ := y
                rw [hn] at hmt
                obtain ⟨vx, fp, nx, rfl, hdn, hnx, hsep, hnd, hfp, hb3⟩ := hmt
                obtain ⟨Ax, mx, cx, rfl⟩ := hsep.form
                have HN := Lib.hid hn
                have hz2 := HS2.out.res.lt
                have hw2z : w.heap.size + 2 ≤ w2.heap.size := by have := HS2.out.box.lt; omega
                have hb3z := hb3.size
                have HS3 := Lib.hid ((HS2.out.next hb3).next ((Below.refl _ _).alloc (Nat.le_refl _) (.cells #[.slice Ax mx cx] 62)))
                have HSEP : Hid (x.Sep (w3.alloc (.cells #[.slice Ax mx cx] 62)) (.slice Ax mx cx) fp) := Lib.hid (hsep.keep _ (fun b hb => Below.heap_alloc _ _ _ (hfp b hb).2))
                have HND := Lib.hid hnd
                have HFP := Lib.hid hfp
                have HDN := Lib.hid hdn
                have hSB := Blk.new w3 62 #[.slice Ax mx cx]
                have c0 := hSB.cell 0
                simp at c0
                clear hn hsep hnd hfp hdn
                go_wp2_with fail
                refine (HB.out _ nx _ [32, 61, 32] (by omega) ⟨by decide, by decide⟩ (by first | rfl | simp)).mono ?_
                rintro e w5 ⟨rfl, rfl⟩
                rw [HDN.out]
                cases hs3 : strip [32, 61, 32] r3 with
                | none =>
                  have HNO := Lib.hid (HNONE.out (funL3_4 HNA.out HR2.out HN.out hs3))
                  clear hs3
                  have hS := HS3.out
                  obtain ⟨Af0, nf0, cf0, hf0⟩ := own_form hS.rd.osy
                  obtain ⟨Af1, nf1, cf1, hf1⟩ := own_form hS.rd.ofn
                  have r0 := hS.res.cell 0
                  have r1 := hS.res.cell 1
                  have rf0 := hS.res.frozen 0
                  have rf1 := hS.res.frozen 1
                  have b0 := hS.box.cell 0
                  have b1 := hS.box.cell 1
                  simp at r0 r1 b0 b1
                  rw [hf0] at b0
                  rw [hf1] at b1
                  have HF0 := Lib.hid hf0
                  have HF1 := Lib.hid hf1
                  have HSR := Lib.hid hS.res
                  have HSB := Lib.hid hS.bel
                  clear hS hf0 hf1
                  go_wp2_with fail
                  exact bodyPost_ret (names3_results rfl rfl rfl (((HSR.out.set_ 0 _).set_ 1 _).eq_ rfl)) rfl ⟨_, _, _, false, rfl, ⟨_, _, _, rfl⟩, ⟨_, _, _, rfl⟩, (HSB.out.setCell (Nat.le_refl _) _).setCell (Nat.le_refl _) _, by rw [HNO.out]⟩
                | some b =>
                  obtain ⟨hdr4, hlr4⟩ := strip_drop (p := [32, 61, 32]) (by decide) ((congrArg (strip [32, 61, 32]) HDN.out).trans hs3)
                  rw [show nx + ([32, 61, 32] : List UInt8).length = nx + 3 from rfl] at hdr4 hlr4
                  have HD4 := Lib.hid hdr4
                  have HR4 := Lib.hid hs3
                  have hmn : m < nx := by
                    have h1 := parse_le HN.out
                    rw [← HD2.out, ← HDN.out, List.length_drop, List.length_drop] at h1
                    omega
                  have hnl24 : nb.length ≤ 24 := nameP_len HNA.out
                  have hsl1 := hsl.out
                  have hmsb : ms.length ≤ m := by have h1 := hof.out.1; have h2 := hsl.out; omega
                  have b1 := HS3.out.box.cell 1
                  simp at b1
                  have own1 := HS3.out.rd.ofn
                  simp only [List.length_map] at own1
                  have hvl : ∀ b, v1.ownBlock = some b → w.heap.size + 2 ≤ b ∧ b < (w3.alloc (.cells #[.slice Ax mx cx] 62)).heap.size := fun b hb => HS3.out.rd.ofn.lt b hb
                  have hv0 : ∀ b, v0.ownBlock = some b → b < w2.heap.size := fun b hb => (HS2.out.rd.osy.lt b hb).2
                  have hv1 : ∀ b, v1.ownBlock = some b → b < w2.heap.size := fun b hb => (HS2.out.rd.ofn.lt b hb).2
                  have hv2 : ∀ b, u6.ownBlock = some b → b < w2.heap.size := fun b hb => (HS2.out.rd.obs.lt b hb).2
                  have hbx := HS3.out.box.lt
                  have hmx : nx < t.length := by
                    have := congrArg List.length HDN.out
                    have h4 := strip_len hs3
                    rw [List.length_drop] at this
                    simp at h4
                    omega
                  simp only [World.size_alloc] at hvl hbx
                  clear hs3 hdr4 hSB
                  go_upto_region 23 with
                    (at_builtin
                     refine wpList_append_lies _ rfl (.tmp 107) (.tmp 111) _ rfl (w.heap.size + 2) 64 j0 _ 5 80 Tryz.underlying23 hj0 hy0 HY1.out HY2.out rfl (by omega) v1 _ us (by rfl) (own1.alloc _)
                          ⟨w3.heap.size + 1, 0, none⟩ 1 1 [.string ⟨nb.toArray⟩, .slice Ax mx cx, .int .i64 0, .int .i64 0, .slice none 0 0] (by rfl) (by rfl) (World.news_of_block (cs := #[.string ⟨nb.toArray⟩, .slice Ax mx cx, .int .i64 0, .int .i64 0, .slice none 0 0]) (t := 64) (fr := (0, 0)) (by have := heap_alloc_new (w3.alloc (.cells #[.slice Ax mx cx] 62)) (.cells #[.string ⟨nb.toArray⟩, .slice Ax mx cx, .int .i64 0, .int .i64 0, .slice none 0 0] 64); simpa using this)) (by simp [Value.oneCell']) (by omega) (by simp only [maxLen]; omega) (by omega) (by simp; omega) (w3.heap.size + 1 + 1) (by simp) ?_
                     intro gg cap2 w4 hown4 hgrow hat4 hlt4'
                     have hbx4 : Blk w4 (w.heap.size + 1) 25 #[v0, v1] := (hgrow.block _ (by simp; omega) (fun e => by have := hvl _ e.symm; omega)).trans (HS3.out.box.alloc _)
                     have s1 := hbx4.cell 1
                     have s5 := hbx4.frozen 1
                     simp at s1)
                  have HN4 := Lib.hid (HS3.out.pushFn ⟨⟨nb.toArray⟩, x, .mk 0 0 []⟩ rfl (by show nb.length ≤ maxLen; unfold maxLen; omega) HSEP.out HND.out (fun k hk => by
                    have h1 := HFP.out k hk
                    refine ⟨by omega, by simp; omega, fun e => ?_, fun e => ?_, fun e => ?_⟩
                    · have := hv0 _ e; omega
                    · have := hv1 _ e; omega
                    · have := hv2 _ e; omega) (by simpa using hown4) hgrow (by simpa using hat4) hlt4')
                  have own6 := HN4.out.rd.obs
                  have hvl6 : ∀ b, u6.ownBlock = some b → w.heap.size + 2 ≤ b ∧ b < w4.heap.size := fun b hb => by simpa [World.setCell] using HN4.out.rd.obs.lt b hb
                  have hw4z : w.heap.size + 2 ≤ w4.heap.size := by have := HN4.out.box.lt; simp [World.setCell] at this; omega
                  go_wp2_with
                    (at_builtin
                     refine wpList_append_lies _ rfl (.tmp 114) (.tmp 117) _ rfl (w.heap.size + 2) 3 k0 _ 1 8 Tryz.underlying43 hk0 hx0 HX1.out HX2.out rfl (by omega) u6 _ _ (by rfl) (own6.alloc _)
                          ⟨w4.heap.size, 0, none⟩ 1 1 [.int .i64 ((nx : Int) + 3)] (by rfl) (by rfl) (World.news_of_block (cs := #[.int .i64 ((nx : Int) + 3)]) (t := 3) (fr := (0, 0)) (by have := heap_alloc_new (w4.setCell ⟨w.heap.size + 1, 1, none⟩ (.slice (some ⟨gg, 0, none⟩) (xs.length + 1) cap2)) (.cells #[.int .i64 ((nx : Int) + 3)] 3); simpa [World.setCell] using this)) (by simp [Value.oneCell']) (by omega) (by simp only [maxLen]; omega) (by omega) (by simp [World.setCell]; omega) (w4.heap.size + 1) (by simp [World.setCell]) ?_
                     intro g6 cap6 w6 hown6 hgrow6 hat6 hlt6
                     have HN6 := Lib.hid (HN4.out.pushMs (nx + 3) (by simpa using hown6) hgrow6 (by simpa [World.setCell] using hat6) hlt6))
                  clear hown4 hgrow hat4 hlt4' hbx4 s1 s5 own6 hvl6 hw4z hown6 hgrow6 hat6 hlt6 own1 b1 c0 hvl hv0 hv1 hv2 hbx
                  go_loopw [7] (fun i wr2 => ∃ m2 : Nat, i = .int .i64 (m2 : Int) ∧ nx ≤ m2 ∧ m2 ≤ t.length ∧ Hid ((r3.take (m2 - nx)).all (fun c => c != 10) = true) ∧ Hid (Below w6.heap.size w6 wr2)) (fun i _ => t.length - (intOf i).toNat)
                  case atStart => exact ⟨nx, rfl, Nat.le_refl _, hnx, Lib.hid (by simp), Lib.hid (Below.refl _ _)⟩
                  case round =>
                    obtain ⟨m2, rfl, hn2, hm2, hall, hbl⟩ := hrel
                    have HN7 := Lib.hid (HN6.out.next hbl.out)
                    by_cases hlt : m2 < t.length
                    · have hx := bytes_at (⟨t.toArray⟩ : ByteArray) m2 hlt
                      have hxd : r3[m2 - nx]? = some ((⟨t.toArray⟩ : ByteArray)[m2]'hlt) := by
                        rw [← HDN.out, List.getElem?_drop, show nx + (m2 - nx) = m2 by omega]; exact hx
                      have hlt' : (m2 : Int) < (t.length : Int) := by omega
                      have hge0 : (0 : Int) ≤ (m2 : Int) := by omega
                      have hneq : ((m2 : Int) == (t.length : Int)) = false := by rw [beq_eq_false_iff_ne]; omega
                      by_cases h10 : (⟨t.toArray⟩ : ByteArray)[m2]'hlt = 10
                      · have c10 : (((((⟨t.toArray⟩ : ByteArray)[m2]'hlt).toNat : Int)) != 10) = false := by rw [h10]; rfl
                        have hst := run_stop hall.out hxd (by rw [h10]; rfl)
                        have hdw : r3.dropWhile (fun c => c != 10) = 10 :: t.drop (m2 + 1) := by
                          have h1 := (tw_split (p := fun c : UInt8 => c != 10) r3).2
                          rw [hst, ← HDN.out, List.drop_drop, show nx + (m2 - nx) = m2 by omega] at h1
                          rw [← HDN.out, ← h1, List.drop_eq_getElem_cons hlt]
                          have h2 : t[m2]? = some ((⟨t.toArray⟩ : ByteArray)[m2]'hlt) := hx
                          rw [List.getElem?_eq_getElem hlt] at h2
                          rw [Option.some.inj h2, h10]
                        have HF := Lib.hid (HSOME.out _ _ (m2 + 1) (funL3_6 HNA.out HR2.out HN.out HR4.out hdw) rfl)
                        have hml : m < m2 + 1 := by omega
                        clear hx hxd hst hdw h10
                        go_wp2_with fail
                        go_roundw
                        case rel =>
                          exact ⟨m2 + 1, xs ++ [(nb, x, b)], ms ++ [nx + 3], _, _, _, rfl, by go_num, by omega, Lib.hid (by simp; omega), Lib.hid (hof.out.snoc hlr4 HD4.out), HF, Lib.hid (by rw [List.map_append, List.map_cons, List.map_nil]; exact HN7.out)⟩
                        case measure => simp [intOf]; omega
                      · have c10 : (((((⟨t.toArray⟩ : ByteArray)[m2]'hlt).toNat : Int)) != 10) = true := by
                          rw [bne_iff_ne]
                          intro e
                          refine h10 ?_
                          rw [← UInt8.toNat_inj]
                          show _ = 10
                          omega
                        have hmore := run_more hall.out hxd (by rw [bne_iff_ne]; exact h10)
                        rw [show m2 - nx + 1 = m2 + 1 - nx by omega] at hmore
                        have HM := Lib.hid hmore
                        clear hx hxd hmore h10
                        go_wp2_with fail
                        go_roundw
                        case rel => exact ⟨m2 + 1, by go_num, by omega, by omega, HM, hbl⟩
                        case measure => simp [intOf]; omega
                    · have hneq : ((m2 : Int) == (t.length : Int)) = true := by rw [beq_iff_eq]; omega
                      have hge : decide ((m2 : Int) < (t.length : Int)) = false := decide_eq_false (by omega)
                      have hdw : r3.dropWhile (fun c => c != 10) = [] := by
                        have hl3 : r3.length = t.length - nx := by rw [← HDN.out, List.length_drop]
                        have h1 := run_end hall.out (by omega)
                        have h2 := (tw_split (p := fun c : UInt8 => c != 10) r3).2
                        rw [h1, List.drop_length] at h2
                        exact h2.symm
                      have HNO := Lib.hid (HNONE.out (funL3_5 HNA.out HR2.out HN.out HR4.out hdw))
                      clear hdw
                      have hS := HN7.out
                      obtain ⟨Af0, nf0, cf0, hf0⟩ := own_form hS.rd.osy
                      obtain ⟨Af1, nf1, cf1, hf1⟩ := own_form hS.rd.ofn
                      have r0 := hS.res.cell 0
                      have r1 := hS.res.cell 1
                      have rf0 := hS.res.frozen 0
                      have rf1 := hS.res.frozen 1
                      have b0 := hS.box.cell 0
                      have b1 := hS.box.cell 1
                      simp at r0 r1 b0 b1
                      rw [hf0] at b0
                      rw [hf1] at b1
                      have HF0 := Lib.hid hf0
                      have HF1 := Lib.hid hf1
                      have HSR := Lib.hid hS.res
                      have HSB := Lib.hid hS.bel
                      clear hS hf0 hf1
                      go_wp2_with fail
                      exact bodyPost_ret (names3_results rfl rfl rfl (((HSR.out.set_ 0 _).set_ 1 _).eq_ rfl)) rfl ⟨_, _, _, false, rfl, ⟨_, _, _, rfl⟩, ⟨_, _, _, rfl⟩, (HSB.out.setCell (Nat.le_refl _) _).setCell (Nat.le_refl _) _, by rw [HNO.out]⟩
    | some r =>
      obtain ⟨hdr, hlr⟩ := strip_drop (p := symWord) (by decide) hs
      rw [show m + symWord.length = m + 7 from rfl] at hdr hlr
      obtain ⟨nb, hnb⟩ : ∃ nb, r.takeWhile signB = nb := ⟨_, rfl⟩
      obtain ⟨r1, hr1⟩ : ∃ r1, r.dropWhile signB = r1 := ⟨_, rfl⟩
      have htl := takeWhile_len signB r
      rw [hnb, hr1] at htl
      have hrl : r.length = t.length - (m + 7) := by rw [← hdr, List.length_drop]
      obtain ⟨e1, he1⟩ : ∃ e1 : Nat, m + 7 + nb.length = e1 := ⟨_, rfl⟩
      have he1l : e1 ≤ t.length := by omega
      have hme1 : m + 7 ≤ e1 := by omega
      have hd1 : t.drop e1 = r1 := by
        rw [← he1, ← List.drop_drop, hdr, ← hnb, (tw_split r).2, hr1]
      have hext : (⟨t.toArray⟩ : ByteArray).extract (m + 7) e1 = ⟨nb.toArray⟩ := by
        rw [bytes_sub, hdr, show e1 - (m + 7) = nb.length by omega, ← hnb, (tw_split r).1]
      have hnl : nb.length ≤ 65536 := by omega
      have hnp : nameP r = if nameB nb = true then some (nb, r1) else none := by unfold nameP; rw [hnb, hr1]
      have HW1 := Lib.hid (fun W => by have h := HW.out W (m + 7) ((m : Int) + 7) hlr (by omega); rw [hdr, hnb, he1] at h; exact h)
      have HD1 := Lib.hid hd1
      have i1 : (0 : Int) ≤ (m : Int) + 7 := by omega
      have i2 : (m : Int) + 7 ≤ (e1 : Int) := by omega
      have i3 : (e1 : Int) ≤ (t.length : Int) := by omega
      have i4 : ((m : Int) + 7).toNat = m + 7 := by omega
      have HNB := Lib.hid hnp
      have HMR := Lib.hid hdr
      clear hnb hr1 htl hrl he1 hd1 hnp hdr
      have HNONE := Lib.hid (fun h => sym_none hl.out hs h)
      have HSOME := Lib.hid (fun x q h => sym_some (x := x) (q := q) hl.out hs h)
      clear hs
      go_wp2_with fail
      refine (HW1.out _).mono ?_
      rintro e w2 ⟨rfl, hb2⟩
      have HS2 := Lib.hid (HS.out.next hb2)
      go_wp2_with fail
      refine (HNm.out _ nb hnl).mono ?_
      rintro e w5 ⟨rfl, rfl⟩
      cases hnm : nameB nb with
      | false =>
        have HNO := Lib.hid (HNONE.out (symP_1 (by rw [HNB.out, hnm] <;> rfl)))
        have hS := HS2.out
        obtain ⟨Af0, nf0, cf0, hf0⟩ := own_form hS.rd.osy
        obtain ⟨Af1, nf1, cf1, hf1⟩ := own_form hS.rd.ofn
        have r0 := hS.res.cell 0
        have r1 := hS.res.cell 1
        have rf0 := hS.res.frozen 0
        have rf1 := hS.res.frozen 1
        have b0 := hS.box.cell 0
        have b1 := hS.box.cell 1
        simp at r0 r1 b0 b1
        rw [hf0] at b0
        rw [hf1] at b1
        have HF0 := Lib.hid hf0
        have HF1 := Lib.hid hf1
        have HSR := Lib.hid hS.res
        have HSB := Lib.hid hS.bel
        clear hS hf0 hf1
        go_wp2_with fail
        exact bodyPost_ret (names3_results rfl rfl rfl (((HSR.out.set_ 0 _).set_ 1 _).eq_ rfl)) rfl ⟨_, _, _, false, rfl, ⟨_, _, _, rfl⟩, ⟨_, _, _, rfl⟩, (HSB.out.setCell (Nat.le_refl _) _).setCell (Nat.le_refl _) _, by rw [HNO.out]⟩
      | true =>
        have HNA : Hid (nameP r = some (nb, r1)) := Lib.hid (by rw [HNB.out, hnm] <;> rfl)
        clear hnm
        go_wp2_with fail
        refine (HB.out _ e1 _ [32] (by omega) ⟨by decide, by decide⟩ (by first | rfl | simp)).mono ?_
        rintro e w5 ⟨rfl, rfl⟩
        rw [HD1.out]
        cases hs2 : strip [32] r1 with
        | none =>
          have HNO := Lib.hid (HNONE.out (symP_2 HNA.out hs2))
          clear hs2
          have hS := HS2.out
          obtain ⟨Af0, nf0, cf0, hf0⟩ := own_form hS.rd.osy
          obtain ⟨Af1, nf1, cf1, hf1⟩ := own_form hS.rd.ofn
          have r0 := hS.res.cell 0
          have r1 := hS.res.cell 1
          have rf0 := hS.res.frozen 0
          have rf1 := hS.res.frozen 1
          have b0 := hS.box.cell 0
          have b1 := hS.box.cell 1
          simp at r0 r1 b0 b1
          rw [hf0] at b0
          rw [hf1] at b1
          have HF0 := Lib.hid hf0
          have HF1 := Lib.hid hf1
          have HSR := Lib.hid hS.res
          have HSB := Lib.hid hS.bel
          clear hS hf0 hf1
          go_wp2_with fail
          exact bodyPost_ret (names3_results rfl rfl rfl (((HSR.out.set_ 0 _).set_ 1 _).eq_ rfl)) rfl ⟨_, _, _, false, rfl, ⟨_, _, _, rfl⟩, ⟨_, _, _, rfl⟩, (HSB.out.setCell (Nat.le_refl _) _).setCell (Nat.le_refl _) _, by rw [HNO.out]⟩
        | some r2 =>
          obtain ⟨hdr2, hlr2⟩ := strip_drop (p := [32]) (by decide) ((congrArg (strip [32]) HD1.out).trans hs2)
          rw [show e1 + ([32] : List UInt8).length = e1 + 1 from rfl] at hdr2 hlr2
          have HR2 := Lib.hid hs2
          have HD2 := Lib.hid hdr2
          clear hs2 hdr2
          go_wp2_with fail
          refine (HNu.out _ (e1 + 1) _ hlr2 (by first | rfl | simp)).mono ?_
          rintro e w3 ⟨hmt, hb3⟩
          have HS3 := Lib.hid (HS2.out.next hb3)
          rw [HD2.out] at hmt
          cases hn : numP r2 with
          | none =>
            rw [hn] at hmt
            obtain ⟨n, nx, rfl, hnx⟩ := hmt
            have HNO := Lib.hid (HNONE.out (symP_3 HNA.out HR2.out hn))
            clear hn
            have hS := HS3.out
            obtain ⟨Af0, nf0, cf0, hf0⟩ := own_form hS.rd.osy
            obtain ⟨Af1, nf1, cf1, hf1⟩ := own_form hS.rd.ofn
            have r0 := hS.res.cell 0
            have r1 := hS.res.cell 1
            have rf0 := hS.res.frozen 0
            have rf1 := hS.res.frozen 1
            have b0 := hS.box.cell 0
            have b1 := hS.box.cell 1
            simp at r0 r1 b0 b1
            rw [hf0] at b0
            rw [hf1] at b1
            have HF0 := Lib.hid hf0
            have HF1 := Lib.hid hf1
            have HSR := Lib.hid hS.res
            have HSB := Lib.hid hS.bel
            clear hS hf0 hf1
            go_wp2_with fail
            exact bodyPost_ret (names3_results rfl rfl rfl (((HSR.out.set_ 0 _).set_ 1 _).eq_ rfl)) rfl ⟨_, _, _, false, rfl, ⟨_, _, _, rfl⟩, ⟨_, _, _, rfl⟩, (HSB.out.setCell (Nat.le_refl _) _).setCell (Nat.le_refl _) _, by rw [HNO.out]⟩
          | some y =>
            obtain ⟨n, r3⟩ := y
            rw [hn] at hmt
            obtain ⟨nx, rfl, hdn, hnx⟩ := hmt
            have HN := Lib.hid hn
            clear hn
            go_wp2_with fail
            refine (HB.out _ nx _ [10] (by omega) ⟨by decide, by decide⟩ (by first | rfl | simp)).mono ?_
            rintro e w5 ⟨rfl, rfl⟩
            rw [hdn]
            cases hs3 : strip [10] r3 with
            | none =>
              have HNO := Lib.hid (HNONE.out (symP_4 HNA.out HR2.out HN.out hs3))
              clear hs3
              have hS := HS3.out
              obtain ⟨Af0, nf0, cf0, hf0⟩ := own_form hS.rd.osy
              obtain ⟨Af1, nf1, cf1, hf1⟩ := own_form hS.rd.ofn
              have r0 := hS.res.cell 0
              have r1 := hS.res.cell 1
              have rf0 := hS.res.frozen 0
              have rf1 := hS.res.frozen 1
              have b0 := hS.box.cell 0
              have b1 := hS.box.cell 1
              simp at r0 r1 b0 b1
              rw [hf0] at b0
              rw [hf1] at b1
              have HF0 := Lib.hid hf0
              have HF1 := Lib.hid hf1
              have HSR := Lib.hid hS.res
              have HSB := Lib.hid hS.bel
              clear hS hf0 hf1
              go_wp2_with fail
              exact bodyPost_ret (names3_results rfl rfl rfl (((HSR.out.set_ 0 _).set_ 1 _).eq_ rfl)) rfl ⟨_, _, _, false, rfl, ⟨_, _, _, rfl⟩, ⟨_, _, _, rfl⟩, (HSB.out.setCell (Nat.le_refl _) _).setCell (Nat.le_refl _) _, by rw [HNO.out]⟩
            | some r4 =>
              obtain ⟨hdr4, hlr4⟩ := strip_drop (p := [10]) (by decide) ((congrArg (strip [10]) hdn).trans hs3)
              rw [show nx + ([10] : List UInt8).length = nx + 1 from rfl] at hdr4 hlr4
              have HL2 := Lib.hid (HSOME.out _ _ (symP_5 HNA.out HR2.out HN.out hs3))
              have hlt4 : m < nx + 1 := by
                have h1 := symP_le (symP_5 HNA.out HR2.out HN.out hs3)
                rw [← HMR.out, ← hdr4, List.length_drop, List.length_drop] at h1
                omega
              have HD4 := Lib.hid hdr4
              have hnl24 : nb.length ≤ 24 := nameP_len HNA.out
              have hsl1 := hsl.out
              have b0 := HS3.out.box.cell 0
              simp at b0
              have own1 := HS3.out.rd.osy
              have hvl : ∀ b, v0.ownBlock = some b → w.heap.size + 2 ≤ b ∧ b < w3.heap.size := fun b hb => HS3.out.rd.osy.lt b hb
              have hbx := HS3.out.box.lt
              clear hs3 hdr4 hdn
              go_wp2_with
                (at_builtin
                 refine wpList_append_lies _ rfl _ _ _ rfl (w.heap.size + 2) 98 i0 _ 2 24 Tryz.underlying22 hi0 hz0 HZ1.out HZ2.out rfl (by omega) v0 _ (syCells sy) (by rfl) (own1.alloc _)
                   ⟨w3.heap.size, 0, none⟩ 1 1 [.string ⟨nb.toArray⟩, .int .i64 (n : Int)] (by rfl) (by rfl) (World.news_of_block (cs := #[.string ⟨nb.toArray⟩, .int .i64 (n : Int)]) (t := 98) (fr := (0, 0)) (heap_alloc_new w3 _)) (by simp [Value.oneCell']) (by omega) (by simp only [maxLen]; omega) (by omega) (by simp; omega) (w3.heap.size + 1) (by simp) ?_
                 intro gg cap2 w4 hown4 hgrow hat4 hlt4'
                 have hbx4 : Blk w4 (w.heap.size + 1) 25 #[v0, .slice none 0 0] := (hgrow.block _ (by simp; omega) (fun e => by have := hvl _ e.symm; omega)).trans (HS3.out.box.alloc _)
                 have s1 := hbx4.cell 0
                 have s5 := hbx4.frozen 0
                 simp at s1)
              go_roundw
              case rel =>
                exact ⟨nx + 1, sy ++ [⟨⟨nb.toArray⟩, (n : Int)⟩], _, by go_num, by omega, Lib.hid (by simp; omega), Lib.hid (by rw [HD4.out]; exact HL2.out), Lib.hid (HS3.out.pushSy ⟨⟨nb.toArray⟩, (n : Int)⟩ (by show nb.length ≤ maxLen; unfold maxLen; omega) hown4 hgrow hat4 hlt4')⟩
              case measure => simp [intOf]; omega
end Go.Proofs.YtbbejhhohppdhaaGreatDoor
