/-
  infer.Check: a contract.
-/
import Derived.Test.YtkkfdiidneoelaaDoorIBody
import Derived.Test.YtkkfdiidneoelaaDoorIDiff
import Derived.Test.YtkkfdiidneoelaaDoorChecks
namespace Go.Proofs.YtkkfdiidneoelaaDoor
open Go.RowKit

/-- A loose function over so many functions and symbols. -/
def Lz.fits (b c : Nat) (f : Lz) : Bool := decide (0 ≤ f.params) && (decide (f.params ≤ 8) && bodyIn f.params.toNat b c f.body)
def lzStart : List Lz → Bool
  | [] => false
  | f :: _ => decide (f.params = 0)
/-- They are loose functions over symbols. -/
def lzOk (syms : List Sy) (l : List Lz) : Bool := decide (l.length ≤ 64) && (diffFrom [] (l.map lznm) && (lzStart l && l.all (Lz.fits l.length syms.length)))
def checkI (syms : List Sy) (l : List Lz) : Int := if symsB syms = true then (if lzOk syms l = true then 0 else 4) else 2
theorem all_succ {α : Type} {p : α → Bool} {l : List α} {k : Nat} {x : α} (hx : l[k]? = some x) (h : (l.take k).all p = true) (h1 : p x = true) : (l.take (k + 1)).all p = true := by
  rw [List.take_add_one, hx, List.all_append, h]; simp [h1]
theorem all_no {α : Type} {p : α → Bool} {l : List α} {k : Nat} {x : α} (hx : l[k]? = some x) (h : p x = false) : l.all p = false := by
  rw [Bool.eq_false_iff]
  intro hh
  rw [List.all_eq_true] at hh
  have := hh x (List.mem_of_getElem? hx)
  rw [h] at this; cases this
/-- The map of heads, as it stands ahead of a function. -/
def HMap (w : World) (bm k : Nat) (b c : Nat) : Prop := ∃ f, MapI w bm (2 + k) f ∧ ∀ i, i ≠ 0 → f i = headsF 0 b c i
theorem HMap.put {w : World} {bm k b c : Nat} (h : HMap w bm k b c) (hk : k < 1000) {x : Int} (hx : fit64 x) :
    ∃ w', (Instr.mapUpdate 66 (.map (some bm)) (.int .i64 0) (.int .i64 x)).run Tryd.prog w = .ok () w' ∧ HMap w' bm (k + 1) b c ∧ (∀ a : Nat, x = (a : Int) → MapI w' bm (2 + k + 1) (headsF a b c)) ∧ w.grownBy w' (some bm) := by
  obtain ⟨f, h1, h2⟩ := h
  obtain ⟨w', hrun, h3, hg⟩ := h1.put (by omega) (k := 0) ⟨by decide, by decide⟩ hx
  refine ⟨w', hrun, ⟨_, h3, fun i hi => by simp [putI, hi, h2 i hi]⟩, fun a ha => ?_, hg⟩
  have e : putI f 0 x = headsF a b c := by
    funext i
    by_cases hi : i = 0
    · subst hi; simp [putI, headsF, ha]
    · simp [putI, hi, h2 i hi, headsF]
  rw [← e]; exact h3
theorem HMap.made (w : World) (b c : Nat) (hb : b ≤ 1000000) (hc : c ≤ 1000000) : ∃ w1 w2, (Instr.mapUpdate 66 (.map (some w.heap.size)) (.int .i64 1) (.int .i64 (b : Int))).run Tryd.prog (w.alloc (.map #[] 0)) = .ok () w1 ∧
    (Instr.mapUpdate 66 (.map (some w.heap.size)) (.int .i64 2) (.int .i64 (c : Int))).run Tryd.prog w1 = .ok () w2 ∧ HMap w2 w.heap.size 0 b c ∧ Below w.heap.size w w2 := by
  obtain ⟨w1, r1, m1, g1⟩ := (MapI.made w).put (by omega) (k := 1) (x := (b : Int)) ⟨by decide, by decide⟩ ⟨by omega, by omega⟩
  obtain ⟨w2, r2, m2, g2⟩ := m1.put (by omega) (k := 2) (x := (c : Int)) ⟨by decide, by decide⟩ ⟨by omega, by omega⟩
  have b1 : Below w.heap.size w w1 := ((Below.refl _ _).alloc (Nat.le_refl _) _).grown g1 (by simp) (fun b hb => by injection hb with hb; omega)
  refine ⟨w1, w2, r1, r2, ⟨_, m2, fun i hi => ?_⟩, b1.grown g2 b1.size (fun b hb => by injection hb with hb; omega)⟩
  by_cases h2 : i = 2
  · subst h2; simp [putI, headsF]
  · by_cases h1 : i = 1
    · subst h1; simp [putI, headsF]
    · simp [putI, headsF, h1, h2, hi]
/-- So many functions are seen. -/
def CkAt (l : List Lz) (b c : Nat) (bm : Nat) (w : World) (i : Value) (wr : World) : Prop :=
  ∃ k : Nat, k ≤ l.length ∧ i = .int .i64 (k : Int) ∧ (l.take k).all (Lz.fits b c) = true ∧ HMap wr bm k b c ∧ Below w.heap.size w wr

set_option maxRecDepth 100000 in
set_option maxHeartbeats 3200000 in
theorem checkI_any (syms : List Sy) (l : List Lz) (v0 v1 : Value) (w : World) (hi : Nat) (hsy : SyIn w (fun b => b < hi) syms v0) (hl : LzIn w hi l v1) (hhi : hi ≤ w.heap.size) (hfit : ∀ f ∈ l, f.body.fit ∧ fit64 f.params) :
    Calls Tryd.prog 9 #[v0, v1] w fun e w' => e = .returned (.int .i64 (checkI syms l)) ∧ Below w.heap.size w w' := by
  have hpl : PlIn w 0 hi ⟨syms, [], []⟩ v0 (.slice none 0 0) (.slice none 0 0) := ⟨hsy, S.In_nil, S.In_nil⟩
  have HC := Lib.hid (placeCheck_any ⟨syms, [], []⟩ v0 (.slice none 0 0) (.slice none 0 0) w 0 hi hpl hhi)
  have hok : Pl.ok ⟨syms, [], []⟩ = symsB syms := by simp [Pl.ok, sortsB]
  rw [hok] at HC
  have HD := Lib.hid (fun W h => diffLz_any l v1 W hi h)
  obtain ⟨A0, n0, c0, hv0⟩ := hsy.form
  have hn0 : syms.length = n0 ∧ n0 ≤ c0 ∧ c0 ≤ 9223372036854775807 := by
    obtain ⟨A', n', c', e, h1, h2, h3, _⟩ := hsy
    rw [hv0] at e
    injection e with e1 e2 e3
    omega
  subst hv0
  obtain ⟨A, _, c, us, rfl, rfl, hnc, hc, hrd, hrow⟩ := hl
  have HL := Lib.hid (⟨A, l.length, c, us, rfl, rfl, hnc, hc, hrd, hrow⟩ : LzIn w hi l (.slice A l.length c))
  cases hs : symsB syms with
  | false =>
    have HE : Hid (checkI syms l = 2) := Lib.hid (by simp [checkI, hs])
    rw [hs] at HC
    clear hs hok hpl
    go_enter Tryd.func9, Tryd.ntmps9
    go_wp2_with fail
    refine HC.out.mono ?_
    rintro e w1 ⟨rfl, hb1⟩
    unfold argErr
    go_wp2_with fail
    go_ret
    exact ⟨ret_int HE.out.symm, hb1⟩
  | true =>
    rw [hs] at HC
    have h24 : syms.length ≤ 24 := by
      simp only [symsB, Bool.and_eq_true, decide_eq_true_eq] at hs
      exact hs.1
    have HCK : Hid (∀ z, lzOk syms l = z → checkI syms l = if z = true then 0 else 4) := Lib.hid (by rintro z rfl; simp [checkI, hs])
    unfold argErr at HC
    clear hs hok hpl
    by_cases h0 : l.length = 0
    · have HE : Hid (checkI syms l = 4) := Lib.hid (HCK.out false (by have : l = [] := List.eq_nil_of_length_eq_zero h0; subst this; simp [lzOk, lzStart, diffFrom]))
      have g0 : ((l.length : Int) == 0) = true := by simp [h0]
      clear h0
      go_enter Tryd.func9, Tryd.ntmps9
      go_wp2_with fail
      refine HC.out.mono ?_
      rintro e w1 ⟨rfl, hb1⟩
      go_wp2_with fail
      go_ret
      exact ⟨ret_int HE.out.symm, hb1⟩
    have g0 : ((l.length : Int) == 0) = false := by simpa using h0
    by_cases h64 : l.length ≤ 64
    case neg =>
      have HE : Hid (checkI syms l = 4) := Lib.hid (HCK.out false (by simp [lzOk, h64]))
      have g1 : decide (64 < (l.length : Int)) = true := decide_eq_true (by omega)
      clear h0 h64
      go_enter Tryd.func9, Tryd.ntmps9
      go_wp2_with fail
      refine HC.out.mono ?_
      rintro e w1 ⟨rfl, hb1⟩
      go_wp2_with fail
      go_ret
      exact ⟨ret_int HE.out.symm, hb1⟩
    have g1 : decide (64 < (l.length : Int)) = false := decide_eq_false (by omega)
    have H64 := Lib.hid h64
    cases hd : diffFrom [] (l.map lznm) with
    | false =>
      have HE : Hid (checkI syms l = 4) := Lib.hid (HCK.out false (by simp [lzOk, hd]))
      have HD2 := Lib.hid hd
      clear h0 h64 hd
      go_enter Tryd.func9, Tryd.ntmps9
      go_wp2_with fail
      refine HC.out.mono ?_
      rintro e w1 ⟨rfl, hb1⟩
      go_wp2_with fail
      refine (HD.out w1 (LzIn.below HL.out hb1 hhi) (by have := hb1.size; omega)).mono ?_
      rw [HD2.out]
      rintro e w2 ⟨rfl, hb2⟩
      go_wp2_with fail
      go_ret
      exact ⟨ret_int HE.out.symm, hb1.trans (hb2.mono hb1.size)⟩
    | true =>
      have HD2 := Lib.hid hd
      obtain ⟨f0, hf0⟩ : ∃ f0, l[0]? = some f0 := ⟨l[0]'(by omega), List.getElem?_eq_getElem _⟩
      obtain ⟨ad, u, rfl, hPa, hel0, _, _⟩ := lz_el hrd hrow hf0
      have hst : lzStart l = decide (f0.params = 0) := by
        cases l with
        | nil => simp at hf0
        | cons a r => simp at hf0; subst hf0; rfl
      by_cases hp0 : f0.params = 0
      case neg =>
        have HE : Hid (checkI syms l = 4) := Lib.hid (HCK.out false (by simp [lzOk, hst, hp0]))
        have HEL := Lib.hid hel0
        have hlp : (0 : Int) < (l.length : Int) := by omega
        clear h0 h64 hd hf0 hst
        go_enter Tryd.func9, Tryd.ntmps9
        go_wp2_with fail
        refine HC.out.mono ?_
        rintro e w1 ⟨rfl, hb1⟩
        go_wp2_with fail
        refine (HD.out w1 (LzIn.below HL.out hb1 hhi) (by have := hb1.size; omega)).mono ?_
        rw [HD2.out]
        rintro e w2 ⟨rfl, hb2⟩
        have hb := hb1.trans (hb2.mono hb1.size)
        have r1 := (HEL.out.keep (hb.block _ (by omega))).c1
        simp [Addr.add] at r1
        go_wp2_with fail
        go_ret
        exact ⟨ret_int HE.out.symm, hb⟩
      have HOK : Hid (lzOk syms l = l.all (Lz.fits l.length syms.length)) := Lib.hid (by simp [lzOk, h64, hd, hst, hp0])
      have HEL := Lib.hid hel0
      have hlp : (0 : Int) < (l.length : Int) := by omega
      have HFT := Lib.hid hfit
      have hHM := fun W => HMap.made W l.length syms.length (by omega) (by omega)
      rw [hn0.1] at hHM
      have HHM := Lib.hid hHM
      have HN0 := Lib.hid hn0.1
      have hmm := @run_makeMap Tryd.prog
      clear h0 h64 hd hf0 hst hHM hfit
      go_enter Tryd.func9, Tryd.ntmps9
      go_wp2_with fail
      refine HC.out.mono ?_
      rintro e w1 ⟨rfl, hb1⟩
      go_wp2_with fail
      refine (HD.out w1 (LzIn.below HL.out hb1 hhi) (by have := hb1.size; omega)).mono ?_
      rw [HD2.out]
      rintro e w2 ⟨rfl, hb2⟩
      have hb := hb1.trans (hb2.mono hb1.size)
      have r1 := (HEL.out.keep (hb.block _ (by omega))).c1
      simp [Addr.add] at r1
      obtain ⟨wa, wb, ra, rb, hm, hbm⟩ := HHM.out w2
      have HB := Lib.hid (hb.trans (hbm.mono hb.size))
      have HM := Lib.hid hm
      have hz2 : w.heap.size ≤ w2.heap.size := hb.size
      clear hb hm hb1 hb2 hbm
      go_wp2_with fail
      clear ra rb r1 hmm
      go_loopw [40] (fun i wr => CkAt l l.length n0 w2.heap.size w i wr) (fun i _ => l.length - (intOf i).toNat)
      case atStart => exact ⟨0, Nat.zero_le _, rfl, by simp, HM.out, HB.out⟩
      case round =>
        obtain ⟨k, hk, rfl, hall, hm, hbel⟩ := hrel
        have hzr := hbel.size
        by_cases hlt : k < l.length
        · have hx : l[k]? = some l[k] := List.getElem?_eq_getElem hlt
          obtain ⟨ad', v, he, hPa', hel, hbv, hnm⟩ := lz_el hrd hrow hx
          obtain rfl : ad = ad' := by injection he
          obtain ⟨r0, r1, r2, r3, r4⟩ := hel.keep (hbel.block _ (by omega))
          have hft := HFT.out _ (List.mem_of_getElem? hx)
          have hsucc := @all_succ _ (Lz.fits l.length n0) l k _ hx hall
          have hno := @all_no _ (Lz.fits l.length n0) l k _ hx
          generalize l[k] = x at *
          obtain ⟨name, params, body⟩ := x
          simp only at r0 r1 r2 r3 r4 hft hbv
          obtain ⟨A', n', c', rfl⟩ := hbv.form
          have hbx : Below wr.heap.size wr (wr.alloc (.cells #[.string name, .int .i64 params, .int .i64 body.kind, .int .i64 body.num, .slice A' n' c'] 48)) := (Below.refl _ _).alloc (Nat.le_refl _) _
          have hbk := Blk.new wr 48 #[.string name, .int .i64 params, .int .i64 body.kind, .int .i64 body.num, .slice A' n' c']
          have hmx : HMap (wr.alloc (.cells #[.string name, .int .i64 params, .int .i64 body.kind, .int .i64 body.num, .slice A' n' c'] 48)) w2.heap.size k l.length n0 := by
            obtain ⟨f, h1, h2⟩ := hm
            exact ⟨f, h1.below hbx, h2⟩
          have hml : w2.heap.size < wr.heap.size := by
            obtain ⟨f, h1, h2⟩ := hm
            exact h1.lt
          obtain ⟨w3, hput, hm3, hm3', hg3⟩ := hmx.put (by have := H64.out; omega) hft.2
          have hbk3 : Blk w3 wr.heap.size 48 #[.string name, .int .i64 params, .int .i64 body.kind, .int .i64 body.num, .slice A' n' c'] := (hg3.block _ (by simp) (fun e => by injection e with e; omega)).trans hbk
          have hb3 : Below w.heap.size w w3 := (hbel.trans (hbx.mono hzr)).grown hg3 (by simp; omega) (fun b hb => by injection hb with hb; omega)
          have hin3 : body.In w3 (fun b => b < hi) (.slice A' n' c') := T.In.below hbv hb3 (fun b hb => by omega)
          have d0 := hbk3.cell 0
          have d1 := hbk3.cell 1
          have d2 := hbk3.cell 2
          have d3 := hbk3.cell 3
          have d4 := hbk3.cell 4
          simp at d0 d1 d2 d3 d4
          have HM3 := Lib.hid hm3
          have HM4 := Lib.hid hm3'
          have HB3 := Lib.hid hb3
          have HIN := Lib.hid hin3
          have HNO := Lib.hid hno
          have HSU := Lib.hid hsucc
          have HFX := Lib.hid hft
          have hz3 := hb3.size
          clear hx hel hbv hbk hbk3 hmx hm hm3 hm3' hb3 hin3 hno hsucc hft hg3 hall hbx
          by_cases hp0 : 0 ≤ params
          · by_cases hp8 : params ≤ 8
            · obtain ⟨a, rfl⟩ : ∃ a : Nat, params = (a : Int) := ⟨params.toNat, by omega⟩
              have HIB := Lib.hid (isBodyI_any a l.length n0 w2.heap.size (2 + k + 1) body (.slice A' n' c') w3 (fun b => b < hi) HFX.out.1 (HM4.out a rfl) HIN.out (fun b hb => by omega))
              have hfx : Lz.fits l.length n0 ⟨name, (a : Int), body⟩ = bodyIn a l.length n0 body := by simp [Lz.fits, hp0, hp8]
              have g8 : decide (8 < (a : Int)) = false := decide_eq_false (by omega)
              have g9 : decide ((a : Int) < 0) = false := decide_eq_false (by omega)
              cases hbo : bodyIn a l.length n0 body with
              | false =>
                have HE : Hid (checkI syms l = 4) := Lib.hid (by
                  have := HNO.out (hfx.trans hbo)
                  have h2 := HCK.out _ HOK.out
                  rw [HN0.out, this] at h2
                  exact h2)
                rw [hbo] at HIB
                clear hfx hbo hp0 hp8
                go_wp2_with fail
                refine HIB.out.mono ?_
                rintro e w4 ⟨rfl, hb4⟩
                go_wp2_with fail
                go_ret
                exact ⟨ret_int HE.out.symm, HB3.out.trans (hb4.mono hz3)⟩
              | true =>
                have HA : Hid ((l.take (k + 1)).all (Lz.fits l.length n0) = true) := Lib.hid (HSU.out (hfx.trans hbo))
                rw [hbo] at HIB
                clear hfx hbo hp0 hp8
                go_wp2_with fail
                refine HIB.out.mono ?_
                rintro e w4 ⟨rfl, hb4⟩
                have HF : Hid (CkAt l l.length n0 w2.heap.size w (.int .i64 ((k + 1 : Nat) : Int)) w4) := by
                  refine Lib.hid ⟨k + 1, by omega, rfl, HA.out, ?_, HB3.out.trans (hb4.mono hz3)⟩
                  obtain ⟨f, h1, h2⟩ := HM3.out
                  exact ⟨f, h1.below hb4, h2⟩
                clear hb4
                go_wp2_with fail
                go_roundw
                case rel => simpa using HF.out
                case measure => simp [intOf]; omega
            · have HE : Hid (checkI syms l = 4) := Lib.hid (by
                have := HNO.out (by simp [Lz.fits, hp8])
                have h2 := HCK.out _ HOK.out
                rw [HN0.out, this] at h2
                exact h2)
              have g8 : decide (8 < params) = true := decide_eq_true (by omega)
              have g9 : decide (params < 0) = false := decide_eq_false (by omega)
              clear hp0 hp8
              go_wp2_with fail
              go_ret
              exact ⟨ret_int HE.out.symm, HB3.out⟩
          · have HE : Hid (checkI syms l = 4) := Lib.hid (by
              have := HNO.out (by simp [Lz.fits, hp0])
              have h2 := HCK.out _ HOK.out
              rw [HN0.out, this] at h2
              exact h2)
            have g9 : decide (params < 0) = true := decide_eq_true (by omega)
            clear hp0
            go_wp2_with fail
            go_ret
            exact ⟨ret_int HE.out.symm, HB3.out⟩
        · have HE : Hid (checkI syms l = 0) := Lib.hid (by
            have hll : l.take k = l := List.take_of_length_le (by omega)
            rw [hll] at hall
            have h2 := HCK.out _ HOK.out
            rw [HN0.out, hall] at h2
            exact h2)
          clear hall hm
          go_wp2_with fail
          go_ret
          exact ⟨ret_int HE.out.symm, hbel⟩
end Go.Proofs.YtkkfdiidneoelaaDoor
