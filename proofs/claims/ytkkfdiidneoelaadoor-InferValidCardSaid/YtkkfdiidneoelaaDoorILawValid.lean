/-
  InferValid: the scheme of functions whose sorts are found is valid, and has their names, numbers of parameters, bodies and symbols.
-/
import Derived.Test.YtkkfdiidneoelaaDoorISchemeB
import Derived.Test.YtkkfdiidneoelaaDoorGY
import Derived.Test.YtkkfdiidneoelaaDoorGS
import Derived.Deep.RegionHeld3
namespace Go.Proofs.YtkkfdiidneoelaaDoor
open Go.RowKit

theorem scIn_of_own {w : World} {B : Nat} {P : Nat → Prop} {sy : List Sy} {fs : List Fn} {s0 s1 : Value} {us : List Value} (h0 : w.ownsRow B 57 2 s0 sy.length (syCells sy)) (h1 : w.ownsRow B 46 5 s1 fs.length us) (hm : FnMk w P fs us)
    (hP : ∀ b, P b → b < w.heap.size) (hn : ∀ x ∈ sy, x.name.size ≤ maxLen) : ScIn w w.heap.size ⟨sy, fs⟩ s0 s1 := by
  have l0 := h0.lt
  have l1 := h1.lt
  refine ⟨?_, ?_⟩
  · rcases h0.2 with ⟨rfl, hz⟩ | ⟨g, cap, cur, rfl, g1, g2, g3, g4, g5, g6⟩
    · have : sy = [] := List.eq_nil_of_length_eq_zero hz
      subst this
      exact ⟨none, 0, 0, rfl, rfl, Nat.le_refl _, by omega, .inl rfl, by simp⟩
    · exact ⟨_, _, _, rfl, rfl, g3, by simpa [maxLen] using g4, .inr ⟨_, rfl, (l0 g rfl).2, h0.cells (g := g) rfl⟩, hn⟩
  · have hr := hm.row hP fs
    rcases h1.2 with ⟨rfl, hz⟩ | ⟨g, cap, cur, rfl, g1, g2, g3, g4, g5, g6⟩
    · have : fs = [] := List.eq_nil_of_length_eq_zero hz
      subst this
      exact ⟨none, 0, 0, us, rfl, rfl, Nat.le_refl _, by omega, .inl (by simpa [FnRow] using hr), hr⟩
    · exact ⟨_, _, _, us, rfl, rfl, g3, by simpa [maxLen] using g4, .inr ⟨_, rfl, (l1 g rfl).2, h1.cells (g := g) rfl⟩, hr⟩
theorem sort_lenV {w : World} {lo hi : Nat} {s : S} {u : Value} (h : s.In w lo hi u) : ∃ A c, u = .slice A s.args.length c := by
  obtain ⟨l⟩ := s
  exact ex_len h
theorem params_len {syms : List Sy} {l : List Lz} {lst : List S} (hc : checkI syms l = 0) (hs : Solves (l.map Lz.lo) (ranksOf syms) (some lst)) {k : Nat} {x : Lz} {s : S} (hx : l[k]? = some x) (hk : lst[k]? = some s) : (s.args.length : Int) = x.params := by
  have h := (hs.1.2 k x.lo s (by simp [hx]) hk).1
  unfold checkI at hc
  by_cases h1 : symsB syms = true
  case neg => rw [if_neg h1] at hc; cases hc
  rw [if_pos h1] at hc
  by_cases h2 : lzOk syms l = true
  case neg => rw [if_neg h2] at hc; cases hc
  simp only [lzOk, Bool.and_eq_true, decide_eq_true_eq, List.all_eq_true] at h2
  have hfp := h2.2.2.2 x (List.mem_of_getElem? hx)
  simp only [Lz.fits, Bool.and_eq_true, decide_eq_true_eq] at hfp
  simp only [Lz.lo] at h
  omega

set_option maxHeartbeats 6400000 in
set_option maxRecDepth 100000 in
theorem lawValidI_any (syms : List Sy) (l : List Lz) (v0 v1 : Value) (w : World) (hi : Nat) (hsy : SyIn w (fun b => b < hi) syms v0) (hl : LzIn w hi l v1) (hhi : hi ≤ w.heap.size) (hfit : ∀ f ∈ l, f.body.fit ∧ fit64 f.params) :
    Calls Tryd.prog 6 #[v0, v1] w fun e w' => e = .returned (.bool true) ∧ Below w.heap.size w w' := by
  have HA := Lib.hid aliveI_any
  have HSY := Lib.hid hsy
  have HLZ := Lib.hid hl
  have HFIT := Lib.hid hfit
  obtain ⟨A0, _, c0, rfl, rfl, hnc0, hc0, hrd0, hnm0⟩ := hsy
  obtain ⟨A, _, c, us0, rfl, rfl, hnc, hc, hrd, hrow⟩ := hl
  have HRD0 := Lib.hid hrd0
  have HNM0 := Lib.hid hnm0
  have HRD := Lib.hid (⟨hrd, hrow⟩ : Rd w (fun b => b < hi) A us0 ∧ LzRow w hi l us0)
  clear hrd0 hnm0 hrd hrow hfit
  by_cases h : l.length ≤ 1000
  case neg =>
    have g : (1000 : Int) < (l.length : Int) := by omega
    clear h
    generalize l.length = n at *
    go_enter Tryd.func6, Tryd.ntmps6
    go_wp2_with fail
    refine (HA.out _).mono ?_
    rintro e w1 ⟨rfl, hb1⟩
    have B1 := Lib.hid hb1
    clear hb1
    go_wp2_with fail
    go_ret
    exact ⟨rfl, B1.out⟩
  have HG := Lib.hid (given_any l _ w hi HLZ.out hhi (by omega))
  have g : ¬ (1000 : Int) < (l.length : Int) := by omega
  clear h
  go_enter Tryd.func6, Tryd.ntmps6
  go_wp2_with fail
  refine HG.out.mono ?_
  rintro e w1 ⟨v7, rfl, hl7, hb1⟩
  obtain ⟨A7, n7, c7, rfl⟩ := hl7.form
  have hz1 := hb1.size
  have B1 := Lib.hid hb1
  have HSC := Lib.hid (schemeI_any syms l _ _ w1 w1.heap.size ((HSY.out.below hb1 hhi).more (by omega)) hl7 (Nat.le_refl _) HFIT.out)
  clear hb1 hl7
  go_wp2_with fail
  refine HSC.out.mono ?_
  rintro e w8 ⟨E, lst, s0, s1, us8, rfl, han, hb8, hne8, heq8⟩
  have hz8 := hb8.size
  have B8 := Lib.hid (B1.out.trans (hb8.mono hz1))
  by_cases hE : E = 0
  case neg =>
    obtain ⟨rfl, rfl⟩ := hne8 hE
    have gE : ((E : Int) != 0) = true := by simpa using hE
    have B9 := Lib.hid (B8.out.alloc (by omega) (.cells #[.slice none 0 0, .slice none 0 0] 38))
    clear han hb8 hne8 heq8 hE
    go_wp2_with fail
    refine (HA.out _).mono ?_
    rintro e w2 ⟨rfl, hb2⟩
    have B2 := Lib.hid (B9.out.trans (hb2.mono B9.out.size))
    clear hb2
    go_wp2_with fail
    go_ret
    exact ⟨rfl, B2.out⟩
  subst hE
  obtain ⟨ho0, ho1, hmk⟩ := heq8 rfl
  obtain ⟨hlen, h64, h24, h400, hck, hsol, hall⟩ := han.zero
  have hfl := fnsOf_len hlen
  have hsc := scIn_of_own ho0 ho1 hmk (fun b hb => hb.2.1) HNM0.out
  have hsay := valid_say hck hsol hall
  have HSOL := Lib.hid (⟨hck, hsol⟩ : checkI syms l = 0 ∧ Solves (l.map Lz.lo) (ranksOf syms) (some lst))
  obtain ⟨As0, _, cs0, _, rfl⟩ := own_formN ho0
  rw [hfl] at ho1
  obtain ⟨As1, _, cs1, _, rfl⟩ := own_formN ho1
  have hb9 : Below w8.heap.size w8 (w8.alloc (.cells #[.slice As0 syms.length cs0, .slice As1 l.length cs1] 38)) := (Below.refl _ _).alloc (Nat.le_refl _) _
  have bx := Blk.new w8 38 #[.slice As0 syms.length cs0, .slice As1 l.length cs1]
  have HIS := Lib.hid (refScIs_any _ _ _ _ w8.heap.size (hsc.below hb9 (Nat.le_refl _)) hb9.size)
  rw [hsay] at HIS
  have HSCI := Lib.hid hsc
  have HL := Lib.hid hlen
  have H400 := Lib.hid h400
  have B9 := Lib.hid (B8.out.trans (hb9.mono (by omega)))
  have c50 := bx.cell 0
  have c51 := bx.cell 1
  simp at c50 c51
  have BX := Lib.hid bx
  have HB9 := Lib.hid hb9
  have z9 : (w8.alloc (.cells #[.slice As0 syms.length cs0, .slice As1 l.length cs1] 38)).heap.size = w8.heap.size + 1 := by simp
  have HZ9 := Lib.hid z9
  clear han hb8 hne8 heq8 ho0 ho1 hmk hlen h400 hck hsol hall hfl hsc hsay hb9 bx z9
  go_wp2_with fail
  refine HIS.out.mono ?_
  rintro e w9 ⟨rfl, hb10⟩
  have BX9 := Lib.hid (BX.out.below hb10 BX.out.lt)
  have B10 := Lib.hid (B9.out.trans (hb10.mono B9.out.size))
  have HB10 := Lib.hid (HB9.out.trans (hb10.mono HB9.out.size))
  have z10 : w8.heap.size + 1 ≤ w9.heap.size := by have := hb10.size; rw [HZ9.out] at this; exact this
  have d50 := BX9.out.cell 0
  have d51 := BX9.out.cell 1
  simp at d50 d51
  clear hb10
  go_wp2_with fail
  go_loopw [45] (fun i wr => ∃ k : Nat, k ≤ l.length ∧ i = .int .i64 (k : Int) ∧ Below w9.heap.size w9 wr) (fun i _ => l.length - (intOf i).toNat)
  case atStart => exact ⟨0, Nat.zero_le _, rfl, Below.refl _ _⟩
  case round =>
    obtain ⟨k, hk, rfl, hbel⟩ := hrel
    have hzr := hbel.size
    have hbe : Below w.heap.size w wr := B10.out.trans (hbel.mono B10.out.size)
    have hb8r : Below w8.heap.size w8 wr := HB10.out.trans (hbel.mono HB10.out.size)
    by_cases hlt : k < l.length
    · have hx : l[k]? = some l[k] := List.getElem?_eq_getElem hlt
      have hs : lst[k]? = some (lst[k]'(by have := HL.out; omega)) := List.getElem?_eq_getElem _
      obtain ⟨ad, bv, rfl, hPa, hel, hbv, hnm⟩ := lz_el HRD.out.1 HRD.out.2 hx
      obtain ⟨r0, r1, r2, r3, r4⟩ := hel.keep (hbe.block _ (by omega))
      have h4x := H400.out _ (List.getElem_mem hlt)
      have hpar := params_len HSOL.out.1 HSOL.out.2 hx hs
      have hfx := fnsOf_at hx hs
      obtain ⟨Af, _, cf, usf, hef, hnf, _, _, hrdf, hrowf⟩ := HSCI.out.fn
      injection hef with e1 e2 e3
      subst e1 e2 e3
      obtain ⟨adf, u, vf, rfl, hPf, helf, hsf, hbf, _⟩ := fn_el hrdf hrowf hfx
      obtain ⟨t0, t1, t2, t3, t4⟩ := helf.keep (hb8r.block _ (by omega))
      have hnm2 : (lzFn l[k] (lst[k]'(by have := HL.out; omega))).name = l[k].name := rfl
      have hbd2 : (lzFn l[k] (lst[k]'(by have := HL.out; omega))).body = l[k].body := rfl
      have hso2 : (lzFn l[k] (lst[k]'(by have := HL.out; omega))).sort = lst[k]'(by have := HL.out; omega) := rfl
      rw [hnm2] at t0
      rw [hbd2] at t2 t3 hbf
      rw [hso2] at hsf
      clear hnm2 hbd2 hso2 hx hs hfx hrdf hrowf hel helf
      generalize lst[k]'(by have := HL.out; omega) = s at *
      generalize l[k] = x at *
      obtain ⟨xn, xp, xb⟩ := x
      simp only at r0 r1 r2 r3 t0 t2 t3 hpar hbv hbf h4x
      obtain ⟨Au, cu, rfl⟩ := sort_lenV hsf
      generalize s.args.length = ns at *
      subst hpar
      obtain ⟨Ab, nb, cb, rfl⟩ := hbv.form
      obtain ⟨Ag, ng, cg, rfl⟩ := hbf.form
      have hbx := BX9.out.below hbel BX9.out.lt
      have hzb := hbx.lt
      have e50 := hbx.cell 1
      simp at e50
      have hW0 : Below wr.heap.size wr (wr.alloc (.cells #[.string xn, .int .i64 (ns : Int), .int .i64 xb.kind, .int .i64 xb.num, .slice Ab nb cb] 54)) := (Below.refl _ _).alloc (Nat.le_refl _) _
      have hwb := Blk.new wr 54 #[.string xn, .int .i64 (ns : Int), .int .i64 xb.kind, .int .i64 xb.num, .slice Ab nb cb]
      have zf : (adf.add (k * 5)).block < wr.heap.size := by rw [block_of_add]; omega
      have h4 : xb.count ≤ 400 := h4x
      have HC1 : Hid (∀ W, Below (wr.alloc (.cells #[.string xn, .int .i64 (ns : Int), .int .i64 xb.kind, .int .i64 xb.num, .slice Ab nb cb] 54)).heap.size (wr.alloc (.cells #[.string xn, .int .i64 (ns : Int), .int .i64 xb.kind, .int .i64 xb.num, .slice Ab nb cb] 54)) W → Calls Tryd.prog 20 #[.agg #[.int .i64 xb.kind, .int .i64 xb.num, .slice Ag ng cg], .agg #[.int .i64 xb.kind, .int .i64 xb.num, .slice Ab nb cb]] W fun e w' => e = .returned (.bool true) ∧ Below W.heap.size W w') := Lib.hid fun W hW => by
        have hall : Below wr.heap.size wr W := hW0.trans (hW.mono hW0.size)
        have h := refSameT_any xb xb (.slice Ag ng cg) (.slice Ab nb cb) W (fun b => b < w8.heap.size) (fun b => b < hi) ((hbf.below hb8r (fun b hb => hb)).below hall (fun b hb => by omega)) (fun b hb => by have := hall.size; omega) ((hbv.below hbe (fun b hb => by omega)).below hall (fun b hb => by have := hbe.size; omega)) (fun b hb => by have := hall.size; have := hbe.size; omega)
        have e : (!xb.large && (!xb.large && xb.eqb xb)) = true := by
          have h1 : xb.large = false := by simp [T.large]; omega
          have h2 : xb.eqb xb = true := (T.eqb_iff _ _).2 rfl
          rw [h1, h2]; rfl
        rwa [e] at h
      have HS : Hid (∀ W, Below (wr.alloc (.cells #[.string xn, .int .i64 (ns : Int), .int .i64 xb.kind, .int .i64 xb.num, .slice Ab nb cb] 54)).heap.size (wr.alloc (.cells #[.string xn, .int .i64 (ns : Int), .int .i64 xb.kind, .int .i64 xb.num, .slice Ab nb cb] 54)) W → W.cell? ⟨w8.heap.size, 1, none⟩ = some (.slice (some adf) l.length cs1) ∧ (W.cell? (adf.add (k * 5)) = some (.string xn) ∧ W.cell? ⟨(adf.add (k * 5)).block, (adf.add (k * 5)).off + 1, none⟩ = some (.slice Au ns cu) ∧ W.cell? ⟨(adf.add (k * 5)).block, (adf.add (k * 5)).off + 2, none⟩ = some (.int .i64 xb.kind) ∧ W.cell? ⟨(adf.add (k * 5)).block, (adf.add (k * 5)).off + 3, none⟩ = some (.int .i64 xb.num) ∧ W.cell? ⟨(adf.add (k * 5)).block, (adf.add (k * 5)).off + 4, none⟩ = some (.slice Ag ng cg)) ∧
        (W.cell? ⟨wr.heap.size, 0, none⟩ = some (.string xn) ∧ W.cell? ⟨wr.heap.size, 1, none⟩ = some (.int .i64 (ns : Int)) ∧ W.cell? ⟨wr.heap.size, 2, none⟩ = some (.int .i64 xb.kind) ∧ W.cell? ⟨wr.heap.size, 3, none⟩ = some (.int .i64 xb.num) ∧ W.cell? ⟨wr.heap.size, 4, none⟩ = some (.slice Ab nb cb))) := Lib.hid fun W hW => by
        have hall : Below wr.heap.size wr W := hW0.trans (hW.mono hW0.size)
        have hk := fun (q : Addr) (hq : q.block < wr.heap.size) => hall.cell (p := q) hq
        have hbW := hwb.below hW hwb.lt
        exact ⟨(hk _ hzb).trans e50, ⟨(hk _ zf).trans t0, (hk ⟨(adf.add (k * 5)).block, (adf.add (k * 5)).off + 1, none⟩ zf).trans t1, (hk ⟨(adf.add (k * 5)).block, (adf.add (k * 5)).off + 2, none⟩ zf).trans t2, (hk ⟨(adf.add (k * 5)).block, (adf.add (k * 5)).off + 3, none⟩ zf).trans t3, (hk ⟨(adf.add (k * 5)).block, (adf.add (k * 5)).off + 4, none⟩ zf).trans t4⟩, hbW.cell 0, hbW.cell 1, hbW.cell 2, hbW.cell 3, hbW.cell 4⟩
      have s0 := HS.out _ (Below.refl _ _)
      have HBL := Lib.hid hbel
      have HW0 := Lib.hid hW0
      clear hbe hb8r hbel hbv hbf hsf hW0 hwb hbx t0 t1 t2 t3 t4 e50
      go_wp2_with fail
      generalize hWW : wr.alloc (.cells #[.string xn, .int .i64 (ns : Int), .int .i64 xb.kind, .int .i64 xb.num, .slice Ab nb cb] 54) = W0 at *
      have hd : Below W0.heap.size W0 W0.drew := (Below.refl _ _).drew
      clear hWW
      go_region_held3 (fun W => W.cell? ⟨w8.heap.size, 1, none⟩ = some (.slice (some adf) l.length cs1) ∧ (W.cell? (adf.add (k * 5)) = some (.string xn) ∧ W.cell? ⟨(adf.add (k * 5)).block, (adf.add (k * 5)).off + 1, none⟩ = some (.slice Au ns cu) ∧ W.cell? ⟨(adf.add (k * 5)).block, (adf.add (k * 5)).off + 2, none⟩ = some (.int .i64 xb.kind) ∧ W.cell? ⟨(adf.add (k * 5)).block, (adf.add (k * 5)).off + 3, none⟩ = some (.int .i64 xb.num) ∧ W.cell? ⟨(adf.add (k * 5)).block, (adf.add (k * 5)).off + 4, none⟩ = some (.slice Ag ng cg)) ∧
        (W.cell? ⟨wr.heap.size, 0, none⟩ = some (.string xn) ∧ W.cell? ⟨wr.heap.size, 1, none⟩ = some (.int .i64 (ns : Int)) ∧ W.cell? ⟨wr.heap.size, 2, none⟩ = some (.int .i64 xb.kind) ∧ W.cell? ⟨wr.heap.size, 3, none⟩ = some (.int .i64 xb.num) ∧ W.cell? ⟨wr.heap.size, 4, none⟩ = some (.slice Ab nb cb)))
        (first | assumption | exact HS.out _ (by assumption) | go_keep)
        (first
         | (go_at_call 20; ((with_reducible refine (HC1.out _ (by assumption)).mono ?_); rintro e wI ⟨rfl, bwI⟩)
            have hwI : Below W0.heap.size W0 wI := hd.trans (bwI.mono hd.size)))
      all_goals
        have B5 : Hid (Below w9.heap.size w9 wI) := Lib.hid (HBL.out.trans ((HW0.out.trans (hwI.mono HW0.out.size)).mono hzr))
        clear hwI
        go_wp2_with fail
        go_roundw
        case rel => exact ⟨k + 1, by omega, by go_num, B5.out⟩
        case measure => simp [intOf]; omega
    · have hbx := BX9.out.below hbel BX9.out.lt
      have e50 := hbx.cell 0
      simp at e50
      have HBL := Lib.hid hbel
      clear hbe hb8r hbel hbx
      go_wp2_with fail
      go_loopw [87] (fun i wr2 => ∃ j : Nat, j ≤ syms.length ∧ i = .int .i64 (j : Int) ∧ Below wr.heap.size wr wr2) (fun i _ => syms.length - (intOf i).toNat)
      case atStart => exact ⟨0, Nat.zero_le _, rfl, Below.refl _ _⟩
      case round =>
        obtain ⟨j, hj, rfl, hbel2⟩ := hrel
        have hb9r : Below w9.heap.size w9 wr := HBL.out.trans (hbel2.mono hzr)
        have hbe : Below w.heap.size w wr := B10.out.trans (hb9r.mono B10.out.size)
        have hb8r : Below w8.heap.size w8 wr := HB10.out.trans (hb9r.mono HB10.out.size)
        by_cases hjl : j < syms.length
        · have hx : syms[j]? = some syms[j] := List.getElem?_eq_getElem hjl
          obtain ⟨ad0, rfl, hP0, el0⟩ := sy_el HRD0.out hx
          obtain ⟨Am, _, cm, hem, hnm, _, _, hrdm, _⟩ := HSCI.out.sy
          injection hem with e1 e2 e3
          subst e1 e2 e3
          obtain ⟨adm, rfl, hPm, elm⟩ := sy_el hrdm hx
          obtain ⟨r0, r1⟩ := el0.keep (hbe.block _ (by omega))
          obtain ⟨q0, q1⟩ := elm.keep (hb8r.block _ (by omega))
          have f50 := (BX9.out.below hb9r BX9.out.lt).cell 0
          simp at f50
          have HB2 := Lib.hid hbel2
          generalize syms[j] = x at *
          obtain ⟨xn, xr⟩ := x
          simp only at r0 r1 q0 q1
          clear hx hrdm el0 elm hb9r hbe hb8r hbel2
          go_wp2_with fail
          go_region
          all_goals
            go_wp2_with fail
            go_roundw
            case rel => exact ⟨j + 1, by omega, by go_num, HB2.out.drew⟩
            case measure => simp [intOf]; omega
        · have HBE := Lib.hid hbe
          clear hb9r hbe hb8r hbel2
          go_wp2_with fail
          refine (HA.out _).mono ?_
          rintro e w5 ⟨rfl, hb5⟩
          have B3 := Lib.hid (HBE.out.trans (hb5.mono HBE.out.size))
          clear hb5
          go_wp2_with fail
          go_ret
          exact ⟨rfl, B3.out⟩
end Go.Proofs.YtkkfdiidneoelaaDoor
