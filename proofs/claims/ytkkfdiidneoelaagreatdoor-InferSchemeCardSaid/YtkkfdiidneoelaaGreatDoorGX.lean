/-
  Reference 04: exist, a contract.
  Reference 04: Check, a contract.
-/
import Derived.Test.YtkkfdiidneoelaaGreatDoorGN
import Derived.Test.YtkkfdiidneoelaaGreatDoorGC
namespace Go.Proofs.YtkkfdiidneoelaaGreatDoor
open Go.RowKit

theorem T.existL_succ {a b c : Nat} {l : List T} {k : Nat} {x : T} (hx : l[k]? = some x) : T.existL a b c (l.take (k + 1)) = (T.existL a b c (l.take k) && x.exist a b c) := by
  induction l generalizing k with
  | nil => simp at hx
  | cons y r ih =>
    cases k with
    | zero => simp at hx; subst hx; simp [T.existL]
    | succ k => simp at hx; simp [T.existL, ih hx, Bool.and_assoc]
theorem T.existL_no {a b c : Nat} {l : List T} {k : Nat} {x : T} (hx : l[k]? = some x) (h : x.exist a b c = false) : T.existL a b c l = false := by
  induction l generalizing k with
  | nil => simp at hx
  | cons y r ih =>
    cases k with
    | zero => simp at hx; subst hx; simp [T.existL, h]
    | succ k => simp at hx; simp [T.existL, ih hx]

set_option maxRecDepth 100000 in
set_option maxHeartbeats 1600000 in
theorem refExist_any (a b c : Nat) (ha : a ≤ 1000000) (hb : b ≤ 1000000) (hc : c ≤ 1000000) (K : Nat) : ∀ (t : T) (v : Value) (w : World) (P : Nat → Prop), t.count ≤ K → t.In w P v → Old P w →
    Calls Tryz.prog 123 #[.agg #[.int .i64 t.kind, .int .i64 t.num, v], .int .i64 (a : Int), .int .i64 (b : Int), .int .i64 (c : Int)] w fun e w' => e = .returned (.bool (t.exist a b c)) ∧ Below w.heap.size w w' := by
  induction K with
  | zero => intro t; have := t.count_pos; omega
  | succ K ih =>
    intro t v w P hK hin hold
    obtain ⟨kd, nm, l⟩ := t
    simp only [T.In] at hin
    obtain ⟨A, _, cc, us, rfl, rfl, hnc, hcc, hrd, hrow⟩ := hin
    simp only [T.kind, T.num]
    have HIH := Lib.hid ih
    clear ih
    have hw1 : Below w.heap.size w (w.alloc (.cells #[.int .i64 kd, .int .i64 nm, .slice A l.length cc] 53)) := (Below.refl _ _).alloc (Nat.le_refl _) _
    have hbk := Blk.new w 53 #[.int .i64 kd, .int .i64 nm, .slice A l.length cc]
    have x0 := hbk.cell 0
    have x1 := hbk.cell 1
    have x2 := hbk.cell 2
    simp at x0 x1 x2
    have HEX : Hid ((T.mk kd nm l).exist a b c = (headIn a b c kd nm && T.existL a b c l)) := Lib.hid rfl
    obtain ⟨most, hmost, hmle⟩ : ∃ m : Nat, (if kd = 0 then a else if kd = 1 then b else if kd = 2 then c else 0 : Nat) = m ∧ m ≤ 1000000 := ⟨_, rfl, by (repeat' split) <;> omega⟩
    have HHD : Hid (headIn a b c kd nm = (decide (0 ≤ nm) && decide (nm < (most : Int)))) := Lib.hid (by unfold headIn; rw [hmost])
    have hcases : (kd = 0 ∧ a = most) ∨ (kd = 1 ∧ b = most) ∨ (kd = 2 ∧ c = most) ∨ (¬ kd = 0 ∧ ¬ kd = 1 ∧ ¬ kd = 2 ∧ 0 = most) := by
      by_cases k0 : kd = 0
      · simp [k0] at hmost; exact .inl ⟨k0, hmost⟩
      · by_cases k1 : kd = 1
        · simp [k1] at hmost; exact .inr (.inl ⟨k1, hmost⟩)
        · by_cases k2 : kd = 2
          · simp [k2] at hmost; exact .inr (.inr (.inl ⟨k2, hmost⟩))
          · simp [k0, k1, k2] at hmost; exact .inr (.inr (.inr ⟨k0, k1, k2, hmost⟩))
    clear hmost
    by_cases hbad : nm < 0 ∨ (most : Int) ≤ nm
    · have HF : Hid ((T.mk kd nm l).exist a b c = false) := Lib.hid (by rw [HEX.out, HHD.out]; rcases hbad with h | h <;> simp <;> omega)
      rcases hcases with ⟨rfl, rfl⟩ | ⟨rfl, rfl⟩ | ⟨rfl, rfl⟩ | ⟨k0, k1, k2, rfl⟩
      all_goals
        by_cases hn : nm < 0
        all_goals
          first
            | (have g1 : decide (nm < 0) = true := decide_eq_true hn
               clear hbad
               go_enter Tryz.func123, Tryz.ntmps123
               go_wp2_with fail
               go_ret
               exact ⟨ret_bool HF.out.symm, hw1⟩)
            | (have g1 : decide (nm < 0) = false := decide_eq_false hn
               have g2 := hbad.resolve_left hn
               clear hbad
               go_enter Tryz.func123, Tryz.ntmps123
               go_wp2_with fail
               go_ret
               exact ⟨ret_bool HF.out.symm, hw1⟩)
    · have g0 : ¬ nm < 0 := fun h => hbad (.inl h)
      have g1 : decide (nm < 0) = false := decide_eq_false g0
      have HHB : Hid (headIn a b c kd nm = true) := Lib.hid (by rw [HHD.out]; simp; omega)
      have gm : ¬ (most : Int) ≤ nm := fun h => hbad (.inr h)
      have HIN : Hid ((T.mk kd nm l).exist a b c = T.existL a b c l) := Lib.hid (by rw [HEX.out, HHB.out, Bool.true_and])
      have hbw := hbk.lt
      clear hbad hmle HHD HHB HEX
      rcases hcases with ⟨rfl, rfl⟩ | ⟨rfl, rfl⟩ | ⟨rfl, rfl⟩ | ⟨k0, k1, k2, rfl⟩
      all_goals
        first
          | (exfalso; omega)
          | (have H0 : Hid (T.existL a b c (l.take 0) = true ∧ Below w.heap.size w (w.alloc (.cells #[.int .i64 _, .int .i64 nm, .slice A l.length cc] 53))) := Lib.hid ⟨by simp [T.existL], hw1⟩
             go_enter Tryz.func123, Tryz.ntmps123
             go_wp2_with fail
             clear x0 x1 x2
             go_loopw [35] (fun i wr => ∃ k : Nat, k ≤ l.length ∧ i = .int .i64 k ∧ Hid (T.existL a b c (l.take k) = true) ∧ Below w.heap.size w wr) (fun i _ => l.length - (intOf i).toNat)
             case atStart => exact ⟨0, Nat.zero_le _, rfl, Lib.hid H0.out.1, H0.out.2⟩
             case round =>
               clear H0
               obtain ⟨k, hk, rfl, hf, hbel⟩ := hrel
               have hzr := hbel.size
               by_cases hlt : k < l.length
               · have hx : l[k]? = some l[k] := List.getElem?_eq_getElem hlt
                 have hcl := T.count_lt (a := 0) (b := 0) hx
                 obtain ⟨ad, u, rfl, hPa, hel, hinx⟩ := T.In.el hrd hrow hx
                 obtain ⟨r0, r1, r2⟩ := hel.keep (hbel.block _ (hold _ hPa))
                 have hw2 : Below wr.heap.size wr (wr.alloc (.cells #[.int .i64 l[k].kind, .int .i64 l[k].num, u] 53)) := (Below.refl _ _).alloc (Nat.le_refl _) _
                 have hct := HIH.out l[k] u _ P (by simp only [T.count] at hK hcl; omega) ((hinx.below hbel hold).below hw2 (fun b hb => by have := hold b hb; omega)) ((hold.bel hbel).bel hw2)
                 have hsucc := T.existL_succ (a := a) (b := b) (c := c) hx
                 have hno := T.existL_no (a := a) (b := b) (c := c) hx
                 rw [hf.out, Bool.true_and] at hsucc
                 generalize l[k] = x at *
                 obtain ⟨A', n', c', rfl⟩ := hinx.form
                 cases hxe : x.exist a b c with
                 | true =>
                   rw [hxe] at hct
                   have HC := Lib.hid hct
                   have HS := Lib.hid (hsucc.trans hxe)
                   clear hx hel hct hsucc hno hxe
                   go_wp2_with fail
                   refine HC.out.mono ?_
                   rintro e w2 ⟨rfl, hb2⟩
                   go_wp2_with fail
                   go_roundw
                   case rel => exact ⟨k + 1, by omega, by go_num, HS, hbel.trans ((hw2.trans (hb2.mono (by simp))).mono hzr)⟩
                   case measure => simp [intOf]; omega
                 | false =>
                   rw [hxe] at hct
                   have HC := Lib.hid hct
                   have HS := Lib.hid (HIN.out.trans (hno hxe))
                   clear hx hel hct hsucc hno hxe
                   go_wp2_with fail
                   refine HC.out.mono ?_
                   rintro e w2 ⟨rfl, hb2⟩
                   go_wp2_with fail
                   go_ret
                   exact ⟨ret_bool HS.out.symm, hbel.trans ((hw2.trans (hb2.mono (by simp))).mono hzr)⟩
               · have hll : l.take k = l := List.take_of_length_le (by omega)
                 rw [hll] at hf
                 have HS := Lib.hid (HIN.out.trans hf.out)
                 clear hll
                 go_wp2_with fail
                 go_ret
                 exact ⟨ret_bool HS.out.symm, hbel⟩)
end Go.Proofs.YtkkfdiidneoelaaGreatDoor

namespace Go.Proofs.YtkkfdiidneoelaaGreatDoor
open Go.RowKit

theorem lz_no {syms : List Sy} {l : List Lz} (h : diffFrom [] (l.map lznm) = false ∨ l.all (Lz.fits l.length syms.length) = false) : lzOk syms l = false := by
  unfold lzOk
  rcases h with h | h <;> simp [h]
/-- So many functions are seen. -/
def RcAt (l : List Lz) (c : Nat) (w : World) (i : Value) (wr : World) : Prop :=
  ∃ k : Nat, k ≤ l.length ∧ i = .int .i64 (k : Int) ∧ Hid (diffFrom [] ((l.map lznm).take k) = true ∧ (l.take k).all (Lz.fits l.length c) = true) ∧ Below w.heap.size w wr
/-- The names ahead are others. -/
def RcIn (l : List Lz) (k : Nat) (name : ByteArray) (g : Nat) (cs : Array Value) (w : World) (i : Value) (wr : World) : Prop :=
  ∃ j : Nat, j ≤ k ∧ i = .int .i64 (j : Int) ∧ Hid (((l.take j).map lznm).contains name.data.toList = false) ∧ Blk wr g 74 cs ∧ Below w.heap.size w wr
theorem lz_seen_succ {l : List Lz} {j : Nat} {y : Lz} (hy : l[j]? = some y) {s : List UInt8} (h : ((l.take j).map lznm).contains s = false) (hne : lznm y ≠ s) : ((l.take (j + 1)).map lznm).contains s = false := by
  rw [List.take_add_one, hy, List.map_append]
  rw [Bool.eq_false_iff] at h ⊢
  intro hh
  rw [List.contains_iff_mem, List.mem_append] at hh
  rcases hh with hh | hh
  · exact h (by rw [List.contains_iff_mem]; exact hh)
  · simp at hh; exact hne hh.symm
theorem lz_seen_hit {l : List Lz} {j k : Nat} {y : Lz} (hy : l[j]? = some y) (hjk : j < k) {s : List UInt8} (h : lznm y = s) : ((l.take k).map lznm).contains s = true := by
  rw [List.contains_iff_mem, List.mem_map]
  exact ⟨y, List.mem_of_getElem? (i := j) (by rw [List.getElem?_take_of_lt hjk]; exact hy), h⟩

set_option maxRecDepth 100000 in
set_option maxHeartbeats 6400000 in
theorem refCk_any (syms : List Sy) (l : List Lz) (v0 v1 : Value) (w : World) (hi : Nat) (hsy : SyIn w (fun b => b < hi) syms v0) (hl : LzIn w hi l v1) (hhi : hi ≤ w.heap.size) :
    Calls Tryz.prog 70 #[v0, v1] w fun e w' => e = .returned (.int .i64 (checkI syms l)) ∧ Below w.heap.size w w' := by
  have HC := Lib.hid (refSymbols_any syms v0 w (fun b => b < hi) hsy (fun b hb => by omega))
  obtain ⟨A0, n0, c0, hv0⟩ := hsy.form
  have hn0 : syms.length = n0 ∧ n0 ≤ c0 ∧ c0 ≤ 9223372036854775807 := by
    obtain ⟨A', n', c', e, h1, h2, h3, _⟩ := hsy
    rw [hv0] at e
    injection e with e1 e2 e3
    omega
  subst hv0
  obtain ⟨A, _, c, us, rfl, rfl, hnc, hc, hrd, hrow⟩ := hl
  cases hs : symsB syms with
  | false =>
    have HE : Hid (checkI syms l = 2) := Lib.hid (by simp [checkI, hs])
    rw [hs] at HC
    clear hs
    go_enter Tryz.func70, Tryz.ntmps70
    go_wp2_with fail
    refine HC.out.mono ?_
    rintro e w1 ⟨rfl, hb1⟩
    go_wp2_with fail
    go_ret
    exact ⟨ret_int HE.out.symm, hb1⟩
  | true =>
    rw [hs] at HC
    have h24 : syms.length ≤ 24 := by
      simp only [symsB, Bool.and_eq_true, decide_eq_true_eq] at hs
      exact hs.1
    have HCK : Hid (∀ z, lzOk syms l = z → checkI syms l = if z = true then 0 else 4) := Lib.hid (by rintro z rfl; simp [checkI, hs])
    clear hs
    by_cases h0 : l.length < 1
    · have HE : Hid (checkI syms l = 4) := Lib.hid (HCK.out false (by have : l = [] := List.eq_nil_of_length_eq_zero (by omega); subst this; simp [lzOk, lzStart, diffFrom]))
      have g0 : decide ((l.length : Int) < 1) = true := decide_eq_true (by omega)
      have g0' : (l.length : Int) < 1 := by omega
      clear h0
      go_enter Tryz.func70, Tryz.ntmps70
      go_wp2_with fail
      refine HC.out.mono ?_
      rintro e w1 ⟨rfl, hb1⟩
      go_wp2_with fail
      go_ret
      exact ⟨ret_int HE.out.symm, hb1⟩
    have g0 : decide ((l.length : Int) < 1) = false := decide_eq_false (by omega)
    have g0' : ¬ (l.length : Int) < 1 := by omega
    by_cases h64 : l.length ≤ 64
    case neg =>
      have HE : Hid (checkI syms l = 4) := Lib.hid (HCK.out false (by simp [lzOk, h64]))
      have g1 : decide (64 < (l.length : Int)) = true := decide_eq_true (by omega)
      clear h0 h64
      go_enter Tryz.func70, Tryz.ntmps70
      go_wp2_with fail
      refine HC.out.mono ?_
      rintro e w1 ⟨rfl, hb1⟩
      go_wp2_with fail
      go_ret
      exact ⟨ret_int HE.out.symm, hb1⟩
    have g1 : decide (64 < (l.length : Int)) = false := decide_eq_false (by omega)
    have H64 := Lib.hid h64
    obtain ⟨f0, hf0⟩ : ∃ f0, l[0]? = some f0 := ⟨l[0]'(by omega), List.getElem?_eq_getElem _⟩
    obtain ⟨ad, u, rfl, hPa, hel0, _, _⟩ := lz_el hrd hrow hf0
    have hst : lzStart l = decide (f0.params = 0) := by
      cases l with
      | nil => simp at hf0
      | cons a r => simp at hf0; subst hf0; rfl
    have HEL := Lib.hid hel0
    have hlp : (0 : Int) < (l.length : Int) := by omega
    by_cases hp0 : f0.params = 0
    case neg =>
      have HE : Hid (checkI syms l = 4) := Lib.hid (HCK.out false (by simp [lzOk, hst, hp0]))
      clear h0 h64 hf0 hst
      go_enter Tryz.func70, Tryz.ntmps70
      go_wp2_with fail
      refine HC.out.mono ?_
      rintro e w1 ⟨rfl, hb1⟩
      have r1 := (HEL.out.keep (hb1.block _ (by omega))).c1
      simp [Addr.add] at r1
      go_wp2_with fail
      go_ret
      exact ⟨ret_int HE.out.symm, hb1⟩
    have HOK : Hid (lzOk syms l = (diffFrom [] (l.map lznm) && l.all (Lz.fits l.length syms.length))) := Lib.hid (by simp [lzOk, h64, hst, hp0])
    have HNO : Hid (diffFrom [] (l.map lznm) = false ∨ l.all (Lz.fits l.length n0) = false → checkI syms l = 4) := Lib.hid fun h => HCK.out false (lz_no (by rw [hn0.1]; exact h))
    have HN0 := Lib.hid hn0.1
    have hn24 : n0 ≤ 24 := by omega
    clear h0 h64 hf0 hst
    go_enter Tryz.func70, Tryz.ntmps70
    go_wp2_with fail
    refine HC.out.mono ?_
    rintro e w1 ⟨rfl, hb1⟩
    have r1 := (HEL.out.keep (hb1.block _ (by omega))).c1
    simp [Addr.add] at r1
    have HB := Lib.hid hb1
    clear hb1
    go_wp2_with fail
    clear r1
    go_loopw [29] (fun i wr => RcAt l n0 w i wr) (fun i _ => l.length - (intOf i).toNat)
    case atStart => exact ⟨0, Nat.zero_le _, rfl, Lib.hid ⟨by simp [diffFrom], by simp⟩, HB.out⟩
    case round =>
      obtain ⟨k, hk, rfl, hf, hbel⟩ := hrel
      have hzr := hbel.size
      by_cases hlt : k < l.length
      · have hx : l[k]? = some l[k] := List.getElem?_eq_getElem hlt
        obtain ⟨ad', v, he, hPa', hel, hbv, hsx⟩ := lz_el hrd hrow hx
        obtain rfl : ad = ad' := by injection he
        obtain ⟨r0, r1, r2, r3, r4⟩ := hel.keep (hbel.block _ (by omega))
        have hxm : (l.map lznm)[k]? = some (lznm l[k]) := by rw [List.getElem?_map, hx]; rfl
        have hds := @diff_succ (l.map lznm) k _ hxm hf.out.1
        have hdn := @diff_false (l.map lznm) k _ hxm
        have hfs := @all_succ _ (Lz.fits l.length n0) l k _ hx hf.out.2
        have hfn := @all_no _ (Lz.fits l.length n0) l k _ hx
        rw [← List.map_take] at hds hdn
        generalize l[k] = x at *
        obtain ⟨name, params, body⟩ := x
        simp only [lznm] at r0 r1 r2 r3 r4 hbv hsx hds hdn
        obtain ⟨A', n', c', rfl⟩ := hbv.form
        have hbx : Below wr.heap.size wr (wr.alloc (.cells #[.string name, .int .i64 params, .int .i64 body.kind, .int .i64 body.num, .slice A' n' c'] 74)) := (Below.refl _ _).alloc (Nat.le_refl _) _
        have hbb := Blk.new wr 74 #[.string name, .int .i64 params, .int .i64 body.kind, .int .i64 body.num, .slice A' n' c']
        have hbx2 := hbel.trans (hbx.mono hzr)
        have HN := Lib.hid (refName_any name (wr.alloc (.cells #[.string name, .int .i64 params, .int .i64 body.kind, .int .i64 body.num, .slice A' n' c'] 74)) hsx)
        have HDS := Lib.hid hds
        have HDN := Lib.hid hdn
        have HFS := Lib.hid hfs
        have HFN := Lib.hid hfn
        have HBV : Hid (body.In w (fun b => b < hi) (.slice A' n' c')) := Lib.hid hbv
        have HBB := Lib.hid hbb
        clear hx hel hbv hxm hds hdn hfs hfn hbb he
        cases hnm : nameB name.data.toList with
        | false =>
          have HE : Hid (checkI syms l = 4) := Lib.hid (HNO.out (.inl (HDN.out (.inl hnm))))
          rw [hnm] at HN
          clear hnm
          go_wp2_with (go_at_call 43; refine HN.out.mono ?_; rintro e w' ⟨rfl, rfl⟩)
          go_ret
          exact ⟨ret_int HE.out.symm, hbx2⟩
        | true =>
          have HNM := Lib.hid hnm
          rw [hnm] at HN
          clear hnm
          by_cases hp0' : 0 ≤ params
          case neg =>
            have HE : Hid (checkI syms l = 4) := Lib.hid (HNO.out (.inr (HFN.out (by simp [Lz.fits, hp0']))))
            have g3 : decide (params < 0) = true := decide_eq_true (by omega)
            clear hp0'
            go_wp2_with (go_at_call 43; refine HN.out.mono ?_; rintro e w' ⟨rfl, rfl⟩)
            go_ret
            exact ⟨ret_int HE.out.symm, hbx2⟩
          by_cases hp8 : params ≤ 8
          case neg =>
            have HE : Hid (checkI syms l = 4) := Lib.hid (HNO.out (.inr (HFN.out (by simp [Lz.fits, hp8]))))
            have g3 : decide (params < 0) = false := decide_eq_false (by omega)
            have g4 : decide (8 < params) = true := decide_eq_true (by omega)
            clear hp0' hp8
            go_wp2_with (go_at_call 43; refine HN.out.mono ?_; rintro e w' ⟨rfl, rfl⟩)
            go_ret
            exact ⟨ret_int HE.out.symm, hbx2⟩
          obtain ⟨a, rfl⟩ : ∃ a : Nat, params = (a : Int) := ⟨params.toNat, by omega⟩
          have g3 : decide ((a : Int) < 0) = false := decide_eq_false (by omega)
          have g4 : decide (8 < (a : Int)) = false := decide_eq_false (by omega)
          have HFX : Hid (Lz.fits l.length n0 ⟨name, (a : Int), body⟩ = bodyIn a l.length n0 body) := Lib.hid (by simp [Lz.fits, hp0', hp8])
          have ha8 : a ≤ 8 := by omega
          have HND := Lib.hid (nodesT_any body.count body (.slice A' n' c') 400 (wr.alloc (.cells #[.string name, .int .i64 (a : Int), .int .i64 body.kind, .int .i64 body.num, .slice A' n' c'] 74)) (fun b => b < hi) (Nat.le_refl _) (by decide) (by decide) (T.In.below HBV.out hbx2 (fun b hb => by omega)) (fun b hb => by have := hbx2.size; omega))
          clear hp0' hp8
          by_cases h4 : body.count ≤ 400
          case neg =>
            have HE : Hid (checkI syms l = 4) := Lib.hid (HNO.out (.inr (HFN.out (by rw [HFX.out]; simp [bodyIn, h4]))))
            have hmin : min (body.count : Int) (400 + 1) = 401 := by omega
            rw [hmin] at HND
            clear h4 hmin
            go_wp2_with (go_at_call 43; refine HN.out.mono ?_; rintro e w' ⟨rfl, rfl⟩)
            refine HND.out.mono ?_
            rintro e w2 ⟨rfl, hb2⟩
            have hb := hbx2.trans (hb2.mono hbx2.size)
            clear hb2
            go_wp2_with fail
            go_ret
            exact ⟨ret_int HE.out.symm, hb⟩
          have hmin : min (body.count : Int) (400 + 1) = (body.count : Int) := by omega
          rw [hmin] at HND
          have g5 : ¬ 400 < (body.count : Int) := by omega
          have HDP : Hid (∀ W, Below wr.heap.size wr W → Calls Tryz.prog 50 #[.agg #[.int .i64 body.kind, .int .i64 body.num, .slice A' n' c']] W fun e w' => e = .returned (.int .i64 (body.deep : Int)) ∧ Below W.heap.size W w') :=
            Lib.hid fun W hW => depthT_any body.count body (.slice A' n' c') W (fun b => b < hi) (Nat.le_refl _) (by omega) (T.In.below HBV.out (hbel.trans (hW.mono hzr)) (fun b hb => by omega)) (fun b hb => by have := (hbel.trans (hW.mono hzr)).size; omega)
          have HXS : Hid (∀ W, Below wr.heap.size wr W → Calls Tryz.prog 123 #[.agg #[.int .i64 body.kind, .int .i64 body.num, .slice A' n' c'], .int .i64 (a : Int), .int .i64 (l.length : Int), .int .i64 (n0 : Int)] W fun e w' => e = .returned (.bool (body.exist a l.length n0)) ∧ Below W.heap.size W w') :=
            Lib.hid fun W hW => refExist_any a l.length n0 (by omega) (by have := H64.out; omega) (by omega) body.count body (.slice A' n' c') W (fun b => b < hi) (Nat.le_refl _) (T.In.below HBV.out (hbel.trans (hW.mono hzr)) (fun b hb => by omega)) (fun b hb => by have := (hbel.trans (hW.mono hzr)).size; omega)
          have H4 := Lib.hid h4
          clear h4 hmin
          by_cases h3 : body.deep ≤ 30
          case neg =>
            have HE : Hid (checkI syms l = 4) := Lib.hid (HNO.out (.inr (HFN.out (by rw [HFX.out]; simp [bodyIn, h3]))))
            have g6 : 30 < (body.deep : Int) := by omega
            clear h3
            go_wp2_with (go_at_call 43; refine HN.out.mono ?_; rintro e w' ⟨rfl, rfl⟩)
            refine HND.out.mono ?_
            rintro e w2 ⟨rfl, hb2⟩
            have hbk2 := HBB.out.below hb2 HBB.out.lt
            have z2 := hbk2.cell 2
            have z3 := hbk2.cell 3
            have z4 := hbk2.cell 4
            have hb3 : Below wr.heap.size wr w2 := hbx.trans (hb2.mono hbx.size)
            simp at z2 z3 z4
            clear hb2 hbk2
            go_wp2_with fail
            refine (HDP.out w2 hb3).mono ?_
            rintro e w3 ⟨rfl, hb4⟩
            have hb := hbel.trans ((hb3.trans (hb4.mono hb3.size)).mono hzr)
            clear hb4
            go_wp2_with fail
            go_ret
            exact ⟨ret_int HE.out.symm, hb⟩
          have g6 : ¬ 30 < (body.deep : Int) := by omega
          have HFX2 : Hid (Lz.fits l.length n0 ⟨name, (a : Int), body⟩ = body.exist a l.length n0) := Lib.hid (by rw [HFX.out]; simp [bodyIn, H4.out, h3])
          clear h3
          go_wp2_with (go_at_call 43; refine HN.out.mono ?_; rintro e w' ⟨rfl, rfl⟩)
          refine HND.out.mono ?_
          rintro e w2 ⟨rfl, hb2⟩
          have hbk2 := HBB.out.below hb2 HBB.out.lt
          have z1 := hbk2.cell 1
          have z2 := hbk2.cell 2
          have z3 := hbk2.cell 3
          have z4 := hbk2.cell 4
          have hb3 : Below wr.heap.size wr w2 := hbx.trans (hb2.mono hbx.size)
          have HK2 := Lib.hid hbk2
          simp at z1 z2 z3 z4
          clear hb2 hbk2
          go_wp2_with fail
          refine (HDP.out w2 hb3).mono ?_
          rintro e w3 ⟨rfl, hb4⟩
          have hb5 : Below wr.heap.size wr w3 := hb3.trans (hb4.mono hb3.size)
          have hbk3 := HK2.out.below hb4 HK2.out.lt
          have y0 := hbk3.cell 0
          have y1 := hbk3.cell 1
          have y2 := hbk3.cell 2
          have y3 := hbk3.cell 3
          have y4 := hbk3.cell 4
          have HK3 := Lib.hid hbk3
          have HX3 := Lib.hid (HXS.out w3 hb5)
          simp at y0 y1 y2 y3 y4
          clear z1 z2 z3 z4 hb3 hb4 hbk3
          cases hex : body.exist a l.length n0 with
          | false =>
            have HE : Hid (checkI syms l = 4) := Lib.hid (HNO.out (.inr (HFN.out (HFX2.out.trans hex))))
            rw [hex] at HX3
            clear hex
            go_wp2_with fail
            refine HX3.out.mono ?_
            rintro e w4 ⟨rfl, hb6⟩
            have hb := hbel.trans ((hb5.trans (hb6.mono hb5.size)).mono hzr)
            clear hb6
            go_wp2_with fail
            go_ret
            exact ⟨ret_int HE.out.symm, hb⟩
          | true =>
            have HFS2 := Lib.hid (HFS.out (HFX2.out.trans hex))
            rw [hex] at HX3
            clear hex
            go_wp2_with fail
            refine HX3.out.mono ?_
            rintro e w4 ⟨rfl, hb6⟩
            have H0 : Hid (RcIn l k name wr.heap.size #[.string name, .int .i64 (a : Int), .int .i64 body.kind, .int .i64 body.num, .slice A' n' c'] w (.int .i64 0) w4) := by
              have hb := hbel.trans ((hb5.trans (hb6.mono hb5.size)).mono hzr)
              exact Lib.hid ⟨0, Nat.zero_le _, rfl, Lib.hid (by simp), HK3.out.below hb6 HK3.out.lt, hb⟩
            clear hb6 hb5 y0 y1 y2 y3 y4
            go_wp2_with fail
            go_loopw [76] (fun i wq => RcIn l k name wr.heap.size #[.string name, .int .i64 (a : Int), .int .i64 body.kind, .int .i64 body.num, .slice A' n' c'] w i wq) (fun i _ => k - (intOf i).toNat)
            case atStart => exact H0.out
            case round =>
              clear H0
              obtain ⟨j, hj, rfl, hg, hbq, hbelq⟩ := hrel
              have hzq := hbelq.size
              have hlq := hbq.lt
              have c0' := hbq.cell 0
              simp at c0'
              by_cases hltj : j < k
              · have hltl : j < l.length := by omega
                have hy : l[j]? = some l[j] := List.getElem?_eq_getElem hltl
                obtain ⟨ad2, v2, hAd, hPa2, hel2, hbv2, _⟩ := lz_el hrd hrow hy
                obtain ⟨q0, q1, q2, q3, q4⟩ := hel2.keep (hbelq.block _ (by omega))
                have hAd := Option.some.inj hAd
                subst hAd
                have hsuc := @lz_seen_succ l j _ hy name.data.toList hg.out
                have hhit := @lz_seen_hit l j k _ hy hltj name.data.toList
                generalize l[j] = y at *
                obtain ⟨name2, params2, body2⟩ := y
                simp only [lznm] at q0 q1 q2 q3 q4 hbv2 hsuc hhit
                obtain ⟨A2, n2, c2, rfl⟩ := hbv2.form
                have hby : Below wr.heap.size wr (wr.alloc (.cells #[.string name2, .int .i64 params2, .int .i64 body2.kind, .int .i64 body2.num, .slice A2 n2 c2] 74)) := (Below.refl _ _).alloc (Nat.le_refl _) _
                by_cases he : name = name2
                · subst he
                  have HE : Hid (checkI syms l = 4) := Lib.hid (HNO.out (.inl (HDN.out (.inr (hhit rfl)))))
                  clear hy hel2 hsuc hhit hbv2
                  go_wp2_with fail
                  go_ret
                  exact ⟨ret_int HE.out.symm, hbelq.trans (hby.mono hzq)⟩
                · have HS : Hid (((l.take (j + 1)).map lznm).contains name.data.toList = false) := Lib.hid (hsuc (fun e => he (nm_eq e.symm)))
                  have e1 : (name.toList == name2.toList) = false := beq_false_of_ne (fun e => he (nm_eq (by rw [← ByteArray.toList_eq, ← ByteArray.toList_eq]; exact e)))
                  clear hy hel2 hsuc hhit he hbv2
                  go_wp2_with fail
                  go_roundw
                  case rel => exact ⟨j + 1, by omega, by go_num, HS, hbq.alloc _, hbelq.trans (hby.mono hzq)⟩
                  case measure => simp [intOf]; omega
              · have hjk : j = k := by omega
                have HR : Hid (RcAt l n0 w (.int .i64 ((k + 1 : Nat) : Int)) wr) := by
                  have hgk : ((l.take k).map lznm).contains name.data.toList = false := by rw [← hjk]; exact hg.out
                  exact Lib.hid ⟨k + 1, by omega, rfl, Lib.hid ⟨by have := HDS.out HNM.out hgk; simpa only [List.map_take] using this, HFS2.out⟩, hbelq⟩
                clear hjk
                go_wp2_with fail
                go_roundw
                case rel => simpa using HR.out
                case measure => simp [intOf]; omega
      · have hll : l.take k = l := List.take_of_length_le (by omega)
        have hlm : (l.map lznm).take k = l.map lznm := List.take_of_length_le (by simp; omega)
        rw [hll, hlm] at hf
        have HE : Hid (checkI syms l = 0) := Lib.hid (by
          have := HCK.out _ HOK.out
          rw [HN0.out, hf.out.1, hf.out.2] at this
          exact this)
        clear hll hlm
        go_wp2_with fail
        go_ret
        exact ⟨ret_int HE.out.symm, hbel⟩
end Go.Proofs.YtkkfdiidneoelaaGreatDoor
