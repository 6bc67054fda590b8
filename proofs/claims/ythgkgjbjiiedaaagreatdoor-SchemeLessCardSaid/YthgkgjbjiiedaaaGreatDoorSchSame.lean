/-
  scheme.Same: contract.
-/
import Derived.Test.YthgkgjbjiiedaaaGreatDoorSRefEq
import Derived.Test.YthgkgjbjiiedaaaGreatDoorGG
namespace Go.Proofs.YthgkgjbjiiedaaaGreatDoor
open Go.RowKit

set_option maxHeartbeats 1600000 in
theorem eqSy_any (l m : List Sy) (v u : Value) (w : World) (P Q : Nat → Prop) (hl : SyIn w P l v) (hm : SyIn w Q m u) (hP : Old P w) (hQ : Old Q w) :
    Calls Tryz.prog 43 #[v, u] w fun e w' => e = .returned (.bool (eqLs syEq l m)) ∧ Below w.heap.size w w' := by
  obtain ⟨A0, _, c0, rfl, rfl, hnc0, hc0, hrd0, hsz0⟩ := hl
  obtain ⟨A2, n2, c2, rfl, hm2, hnc2, hc2, hrd2, hsz2⟩ := hm
  by_cases hl1 : l.length = n2
  case neg =>
    have HE : Hid (eqLs syEq l m = false) := Lib.hid (eqLs_len (by omega))
    have g1 : ¬ (l.length : Int) = (n2 : Int) := by omega
    clear hl1
    go_enter Tryz.func43, Tryz.ntmps43
    go_wp2_with fail
    go_ret
    exact ⟨ret_bool HE.out.symm, Below.refl _ _⟩
  subst hl1
  have HM2 := Lib.hid hm2
  clear hm2
  go_enter Tryz.func43, Tryz.ntmps43
  go_wp2_with fail
  go_loopw [13, 5] (fun iv _ wr => ∃ k : Nat, k ≤ l.length ∧ iv = .int .i64 k ∧ Hid (eqLs syEq (l.take k) (m.take k) = true) ∧ Below w.heap.size w wr) (fun iv _ _ => l.length - (intOf iv).toNat)
  case atStart => exact ⟨0, Nat.zero_le _, rfl, Lib.hid (by simp [eqLs]), Below.refl _ _⟩
  case round =>
    obtain ⟨k, hk, rfl, hf, hbel⟩ := hrel
    by_cases hlt : k < l.length
    · have hx : l[k]? = some l[k] := List.getElem?_eq_getElem hlt
      have hlt2 : k < m.length := by have := HM2.out; omega
      have hy : m[k]? = some m[k] := List.getElem?_eq_getElem hlt2
      obtain ⟨ad, rfl, hPa, hel⟩ := sy_el hrd0 hx
      obtain ⟨r0, r1⟩ := hel.keep (hbel.block _ (hP _ hPa))
      obtain ⟨ad2, rfl, hPa2, hel2⟩ := sy_el hrd2 hy
      obtain ⟨q0, q1⟩ := hel2.keep (hbel.block _ (hQ _ hPa2))
      have hkc : (k : Int) < (l.length : Int) := by omega
      have hk0 : (0 : Int) ≤ (k : Int) := by omega
      have hsu := eqLs_succ hx hy hf.out
      have hno := @eqLs_no _ syEq l m k _ _ hx hy
      generalize l[k] = x at *
      generalize m[k] = y at *
      obtain ⟨xn, xr⟩ := x
      obtain ⟨yn, yr⟩ := y
      simp only at r0 r1 q0 q1
      by_cases hxy : xn = yn ∧ xr = yr
      · obtain ⟨rfl, rfl⟩ := hxy
        have HS : Hid (eqLs syEq (l.take (k + 1)) (m.take (k + 1)) = true) := Lib.hid (by rw [hsu]; simp [syEq])
        clear hx hy hel hel2 hsu hno
        go_wp2_with fail
        go_region
        all_goals
          go_wp2_with fail
          go_roundw
          case rel => exact ⟨k + 1, by omega, by go_num, HS, hbel.drew⟩
          case measure => simp [intOf]; omega
      · have HE : Hid (eqLs syEq l m = false) := Lib.hid (hno (by simp only [syEq, Bool.and_eq_false_iff, decide_eq_false_iff_not]; by_cases h1 : xn = yn <;> simp_all))
        clear hx hy hel hel2 hsu hno
        by_cases hn : xn = yn
        · subst hn
          have hr : ¬ xr = yr := fun e => hxy ⟨rfl, e⟩
          clear hxy
          go_wp2_with fail
          go_region
          all_goals
            go_wp2_with fail
            go_ret
            exact ⟨ret_bool HE.out.symm, hbel.drew⟩
        · have hr : ¬ xn.toList = yn.toList := fun e => hn (nm_eq (by rw [← ByteArray.toList_eq, ← ByteArray.toList_eq]; exact e))
          clear hxy hn
          go_wp2_with fail
          go_region
          all_goals
            go_wp2_with fail
            go_ret
            exact ⟨ret_bool HE.out.symm, hbel.drew⟩
    · have h1 : l.take k = l := List.take_of_length_le (by omega)
      have h2 : m.take k = m := List.take_of_length_le (by have := HM2.out; omega)
      rw [h1, h2] at hf
      clear h1 h2
      go_wp2_with fail
      go_ret
      exact ⟨ret_bool hf.out.symm, hbel⟩

/-- What the program's comparison of two functions answers. -/
def fnSame (x y : Fn) : Bool := decide (x.name = y.name) && ((decide (x.sort.count ≤ 60) && (decide (y.sort.count ≤ 60) && x.sort.eqb y.sort)) && (!x.body.large && x.body.eqb y.body))
set_option maxRecDepth 100000 in
set_option maxHeartbeats 1600000 in
theorem sameFun_any (x y : Fn) (u v u' v' : Value) (w : World) (hi : Nat) (hhi : hi ≤ w.heap.size) (h1 : x.sort.In w 0 hi u) (h2 : x.body.In w (fun b => b < hi) v) (h3 : y.sort.In w 0 hi u') (h4 : y.body.In w (fun b => b < hi) v') :
    Calls Tryz.prog 45 #[x.val u v, y.val u' v'] w fun e w' => e = .returned (.bool (fnSame x y)) ∧ Below w.heap.size w w' := by
  obtain ⟨B1, m1, g1, rfl⟩ := h1.form
  obtain ⟨B2, m2, g2, rfl⟩ := h2.form
  obtain ⟨B3, m3, g3, rfl⟩ := h3.form
  obtain ⟨B4, m4, g4, rfl⟩ := h4.form
  obtain ⟨xn, xs, xb⟩ := x
  obtain ⟨yn, ys, yb⟩ := y
  unfold Fn.val
  simp only at h1 h2 h3 h4
  have hb : Below w.heap.size w ((w.alloc (.cells #[.string xn, .slice B1 m1 g1, .int .i64 xb.kind, .int .i64 xb.num, .slice B2 m2 g2] 52)).alloc (.cells #[.string yn, .slice B3 m3 g3, .int .i64 yb.kind, .int .i64 yb.num, .slice B4 m4 g4] 52)) := ((Below.refl _ _).alloc (Nat.le_refl _) _).alloc (by simp) _
  have bx : Blk ((w.alloc (.cells #[.string xn, .slice B1 m1 g1, .int .i64 xb.kind, .int .i64 xb.num, .slice B2 m2 g2] 52)).alloc (.cells #[.string yn, .slice B3 m3 g3, .int .i64 yb.kind, .int .i64 yb.num, .slice B4 m4 g4] 52)) w.heap.size 52 #[.string xn, .slice B1 m1 g1, .int .i64 xb.kind, .int .i64 xb.num, .slice B2 m2 g2] := (Blk.new _ _ _).alloc _
  have by_ : Blk ((w.alloc (.cells #[.string xn, .slice B1 m1 g1, .int .i64 xb.kind, .int .i64 xb.num, .slice B2 m2 g2] 52)).alloc (.cells #[.string yn, .slice B3 m3 g3, .int .i64 yb.kind, .int .i64 yb.num, .slice B4 m4 g4] 52)) (w.heap.size + 1) 52 #[.string yn, .slice B3 m3 g3, .int .i64 yb.kind, .int .i64 yb.num, .slice B4 m4 g4] := by
    have := Blk.new (w.alloc (.cells #[.string xn, .slice B1 m1 g1, .int .i64 xb.kind, .int .i64 xb.num, .slice B2 m2 g2] 52)) 52 #[.string yn, .slice B3 m3 g3, .int .i64 yb.kind, .int .i64 yb.num, .slice B4 m4 g4]
    simpa using this
  have HSO := Lib.hid (same_any xs ys _ _ _ 0 hi 0 hi (h1.below hb hhi) (by simp; omega) (h3.below hb hhi) (by simp; omega))
  have HBO := Lib.hid (fun W (hW : Below w.heap.size w W) => sameT_any xb yb _ _ W (fun b => b < hi) (fun b => b < hi) (T.In.below h2 hW (fun _ h => by omega)) (fun b hb => by have := hW.size; omega) (T.In.below h4 hW (fun _ h => by omega)) (fun b hb => by have := hW.size; omega))
  have d0 := bx.cell 0
  have d1 := bx.cell 1
  have e0 := by_.cell 0
  have e1 := by_.cell 1
  simp at d0 d1 e0 e1
  have HB := Lib.hid hb
  have BX := Lib.hid bx
  have BY := Lib.hid by_
  by_cases hn : xn = yn
  · subst hn
    cases hs : (decide (xs.count ≤ 60) && (decide (ys.count ≤ 60) && xs.eqb ys)) with
    | false =>
      have HF : Hid (fnSame ⟨xn, xs, xb⟩ ⟨xn, ys, yb⟩ = false) := Lib.hid (by simp [fnSame, hs])
      rw [hs] at HSO
      clear hs bx by_ hb
      go_enter Tryz.func45, Tryz.ntmps45
      go_wp2_with fail
      refine HSO.out.mono ?_
      rintro e w1 ⟨rfl, b1⟩
      go_wp2_with fail
      go_ret
      exact ⟨ret_bool HF.out.symm, HB.out.trans (b1.mono HB.out.size)⟩
    | true =>
      have HF : Hid (fnSame ⟨xn, xs, xb⟩ ⟨xn, ys, yb⟩ = (!xb.large && xb.eqb yb)) := Lib.hid (by simp [fnSame, hs])
      rw [hs] at HSO
      clear hs bx by_ hb
      go_enter Tryz.func45, Tryz.ntmps45
      go_wp2_with fail
      refine HSO.out.mono ?_
      rintro e w1 ⟨rfl, b1⟩
      have bx1 := BX.out.below b1 BX.out.lt
      have by1 := BY.out.below b1 BY.out.lt
      have f2 := bx1.cell 2
      have f3 := bx1.cell 3
      have f4 := bx1.cell 4
      have k2 := by1.cell 2
      have k3 := by1.cell 3
      have k4 := by1.cell 4
      simp at f2 f3 f4 k2 k3 k4
      have hb1 := HB.out.trans (b1.mono HB.out.size)
      have HB1 := Lib.hid (HBO.out w1 hb1)
      clear HBO HSO d0 d1 e0 e1 bx1 by1
      go_wp2_with fail
      refine HB1.out.mono ?_
      rintro e w2 ⟨rfl, b2⟩
      go_wp2_with fail
      go_ret
      exact ⟨ret_bool HF.out.symm, hb1.trans (b2.mono hb1.size)⟩
  · have HF : Hid (fnSame ⟨xn, xs, xb⟩ ⟨yn, ys, yb⟩ = false) := Lib.hid (by simp [fnSame, hn])
    have hr : (xn.toList == yn.toList) = false := beq_false_of_ne (fun e => hn (nm_eq (by rw [← ByteArray.toList_eq, ← ByteArray.toList_eq]; exact e)))
    clear hn bx by_ hb
    go_enter Tryz.func45, Tryz.ntmps45
    go_wp2_with fail
    go_ret
    exact ⟨ret_bool HF.out.symm, HB.out⟩

set_option maxRecDepth 100000 in
set_option maxHeartbeats 1600000 in
theorem eqFn_any (l m : List Fn) (v u : Value) (w : World) (hi : Nat) (hl : FnIn w hi l v) (hm : FnIn w hi m u) (hhi : hi ≤ w.heap.size) :
    Calls Tryz.prog 44 #[v, u, .func (.func 45) #[] #[]] w fun e w' => e = .returned (.bool (eqLs fnSame l m)) ∧ Below w.heap.size w w' := by
  have HL := Lib.hid hl
  have HM := Lib.hid hm
  obtain ⟨A1, _, c1, us1, rfl, rfl, hnc1, hc1, hrd1, hrow1⟩ := hl
  obtain ⟨A3, n3, c3, us3, rfl, hm3, hnc3, hc3, hrd3, hrow3⟩ := hm
  by_cases hl1 : l.length = n3
  case neg =>
    have HE : Hid (eqLs fnSame l m = false) := Lib.hid (eqLs_len (by omega))
    have g1 : ¬ (l.length : Int) = (n3 : Int) := by omega
    clear hl1
    go_enter Tryz.func44, Tryz.ntmps44
    go_wp2_with fail
    go_ret
    exact ⟨ret_bool HE.out.symm, Below.refl _ _⟩
  subst hl1
  have HM3 := Lib.hid hm3
  clear hm3
  go_enter Tryz.func44, Tryz.ntmps44
  go_wp2_with fail
  go_loopw [17, 7] (fun iv _ wr => ∃ k : Nat, k ≤ l.length ∧ iv = .int .i64 k ∧ Hid (eqLs fnSame (l.take k) (m.take k) = true) ∧ Below w.heap.size w wr) (fun iv _ _ => l.length - (intOf iv).toNat)
  case atStart => exact ⟨0, Nat.zero_le _, rfl, Lib.hid (by simp [eqLs]), Below.refl _ _⟩
  case round =>
    obtain ⟨k, hk, rfl, hf, hbel⟩ := hrel
    have hzr := hbel.size
    by_cases hlt : k < l.length
    · have hx : l[k]? = some l[k] := List.getElem?_eq_getElem hlt
      have hlt2 : k < m.length := by have := HM3.out; omega
      have hy : m[k]? = some m[k] := List.getElem?_eq_getElem hlt2
      obtain ⟨ad, u, v, rfl, hPa, hel, hsu, hbv, _⟩ := fn_el hrd1 hrow1 hx
      obtain ⟨ad2, u', v', rfl, hPa2, hel2, hsu2, hbv2, _⟩ := fn_el hrd3 hrow3 hy
      obtain ⟨r0, r1, r2, r3, r4⟩ := hel.keep (hbel.block _ (by omega))
      have hsc := eqLs_succ hx hy hf.out
      have hno := @eqLs_no _ fnSame l m k _ _ hx hy
      have hcs := fun W (hW : Below w.heap.size w W) => sameFun_any l[k] m[k] u v u' v' W hi (by have := hW.size; omega) (hsu.below hW hhi) (T.In.below hbv hW (fun _ h => by omega)) (hsu2.below hW hhi) (T.In.below hbv2 hW (fun _ h => by omega))
      obtain ⟨B1, m1, g1, rfl⟩ := hsu.form
      obtain ⟨B2, m2, g2, rfl⟩ := hbv.form
      obtain ⟨B3, m3, g3, rfl⟩ := hsu2.form
      obtain ⟨B4, m4, g4, rfl⟩ := hbv2.form
      have hkc : (k : Int) < (l.length : Int) := by omega
      have hk0 : (0 : Int) ≤ (k : Int) := by omega
      generalize l[k] = x at *
      generalize m[k] = y at *
      unfold Fn.val at hcs
      have HCS := Lib.hid hcs
      have hb2 : Below w.heap.size w ((wr.alloc (.cells #[.string x.name, .slice B1 m1 g1, .int .i64 x.body.kind, .int .i64 x.body.num, .slice B2 m2 g2] 52)).alloc (.cells #[.string y.name, .slice B3 m3 g3, .int .i64 y.body.kind, .int .i64 y.body.num, .slice B4 m4 g4] 52)) := (hbel.alloc hzr _).alloc (by simp; omega) _
      have HC2 := Lib.hid (HCS.out _ hb2)
      have hba := hbel.alloc hzr (.cells #[.string x.name, .slice B1 m1 g1, .int .i64 x.body.kind, .int .i64 x.body.num, .slice B2 m2 g2] 52)
      obtain ⟨t0, t1, t2, t3, t4⟩ := hel2.keep (hba.block _ (by omega))
      clear hba
      clear hx hy hel hel2 hcs HCS hsu hsu2 hbv hbv2
      cases hs : fnSame x y with
      | true =>
        have HS := Lib.hid (hsc.trans hs)
        rw [hs] at HC2
        clear hs hsc hno
        go_wp2_with fail
        refine HC2.out.mono ?_
        rintro e w3 ⟨rfl, b3⟩
        go_wp2_with fail
        go_roundw
        case rel => exact ⟨k + 1, by omega, by go_num, HS, hb2.trans (b3.mono hb2.size)⟩
        case measure => simp [intOf]; omega
      | false =>
        have HE := Lib.hid (hno hs)
        rw [hs] at HC2
        clear hs hsc hno
        go_wp2_with fail
        refine HC2.out.mono ?_
        rintro e w3 ⟨rfl, b3⟩
        go_wp2_with fail
        go_ret
        exact ⟨ret_bool HE.out.symm, hb2.trans (b3.mono hb2.size)⟩
    · have h1 : l.take k = l := List.take_of_length_le (by omega)
      have h2 : m.take k = m := List.take_of_length_le (by have := HM3.out; omega)
      rw [h1, h2] at hf
      clear h1 h2
      go_wp2_with fail
      go_ret
      exact ⟨ret_bool hf.out.symm, hbel⟩

theorem eqLs_iff {α : Type} {r : α → α → Bool} (hr : ∀ x y, r x y = true ↔ x = y) : ∀ {l m : List α}, eqLs r l m = true ↔ l = m
  | [], [] => by simp [eqLs]
  | x :: l, y :: m => by simp [eqLs, hr, eqLs_iff hr]
  | [], _ :: _ => by simp [eqLs]
  | _ :: _, [] => by simp [eqLs]
theorem syEq_iff (x y : Sy) : syEq x y = true ↔ x = y := by
  obtain ⟨a, b⟩ := x
  obtain ⟨c, d⟩ := y
  simp [syEq]
theorem fnEq_iff (x y : Fn) : fnEq x y = true ↔ x = y := by
  obtain ⟨a, b, c⟩ := x
  obtain ⟨d, e, f⟩ := y
  simp [fnEq, S.eqb_iff, T.eqb_iff]
theorem Sc.eqb_iff (a b : Sc) : a.eqb b = true ↔ a = b := by
  obtain ⟨x, y⟩ := a
  obtain ⟨u, v⟩ := b
  simp [Sc.eqb, eqLs_iff syEq_iff, eqLs_iff fnEq_iff]
theorem fnSame_good {a : Sc} (h : a.Good) : ∀ (l m : List Fn), (∀ f ∈ l, f ∈ a.funs) → eqLs fnSame l m = eqLs fnEq l m
  | [], [], _ => rfl
  | [], _ :: _, _ => rfl
  | _ :: _, [], _ => rfl
  | x :: l, y :: m, hl => by
    have hx := hl x (by simp)
    have h1 := S.ok_count (h.so x hx)
    have h2 : x.body.large = false := by
      have := (h.body hx).1
      simp only [T.large, decide_eq_false_iff_not]; omega
    have ih := fnSame_good h l m (fun f hf => hl f (by simp [hf]))
    have he : fnSame x y = fnEq x y := by
      simp only [fnSame, fnEq, h2, decide_eq_true h1, Bool.true_and, Bool.not_false]
      cases hs : x.sort.eqb y.sort with
      | false => simp
      | true =>
        have e := (S.eqb_iff _ _).1 hs
        have h3 : decide (y.sort.count ≤ 60) = true := by rw [← e]; exact decide_eq_true h1
        simp [h3]
    simp only [eqLs, ih, he]
theorem Sc.same_eq (a b : Sc) : a.same b = (a.ok && (eqLs syEq a.syms b.syms && eqLs fnSame a.funs b.funs)) := by
  unfold Sc.same
  cases h : a.ok with
  | false => simp
  | true =>
    rw [fnSame_good (Sc.good h) _ _ (fun f hf => hf)]
    have e : (eqLs syEq a.syms b.syms && eqLs fnEq a.funs b.funs) = a.eqb b := rfl
    rw [e]
    cases he : a.eqb b with
    | false => simp
    | true =>
      have := (Sc.eqb_iff a b).1 he
      rw [← this, h]; rfl

set_option maxRecDepth 100000 in
set_option maxHeartbeats 1600000 in
theorem schemeSame_any (a b : Sc) (v0 v1 u0 u1 : Value) (w : World) (hi : Nat) (ha : ScIn w hi a v0 v1) (hb : ScIn w hi b u0 u1) (hhi : hi ≤ w.heap.size) :
    Calls Tryz.prog 17 #[.agg #[v0, v1], .agg #[u0, u1]] w fun e w' => e = .returned (.bool (a.same b)) ∧ Below w.heap.size w w' := by
  have k0 := Sc2.start ha hb hhi
  have HC := Lib.hid (schemeCheck_any a _ _ _ hi k0.ia (by have := k0.bb.lt; have := k0.hi; omega))
  have HSy := Lib.hid (fun W (h : Sc2 a b v0 v1 u0 u1 hi w.heap.size w W) => eqSy_any a.syms b.syms v0 u0 W _ _ h.ia.sy h.ib.sy (fun b hb => by have := h.bb.lt; omega) (fun b hb => by have := h.bb.lt; omega))
  have HFn := Lib.hid (fun W (h : Sc2 a b v0 v1 u0 u1 hi w.heap.size w W) => eqFn_any a.funs b.funs v1 u1 W hi h.ia.fn h.ib.fn (by have := h.bb.lt; omega))
  have HF := Lib.hid (Sc.same_eq a b)
  obtain ⟨⟨A0, n0, c0, rfl⟩, ⟨A1, n1, c1, rfl⟩⟩ := ha.form
  obtain ⟨⟨A2, n2, c2, rfl⟩, ⟨A3, n3, c3, rfl⟩⟩ := hb.form
  obtain ⟨d0, d1, d2, d3⟩ := k0.four
  generalize a.same b = R at *
  generalize eqLs syEq a.syms b.syms = r1 at *
  generalize eqLs fnSame a.funs b.funs = r2 at *
  cases hok : a.ok with
  | false =>
    rw [hok] at HC HF
    go_enter Tryz.func17, Tryz.ntmps17
    go_wp2_with fail
    refine HC.out.mono ?_
    rintro e w1 ⟨rfl, b1⟩
    have k1 := k0.next b1
    simp only [schErr]
    go_wp2_with fail
    go_ret
    exact ⟨ret_bool (by rw [HF.out]; rfl), k1.bel⟩
  | true =>
    rw [hok] at HC HF
    simp only [schErr, if_true] at HC
    cases r1 with
    | false =>
      go_enter Tryz.func17, Tryz.ntmps17
      go_wp2_with fail
      refine HC.out.mono ?_
      rintro e w1 ⟨rfl, b1⟩
      have k1 := k0.next b1
      obtain ⟨e0, e1, e2, e3⟩ := k1.four
      have H1 := Lib.hid (HSy.out _ k1)
      clear d0 d1 d2 d3 hok
      go_wp2_with fail
      refine H1.out.mono ?_
      rintro e w2 ⟨rfl, b2⟩
      have k2 := k1.next b2
      go_wp2_with fail
      go_ret
      exact ⟨ret_bool (by rw [HF.out]; rfl), k2.bel⟩
    | true =>
      go_enter Tryz.func17, Tryz.ntmps17
      go_wp2_with fail
      refine HC.out.mono ?_
      rintro e w1 ⟨rfl, b1⟩
      have k1 := k0.next b1
      obtain ⟨e0, e1, e2, e3⟩ := k1.four
      have H1 := Lib.hid (HSy.out _ k1)
      clear d0 d1 d2 d3 hok
      go_wp2_with fail
      refine H1.out.mono ?_
      rintro e w2 ⟨rfl, b2⟩
      have k2 := k1.next b2
      obtain ⟨f0, f1, f2, f3⟩ := k2.four
      have H2 := Lib.hid (HFn.out _ k2)
      clear e0 e1 e2 e3
      go_wp2_with fail
      refine H2.out.mono ?_
      rintro e w3 ⟨rfl, b3⟩
      have k3 := k2.next b3
      go_wp2_with fail
      go_ret
      exact ⟨ret_bool (by rw [HF.out]; simp), k3.bel⟩
end Go.Proofs.YthgkgjbjiiedaaaGreatDoor
