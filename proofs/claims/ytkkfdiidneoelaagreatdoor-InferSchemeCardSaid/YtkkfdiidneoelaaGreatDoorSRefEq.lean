/-
  Reference 03: Equal and Same; which schemes are equal.
-/
import Derived.Test.YtkkfdiidneoelaaGreatDoorGS
import Derived.Test.YtkkfdiidneoelaaGreatDoorGC
import Derived.Test.YtkkfdiidneoelaaGreatDoorGB
import Derived.BigQuiet
import Derived.Deep.RegionHeld3
namespace Go.Proofs.YtkkfdiidneoelaaGreatDoor
open Go.RowKit

def eqLs {α : Type} (r : α → α → Bool) : List α → List α → Bool
  | [], [] => true
  | x :: l, y :: m => r x y && eqLs r l m
  | [], _ :: _ => false
  | _ :: _, [] => false
theorem eqLs_succ {α : Type} {r : α → α → Bool} : ∀ {l m : List α} {k : Nat} {x y : α}, l[k]? = some x → m[k]? = some y → eqLs r (l.take k) (m.take k) = true → eqLs r (l.take (k + 1)) (m.take (k + 1)) = r x y
  | [], _, k, x, y, hx, _, _ => by simp at hx
  | _ :: _, [], k, x, y, _, hy, _ => by simp at hy
  | a :: l, b :: m, 0, x, y, hx, hy, _ => by simp at hx hy; subst hx hy; simp [eqLs]
  | a :: l, b :: m, k + 1, x, y, hx, hy, h => by
    simp only [List.getElem?_cons_succ] at hx hy
    simp only [List.take_succ_cons, eqLs, Bool.and_eq_true] at h ⊢
    rw [h.1, eqLs_succ hx hy h.2]; rfl
theorem eqLs_no {α : Type} {r : α → α → Bool} : ∀ {l m : List α} {k : Nat} {x y : α}, l[k]? = some x → m[k]? = some y → r x y = false → eqLs r l m = false
  | [], _, k, x, y, hx, _, _ => by simp at hx
  | _ :: _, [], k, x, y, _, hy, _ => by simp at hy
  | a :: l, b :: m, 0, x, y, hx, hy, h => by simp at hx hy; subst hx hy; simp [eqLs, h]
  | a :: l, b :: m, k + 1, x, y, hx, hy, h => by
    simp only [List.getElem?_cons_succ] at hx hy
    simp [eqLs, eqLs_no hx hy h]
theorem eqLs_len {α : Type} {r : α → α → Bool} : ∀ {l m : List α}, l.length ≠ m.length → eqLs r l m = false
  | [], [], h => by simp at h
  | [], _ :: _, _ => rfl
  | _ :: _, [], _ => rfl
  | a :: l, b :: m, h => by simp [eqLs, eqLs_len (l := l) (m := m) (by simpa using h)]
theorem eqLs_same {α : Type} {r : α → α → Bool} : ∀ (l : List α), (∀ x ∈ l, r x x = true) → eqLs r l l = true
  | [], _ => rfl
  | a :: l, h => by simp [eqLs, h a (by simp), eqLs_same l (fun x hx => h x (by simp [hx]))]
def syEq (x y : Sy) : Bool := decide (x.name = y.name) && decide (x.rank = y.rank)
def fnEq (x y : Fn) : Bool := decide (x.name = y.name) && (x.sort.eqb y.sort && x.body.eqb y.body)
def Sc.eqb (a b : Sc) : Bool := eqLs syEq a.syms b.syms && eqLs fnEq a.funs b.funs
theorem Sc.eqb_same (a : Sc) : a.eqb a = true := by
  have h1 := eqLs_same (r := syEq) a.syms (fun x _ => by simp [syEq])
  have h2 := eqLs_same (r := fnEq) a.funs (fun x _ => by
    have e1 : x.sort.eqb x.sort = true := (S.eqb_iff _ _).2 rfl
    have e2 : x.body.eqb x.body = true := (T.eqb_iff _ _).2 rfl
    simp [fnEq, e1, e2])
  simp [Sc.eqb, h1, h2]

/-- Two schemes in their boxes, kept. -/
structure Sc2 (a b : Sc) (v0 v1 u0 u1 : Value) (hi B : Nat) (w0 w : World) : Prop where
  ba : Blk w B 25 #[v0, v1]
  bb : Blk w (B + 1) 25 #[u0, u1]
  ia : ScIn w hi a v0 v1
  ib : ScIn w hi b u0 u1
  hi : hi ≤ B
  bel : Below B w0 w
theorem Sc2.next {a b : Sc} {v0 v1 u0 u1 : Value} {hi B : Nat} {w0 w w' : World} (h : Sc2 a b v0 v1 u0 u1 hi B w0 w) (hb : Below w.heap.size w w') : Sc2 a b v0 v1 u0 u1 hi B w0 w' := by
  have h1 := h.bb.lt
  have h2 := h.hi
  exact ⟨h.ba.below hb h.ba.lt, h.bb.below hb h1, h.ia.below hb (by omega), h.ib.below hb (by omega), h2, h.bel.trans (hb.mono (by omega))⟩
theorem Sc2.start {a b : Sc} {v0 v1 u0 u1 : Value} {hi : Nat} {w : World} (ha : ScIn w hi a v0 v1) (hb : ScIn w hi b u0 u1) (hhi : hi ≤ w.heap.size) : Sc2 a b v0 v1 u0 u1 hi w.heap.size w ((w.alloc (.cells #[v0, v1] 25)).alloc (.cells #[u0, u1] 25)) := by
  have h : Below w.heap.size w ((w.alloc (.cells #[v0, v1] 25)).alloc (.cells #[u0, u1] 25)) := ((Below.refl _ _).alloc (Nat.le_refl _) _).alloc (by simp) _
  refine ⟨(Blk.new _ _ _).alloc _, ?_, ha.below h hhi, hb.below h hhi, hhi, h⟩
  simpa using Blk.new (w.alloc (.cells #[v0, v1] 25)) 25 #[u0, u1]
theorem Sc2.four {a b : Sc} {v0 v1 u0 u1 : Value} {hi B : Nat} {w0 w : World} (h : Sc2 a b v0 v1 u0 u1 hi B w0 w) :
    w.cell? ⟨B, 0, none⟩ = some v0 ∧ w.cell? ⟨B, 1, none⟩ = some v1 ∧ w.cell? ⟨B + 1, 0, none⟩ = some u0 ∧ w.cell? ⟨B + 1, 1, none⟩ = some u1 := by
  have a0 := h.ba.cell 0
  have a1 := h.ba.cell 1
  have b0 := h.bb.cell 0
  have b1 := h.bb.cell 1
  simp at a0 a1 b0 b1
  exact ⟨a0, a1, b0, b1⟩

/-- A region that draws its order, walked once, in a class of worlds that its callees keep. -/
theorem region_class {P : Program} {id : Nat} {Q : Exit → Act → World → Prop} {a : Act} {w : World} {l : List Oper} {C : World → Prop} (hm : P.follows .mixedOrders = true) (hB : Region.lexB .any l.toArray = true) (hC : C w.drew)
    (h : wpQuiet P l.toArray C (fun a' => ∀ w', C w' → Q .normal a' w') l a) : (Code.region id l.toArray true).wp P Q a w := wp_region_quiet hm hB hC (by simpa using h)

set_option maxRecDepth 100000 in
set_option maxHeartbeats 3200000 in
theorem refScEqual_any (a b : Sc) (v0 v1 u0 u1 : Value) (w : World) (hi : Nat) (ha : ScIn w hi a v0 v1) (hb : ScIn w hi b u0 u1) (hhi : hi ≤ w.heap.size) :
    Calls Tryz.prog 30 #[.agg #[v0, v1], .agg #[u0, u1]] w fun e w' => e = .returned (.bool (a.eqb b)) ∧ Below w.heap.size w w' := by
  have k0 := Sc2.start ha hb hhi
  obtain ⟨A0, _, c0, rfl, rfl, hnc0, hc0, hrd0, hsz0⟩ := ha.sy
  obtain ⟨A2, n2, c2, rfl, hm2, hnc2, hc2, hrd2, hsz2⟩ := hb.sy
  obtain ⟨A1, _, c1, us1, rfl, rfl, hnc1, hc1, hrd1, hrow1⟩ := ha.fn
  obtain ⟨A3, n3, c3, us3, rfl, hm3, hnc3, hc3, hrd3, hrow3⟩ := hb.fn
  obtain ⟨d0, d1, d2, d3⟩ := k0.four
  by_cases hl1 : a.syms.length = n2
  case neg =>
    have HE : Hid (a.eqb b = false) := Lib.hid (by simp [Sc.eqb, eqLs_len (l := a.syms) (m := b.syms) (by omega)])
    have g1 : ¬ (a.syms.length : Int) = (n2 : Int) := by omega
    clear hl1
    go_enter Tryz.func30, Tryz.ntmps30
    go_wp2_with fail
    go_ret
    exact ⟨ret_bool HE.out.symm, k0.bel⟩
  by_cases hl2 : a.funs.length = n3
  case neg =>
    have HE : Hid (a.eqb b = false) := Lib.hid (by simp [Sc.eqb, eqLs_len (l := a.funs) (m := b.funs) (by omega)])
    have g2 : ¬ (a.funs.length : Int) = (n3 : Int) := by omega
    subst hl1
    clear hl2
    go_enter Tryz.func30, Tryz.ntmps30
    go_wp2_with fail
    go_ret
    exact ⟨ret_bool HE.out.symm, k0.bel⟩
  subst hl1 hl2
  have HM2 := Lib.hid hm2
  have HM3 := Lib.hid hm3
  have K0 := Lib.hid k0
  clear hm2 hm3
  go_enter Tryz.func30, Tryz.ntmps30
  go_wp2_with fail
  go_loopw [26, 5] (fun iv _ wr => ∃ k : Nat, k ≤ a.syms.length ∧ iv = .int .i64 k ∧ Hid (eqLs syEq (a.syms.take k) (b.syms.take k) = true) ∧ Sc2 a b (.slice A0 a.syms.length c0) (.slice A1 a.funs.length c1) (.slice A2 a.syms.length c2) (.slice A3 a.funs.length c3) hi w.heap.size w wr) (fun iv _ _ => a.syms.length - (intOf iv).toNat)
  case atStart => exact ⟨0, Nat.zero_le _, rfl, Lib.hid (by simp [eqLs]), K0.out⟩
  case round =>
    obtain ⟨k, hk, rfl, hf, hkr⟩ := hrel
    obtain ⟨e0, e1, e2, e3⟩ := hkr.four
    have hlr := hkr.bb.lt
    by_cases hlt : k < a.syms.length
    · have hx : a.syms[k]? = some a.syms[k] := List.getElem?_eq_getElem hlt
      have hlt2 : k < b.syms.length := by have := HM2.out; omega
      have hy : b.syms[k]? = some b.syms[k] := List.getElem?_eq_getElem hlt2
      obtain ⟨ad, rfl, hPa, hel⟩ := sy_el hrd0 hx
      obtain ⟨r0, r1⟩ := hel.keep (hkr.bel.block _ (by omega))
      obtain ⟨ad2, rfl, hPa2, hel2⟩ := sy_el hrd2 hy
      obtain ⟨q0, q1⟩ := hel2.keep (hkr.bel.block _ (by omega))
      have hkc : (k : Int) < (a.syms.length : Int) := by omega
      have hk0 : (0 : Int) ≤ (k : Int) := by omega
      have hsu := eqLs_succ hx hy hf.out
      have hno := @eqLs_no _ syEq a.syms b.syms k _ _ hx hy
      generalize a.syms[k] = x at *
      generalize b.syms[k] = y at *
      obtain ⟨xn, xr⟩ := x
      obtain ⟨yn, yr⟩ := y
      simp only at r0 r1 q0 q1
      by_cases hxy : xn = yn ∧ xr = yr
      · obtain ⟨rfl, rfl⟩ := hxy
        have HS : Hid (eqLs syEq (a.syms.take (k + 1)) (b.syms.take (k + 1)) = true) := Lib.hid (by rw [hsu]; simp [syEq])
        clear hx hy hel hel2 hsu hno
        go_wp2_with fail
        go_region
        all_goals
          go_wp2_with fail
          go_roundw
          case rel => exact ⟨k + 1, by omega, by go_num, HS, hkr.next (Below.refl _ _).drew⟩
          case measure => simp [intOf]; omega
      · have HE : Hid (a.eqb b = false) := Lib.hid (by
          have := hno (by simp only [syEq, Bool.and_eq_false_iff, decide_eq_false_iff_not]; by_cases h1 : xn = yn <;> simp_all)
          simp [Sc.eqb, this])
        clear hx hy hel hel2 hsu hno
        by_cases hn : xn = yn
        · subst hn
          have hr : ¬ xr = yr := fun e => hxy ⟨rfl, e⟩
          clear hxy
          go_wp2_with fail
          go_region
          all_goals
            go_wp2_with fail
            go_ret
            exact ⟨ret_bool HE.out.symm, hkr.bel.drew⟩
        · have hr : ¬ xn.toList = yn.toList := fun e => hn (nm_eq (by rw [← ByteArray.toList_eq, ← ByteArray.toList_eq]; exact e))
          clear hxy hn
          go_wp2_with fail
          go_region
          all_goals
            go_wp2_with fail
            go_ret
            exact ⟨ret_bool HE.out.symm, hkr.bel.drew⟩
    · have h1 : a.syms.take k = a.syms := List.take_of_length_le (by omega)
      have h2 : b.syms.take k = b.syms := List.take_of_length_le (by have := HM2.out; omega)
      rw [h1, h2] at hf
      clear h1 h2
      have HE0 : Hid (a.eqb b = eqLs fnEq a.funs b.funs) := Lib.hid (by simp [Sc.eqb, hf.out])
      go_wp2_with fail
      go_loopw [44, 6] (fun iv _ wx => ∃ j : Nat, j ≤ a.funs.length ∧ iv = .int .i64 j ∧ Hid (eqLs fnEq (a.funs.take j) (b.funs.take j) = true) ∧ Sc2 a b (.slice A0 a.syms.length c0) (.slice A1 a.funs.length c1) (.slice A2 a.syms.length c2) (.slice A3 a.funs.length c3) hi w.heap.size w wx) (fun iv _ _ => a.funs.length - (intOf iv).toNat)
      case atStart => exact ⟨0, Nat.zero_le _, rfl, Lib.hid (by simp [eqLs]), hkr⟩
      case round =>
        obtain ⟨j, hj, rfl, hg, hkq⟩ := hrel
        obtain ⟨z0, z1, z2, z3⟩ := hkq.four
        have hlq := hkq.bb.lt
        have hhq := hkq.hi
        by_cases hlt : j < a.funs.length
        · have hx : a.funs[j]? = some a.funs[j] := List.getElem?_eq_getElem hlt
          have hlt2 : j < b.funs.length := by have := HM3.out; omega
          have hy : b.funs[j]? = some b.funs[j] := List.getElem?_eq_getElem hlt2
          obtain ⟨ad, u, v, rfl, hPa, hel, hsu, hbv, _⟩ := fn_el hrd1 hrow1 hx
          obtain ⟨ad2, u', v', rfl, hPa2, hel2, hsu2, hbv2, _⟩ := fn_el hrd3 hrow3 hy
          have hkc : (j : Int) < (a.funs.length : Int) := by omega
          have hk0 : (0 : Int) ≤ (j : Int) := by omega
          have hkn : ((j : Int)).toNat = j := by omega
          have hsc := eqLs_succ hx hy hg.out
          have hno := @eqLs_no _ fnEq a.funs b.funs j _ _ hx hy
          obtain ⟨B1, m1, g1, rfl⟩ := hsu.form
          obtain ⟨B2, m2, g2, rfl⟩ := hbv.form
          obtain ⟨B3, m3, g3, rfl⟩ := hsu2.form
          obtain ⟨B4, m4, g4, rfl⟩ := hbv2.form
          generalize a.funs[j] = x at *
          generalize b.funs[j] = y at *
          obtain ⟨xn, xs, xb⟩ := x
          obtain ⟨yn, ys, yb⟩ := y
          simp only at hsu hbv hsu2 hbv2
          generalize hKK : (fun W => Sc2 a b (.slice A0 a.syms.length c0) (.slice (some ad) a.funs.length c1) (.slice A2 a.syms.length c2) (.slice (some ad2) a.funs.length c3) hi w.heap.size w W) = K
          have of_ : ∀ W, K W → Sc2 a b (.slice A0 a.syms.length c0) (.slice (some ad) a.funs.length c1) (.slice A2 a.syms.length c2) (.slice (some ad2) a.funs.length c3) hi w.heap.size w W := fun W h => by rw [← hKK] at h; exact h
          have hKn : ∀ W W', K W → Below W.heap.size W W' → K W' := fun W W' h hb => by
            rw [← hKK] at h ⊢
            exact h.next hb
          have HCell : Hid (∀ W, K W → (W.cell? ⟨w.heap.size, 1, none⟩ = some (.slice (some ad) a.funs.length c1) ∧ W.cell? ⟨w.heap.size + 1, 1, none⟩ = some (.slice (some ad2) a.funs.length c3)) ∧
              (W.cell? (ad.add (j * 5)) = some (.string xn) ∧ W.cell? ⟨(ad.add (j * 5)).block, (ad.add (j * 5)).off + 1, none⟩ = some (.slice B1 m1 g1) ∧ W.cell? ⟨(ad.add (j * 5)).block, (ad.add (j * 5)).off + 2, none⟩ = some (.int .i64 xb.kind) ∧ W.cell? ⟨(ad.add (j * 5)).block, (ad.add (j * 5)).off + 3, none⟩ = some (.int .i64 xb.num) ∧ W.cell? ⟨(ad.add (j * 5)).block, (ad.add (j * 5)).off + 4, none⟩ = some (.slice B2 m2 g2)) ∧
              (W.cell? (ad2.add (j * 5)) = some (.string yn) ∧ W.cell? ⟨(ad2.add (j * 5)).block, (ad2.add (j * 5)).off + 1, none⟩ = some (.slice B3 m3 g3) ∧ W.cell? ⟨(ad2.add (j * 5)).block, (ad2.add (j * 5)).off + 2, none⟩ = some (.int .i64 yb.kind) ∧ W.cell? ⟨(ad2.add (j * 5)).block, (ad2.add (j * 5)).off + 3, none⟩ = some (.int .i64 yb.num) ∧ W.cell? ⟨(ad2.add (j * 5)).block, (ad2.add (j * 5)).off + 4, none⟩ = some (.slice B4 m4 g4))) := Lib.hid fun W h => by
            have h1 := of_ W h
            obtain ⟨_, t1, _, t3⟩ := h1.four
            obtain ⟨p0, p1, p2, p3, p4⟩ := hel.keep (h1.bel.block _ (by omega))
            obtain ⟨s0, s1, s2, s3, s4⟩ := hel2.keep (h1.bel.block _ (by omega))
            exact ⟨⟨t1, t3⟩, ⟨p0, p1, p2, p3, p4⟩, s0, s1, s2, s3, s4⟩
          have HSO := Lib.hid (fun W (h : K W) => (refEqual_any xs.count xs ys _ _ W 0 hi 0 hi (Nat.le_refl _) (hsu.below ((of_ W h).bel.mono (by omega)) (Nat.le_refl _)) (by have := (of_ W h).bb.lt; omega) (hsu2.below ((of_ W h).bel.mono (by omega)) (Nat.le_refl _)) (by have := (of_ W h).bb.lt; omega)).mono fun e w' ⟨he, hb⟩ => (⟨he, hKn _ _ h hb⟩ : e = Ending.returned (.bool (xs.eqb ys)) ∧ K w'))
          have HBO := Lib.hid (fun W (h : K W) => (refEqualT_any xb.count xb yb _ _ W (fun b => b < hi) (fun b => b < hi) (Nat.le_refl _) (T.In.below hbv ((of_ W h).bel.mono (by omega)) (fun _ h => h)) (fun b hb => by have := (of_ W h).bb.lt; omega) (T.In.below hbv2 ((of_ W h).bel.mono (by omega)) (fun _ h => h)) (fun b hb => by have := (of_ W h).bb.lt; omega)).mono fun e w' ⟨he, hb⟩ => (⟨he, hKn _ _ h hb⟩ : e = Ending.returned (.bool (xb.eqb yb)) ∧ K w'))
          have HSK : Hid (∀ W, K W → Sc2 a b (.slice A0 a.syms.length c0) (.slice (some ad) a.funs.length c1) (.slice A2 a.syms.length c2) (.slice (some ad2) a.funs.length c3) hi w.heap.size w W) := Lib.hid fun W h => of_ W h
          have k1 : K wr := by rw [← hKK]; exact hkq
          have kd := hKn _ _ k1 (Below.refl _ _).drew
          obtain ⟨⟨l1, l2⟩, ⟨r0, r1, r2, r3, r4⟩, q0, q1, q2, q3, q4⟩ := HCell.out _ k1
          have HSC := Lib.hid hsc
          have HNO := Lib.hid hno
          clear hKK of_ hKn hel hel2 hsu hbv hsu2 hbv2 hx hy hsc hno hkq
          simp only [fnEq] at HSC HNO
          generalize xs.eqb ys = bs at *
          generalize xb.eqb yb = bb at *
          by_cases hn : xn = yn
          · subst hn
            cases bs with
            | false =>
              have HE : Hid (a.eqb b = false) := Lib.hid (HE0.out.trans (HNO.out (by simp)))
              go_wp2_with fail
              (refine region_class (C := K) (by kernel_rfl) (by kernel_rfl) kd ?_
               repeat (first
                | go_big_quiet_skip
                | (go_big_quiet_want; go_big_quiet_op; go_big_quiet_on)
                | (go_big_quiet_want
                   go_big_quiet_op
                   apply Exists.intro
                   refine ⟨fun W hW => ?_, ?_⟩
                   first
                     | rfl
                     | exact HSO.out W hW
                     | exact HBO.out W hW
                     | (have hc := HCell.out W hW
                        simp [hc]
                        done)
                     | (have hc := HCell.out W hW
                        simp [hc]
                        rfl)
                   go_big_quiet_on))
               refine wpQuiet_nil ?_
               intro W hW)
              go_wp2_with fail
              go_ret
              exact ⟨ret_bool HE.out.symm, (HSK.out _ hW).bel⟩
            | true =>
              cases bb with
              | false =>
                have HE : Hid (a.eqb b = false) := Lib.hid (HE0.out.trans (HNO.out (by simp)))
                go_wp2_with fail
                (refine region_class (C := K) (by kernel_rfl) (by kernel_rfl) kd ?_
                 repeat (first
                  | go_big_quiet_skip
                  | (go_big_quiet_want; go_big_quiet_op; go_big_quiet_on)
                  | (go_big_quiet_want
                     go_big_quiet_op
                     apply Exists.intro
                     refine ⟨fun W hW => ?_, ?_⟩
                     first
                       | rfl
                       | exact HSO.out W hW
                       | exact HBO.out W hW
                       | (have hc := HCell.out W hW
                          simp [hc]
                          done)
                       | (have hc := HCell.out W hW
                          simp [hc]
                          rfl)
                     go_big_quiet_on))
                 refine wpQuiet_nil ?_
                 intro W hW)
                go_wp2_with fail
                go_ret
                exact ⟨ret_bool HE.out.symm, (HSK.out _ hW).bel⟩
              | true =>
                have HT : Hid (eqLs fnEq (a.funs.take (j + 1)) (b.funs.take (j + 1)) = true) := Lib.hid (HSC.out.trans (by simp))
                go_wp2_with fail
                (refine region_class (C := K) (by kernel_rfl) (by kernel_rfl) kd ?_
                 repeat (first
                  | go_big_quiet_skip
                  | (go_big_quiet_want; go_big_quiet_op; go_big_quiet_on)
                  | (go_big_quiet_want
                     go_big_quiet_op
                     apply Exists.intro
                     refine ⟨fun W hW => ?_, ?_⟩
                     first
                       | rfl
                       | exact HSO.out W hW
                       | exact HBO.out W hW
                       | (have hc := HCell.out W hW
                          simp [hc]
                          done)
                       | (have hc := HCell.out W hW
                          simp [hc]
                          rfl)
                     go_big_quiet_on))
                 refine wpQuiet_nil ?_
                 intro W hW)
                go_wp2_with fail
                go_roundw
                case rel => exact ⟨j + 1, by omega, by go_num, HT, HSK.out _ hW⟩
                case measure => simp [intOf]; omega
          · have HE : Hid (a.eqb b = false) := Lib.hid (HE0.out.trans (HNO.out (by simp [hn])))
            have e1 : (xn.toList == yn.toList) = false := beq_false_of_ne (fun e => hn (nm_eq (by rw [← ByteArray.toList_eq, ← ByteArray.toList_eq]; exact e)))
            have e2 : decide (xn = yn) = false := decide_eq_false hn
            have HSK1 := Lib.hid (HSK.out _ k1)
            clear hn
            go_wp2_with fail
            go_quiet (fail)
            go_wp2_with fail
            go_ret
            exact ⟨ret_bool HE.out.symm, below_drewN HSK1.out.bel _⟩
        · have h1 : a.funs.take j = a.funs := List.take_of_length_le (by omega)
          have h2 : b.funs.take j = b.funs := List.take_of_length_le (by have := HM3.out; omega)
          rw [h1, h2] at hg
          clear h1 h2
          go_wp2_with fail
          go_ret
          exact ⟨ret_bool (by rw [HE0.out, hg.out]), hkq.bel⟩

/-- What the reference's Same answers. -/
def Sc.same (a b : Sc) : Bool := a.ok && (b.ok && a.eqb b)
set_option maxRecDepth 100000 in
set_option maxHeartbeats 800000 in
theorem refScSame_any (a b : Sc) (v0 v1 u0 u1 : Value) (w : World) (hi : Nat) (ha : ScIn w hi a v0 v1) (hb : ScIn w hi b u0 u1) (hhi : hi ≤ w.heap.size) :
    Calls Tryz.prog 13 #[.agg #[v0, v1], .agg #[u0, u1]] w fun e w' => e = .returned (.bool (a.same b)) ∧ Below w.heap.size w w' := by
  have k0 := Sc2.start ha hb hhi
  obtain ⟨⟨A0, n0, c0, rfl⟩, ⟨A1, n1, c1, rfl⟩⟩ := ha.form
  obtain ⟨⟨A2, n2, c2, rfl⟩, ⟨A3, n3, c3, rfl⟩⟩ := hb.form
  have HI := Lib.hid (fun s x0 x1 W h1 h2 => refScIs_any s x0 x1 W hi h1 h2)
  have HE := Lib.hid (fun x0 x1 y0 y1 W h1 h2 h3 => refScEqual_any a b x0 x1 y0 y1 W hi h1 h2 h3)
  obtain ⟨d0, d1, d2, d3⟩ := k0.four
  have HI0 := Lib.hid (HI.out a _ _ _ k0.ia (by have := k0.bb.lt; have := k0.hi; omega))
  rw [sayOk_ok] at HI0
  cases h1 : a.ok with
  | false =>
    have HF : Hid (a.same b = false) := Lib.hid (by simp [Sc.same, h1])
    rw [h1] at HI0
    clear h1
    go_enter Tryz.func13, Tryz.ntmps13
    go_wp2_with fail
    refine HI0.out.mono ?_
    rintro e w1 ⟨rfl, b1⟩
    have k1 := k0.next b1
    go_wp2_with fail
    go_ret
    exact ⟨ret_bool HF.out.symm, k1.bel⟩
  | true =>
    rw [h1] at HI0
    cases h2 : b.ok with
    | false =>
      have HF : Hid (a.same b = false) := Lib.hid (by simp [Sc.same, h2])
      go_enter Tryz.func13, Tryz.ntmps13
      go_wp2_with fail
      refine HI0.out.mono ?_
      rintro e w1 ⟨rfl, b1⟩
      have k1 := k0.next b1
      obtain ⟨e0, e1, e2, e3⟩ := k1.four
      have HI1 := Lib.hid (HI.out b _ _ _ k1.ib (by have := k1.bb.lt; have := k1.hi; omega))
      rw [sayOk_ok, h2] at HI1
      clear h1 h2 d0 d1 d2 d3
      go_wp2_with fail
      refine HI1.out.mono ?_
      rintro e w2 ⟨rfl, b2⟩
      have k2 := k1.next b2
      go_wp2_with fail
      go_ret
      exact ⟨ret_bool HF.out.symm, k2.bel⟩
    | true =>
      have HF : Hid (a.same b = a.eqb b) := Lib.hid (by simp [Sc.same, h1, h2])
      go_enter Tryz.func13, Tryz.ntmps13
      go_wp2_with fail
      refine HI0.out.mono ?_
      rintro e w1 ⟨rfl, b1⟩
      have k1 := k0.next b1
      obtain ⟨e0, e1, e2, e3⟩ := k1.four
      have HI1 := Lib.hid (HI.out b _ _ _ k1.ib (by have := k1.bb.lt; have := k1.hi; omega))
      rw [sayOk_ok, h2] at HI1
      clear h1 h2 d0 d1 d2 d3
      go_wp2_with fail
      refine HI1.out.mono ?_
      rintro e w2 ⟨rfl, b2⟩
      have k2 := k1.next b2
      obtain ⟨f0, f1, f2, f3⟩ := k2.four
      have HE2 := Lib.hid (HE.out _ _ _ _ _ k2.ia k2.ib (by have := k2.bb.lt; have := k2.hi; omega))
      clear e0 e1 e2 e3
      go_wp2_with fail
      refine HE2.out.mono ?_
      rintro e w3 ⟨rfl, b3⟩
      have k3 := k2.next b3
      go_wp2_with fail
      go_ret
      exact ⟨ret_bool HF.out.symm, k3.bel⟩
end Go.Proofs.YtkkfdiidneoelaaGreatDoor
