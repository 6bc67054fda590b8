/-
  Reference 03: Equal and Same; which schemes are equal.
  Reference 03: Number, Term, Put.
-/
import Derived.Test.YtbbejhhohppdhaaGreatDoorGL
import Derived.Test.YtbbejhhohppdhaaGreatDoorGC
import Derived.Test.YtbbejhhohppdhaaGreatDoorGA
import Derived.BigQuiet
import Derived.Deep.RegionHeld3
import Derived.Test.YtbbejhhohppdhaaGreatDoorGG
import Derived.Test.YtbbejhhohppdhaaGreatDoorGB
namespace Go.Proofs.YtbbejhhohppdhaaGreatDoor
open Go.RowKit

def eqLs {α : Type} (r : α → α → Bool) : List α → List α → Bool
  | [], [] => true
  | x :: l, y :: m => r x y && eqLs r l m
  | [], _ :: _ => false
  | _ :: _, [] => false
theorem eqLs_succ {α : Type} {r : α → α → Bool} : ∀ {l m : List α} {k : Nat} {x y : α}, l[k]? = some x → m[k]? = some y → eqLs r (l.take k) (m.take k) = true → eqLs r (l.take (k + 1)) (m.take (k + 1)) = r x y
  | [], _, k, x, y, hx, _, _ => by simp at hx
  | _ :: _, [], k, x, y, _, hy, _ => by simp at hy
  | a :: l, b :: m, 0, x, y, hx, hy, _ => by simp at hx hy; subst hx hy; simp [eqLs]
  | a :: l, b :: m, k + 1, x, y, hx, hy, h => by
    simp only [List.getElem?_cons_succ] at hx hy
    simp only [List.take_succ_cons, eqLs, Bool.and_eq_true] at h ⊢
    rw [h.1, eqLs_succ hx hy h.2]; rfl
theorem eqLs_no {α : Type} {r : α → α → Bool} : ∀ {l m : List α} {k : Nat} {x y : α}, l[k]? = some x → m[k]? = some y → r x y = false → eqLs r l m = false
  | [], _, k, x, y, hx, _, _ => by simp at hx
  | _ :: _, [], k, x, y, _, hy, _ => by simp at hy
  | a :: l, b :: m, 0, x, y, hx, hy, h => by simp at hx hy; subst hx hy; simp [eqLs, h]
  | a :: l, b :: m, k + 1, x, y, hx, hy, h => by
    simp only [List.getElem?_cons_succ] at hx hy
    simp [eqLs, eqLs_no hx hy h]
theorem eqLs_len {α : Type} {r : α → α → Bool} : ∀ {l m : List α}, l.length ≠ m.length → eqLs r l m = false
  | [], [], h => by simp at h
  | [], _ :: _, _ => rfl
  | _ :: _, [], _ => rfl
  | a :: l, b :: m, h => by simp [eqLs, eqLs_len (l := l) (m := m) (by simpa using h)]
theorem eqLs_same {α : Type} {r : α → α → Bool} : ∀ (l : List α), (∀ x ∈ l, r x x = true) → eqLs r l l = true
  | [], _ => rfl
  | a :: l, h => by simp [eqLs, h a (by simp), eqLs_same l (fun x hx => h x (by simp [hx]))]
def syEq (x y : Sy) : Bool := decide (x.name = y.name) && decide (x.rank = y.rank)
def fnEq (x y : Fn) : Bool := decide (x.name = y.name) && (x.sort.eqb y.sort && x.body.eqb y.body)
def Sc.eqb (a b : Sc) : Bool := eqLs syEq a.syms b.syms && eqLs fnEq a.funs b.funs
theorem Sc.eqb_same (a : Sc) : a.eqb a = true := by
  have h1 := eqLs_same (r := syEq) a.syms (fun x _ => by simp [syEq])
  have h2 := eqLs_same (r := fnEq) a.funs (fun x _ => by
    have e1 : x.sort.eqb x.sort = true := (S.eqb_iff _ _).2 rfl
    have e2 : x.body.eqb x.body = true := (T.eqb_iff _ _).2 rfl
    simp [fnEq, e1, e2])
  simp [Sc.eqb, h1, h2]

/-- Two schemes in their boxes, kept. -/
structure Sc2 (a b : Sc) (v0 v1 u0 u1 : Value) (hi B : Nat) (w0 w : World) : Prop where
  ba : Blk w B 25 #[v0, v1]
  bb : Blk w (B + 1) 25 #[u0, u1]
  ia : ScIn w hi a v0 v1
  ib : ScIn w hi b u0 u1
  hi : hi ≤ B
  bel : Below B w0 w
theorem Sc2.next {a b : Sc} {v0 v1 u0 u1 : Value} {hi B : Nat} {w0 w w' : World} (h : Sc2 a b v0 v1 u0 u1 hi B w0 w) (hb : Below w.heap.size w w') : Sc2 a b v0 v1 u0 u1 hi B w0 w' := by
  have h1 := h.bb.lt
  have h2 := h.hi
  exact ⟨h.ba.below hb h.ba.lt, h.bb.below hb h1, h.ia.below hb (by omega), h.ib.below hb (by omega), h2, h.bel.trans (hb.mono (by omega))⟩
theorem Sc2.start {a b : Sc} {v0 v1 u0 u1 : Value} {hi : Nat} {w : World} (ha : ScIn w hi a v0 v1) (hb : ScIn w hi b u0 u1) (hhi : hi ≤ w.heap.size) : Sc2 a b v0 v1 u0 u1 hi w.heap.size w ((w.alloc (.cells #[v0, v1] 25)).alloc (.cells #[u0, u1] 25)) := by
  have h : Below w.heap.size w ((w.alloc (.cells #[v0, v1] 25)).alloc (.cells #[u0, u1] 25)) := ((Below.refl _ _).alloc (Nat.le_refl _) _).alloc (by simp) _
  refine ⟨(Blk.new _ _ _).alloc _, ?_, ha.below h hhi, hb.below h hhi, hhi, h⟩
  simpa using Blk.new (w.alloc (.cells #[v0, v1] 25)) 25 #[u0, u1]
theorem Sc2.four {a b : Sc} {v0 v1 u0 u1 : Value} {hi B : Nat} {w0 w : World} (h : Sc2 a b v0 v1 u0 u1 hi B w0 w) :
    w.cell? ⟨B, 0, none⟩ = some v0 ∧ w.cell? ⟨B, 1, none⟩ = some v1 ∧ w.cell? ⟨B + 1, 0, none⟩ = some u0 ∧ w.cell? ⟨B + 1, 1, none⟩ = some u1 := by
  have a0 := h.ba.cell 0
  have a1 := h.ba.cell 1
  have b0 := h.bb.cell 0
  have b1 := h.bb.cell 1
  simp at a0 a1 b0 b1
  exact ⟨a0, a1, b0, b1⟩

/-- A region that draws its order, walked once, in a class of worlds that its callees keep. -/
theorem region_class {P : Program} {id : Nat} {Q : Exit → Act → World → Prop} {a : Act} {w : World} {l : List Oper} {C : World → Prop} (hm : P.follows .mixedOrders = true) (hB : Region.lexB .any l.toArray = true) (hC : C w.drew)
    (h : wpQuiet P l.toArray C (fun a' => ∀ w', C w' → Q .normal a' w') l a) : (Code.region id l.toArray true).wp P Q a w := wp_region_quiet hm hB hC (by simpa using h)

set_option maxRecDepth 100000 in
set_option maxHeartbeats 3200000 in
theorem refScEqual_any (a b : Sc) (v0 v1 u0 u1 : Value) (w : World) (hi : Nat) (ha : ScIn w hi a v0 v1) (hb : ScIn w hi b u0 u1) (hhi : hi ≤ w.heap.size) :
    Calls Tryz.prog 30 #[.agg #[v0, v1], .agg #[u0, u1]] w fun e w' => e = .returned (.bool (a.eqb b)) ∧ Below w.heap.size w w' := by
  have k0 := Sc2.start ha hb hhi
  obtain ⟨A0, _, c0, rfl, rfl, hnc0, hc0, hrd0, hsz0⟩ := ha.sy
  obtain ⟨A2, n2, c2, rfl, hm2, hnc2, hc2, hrd2, hsz2⟩ := hb.sy
  obtain ⟨A1, _, c1, us1, rfl, rfl, hnc1, hc1, hrd1, hrow1⟩ := ha.fn
  obtain ⟨A3, n3, c3, us3, rfl, hm3, hnc3, hc3, hrd3, hrow3⟩ := hb.fn
  obtain ⟨d0, d1, d2, d3⟩ := k0.four
  by_cases hl1 : a.syms.length = n2
  case neg =>
    have HE : Hid (a.eqb b = false) := Lib.hid (by simp [Sc.eqb, eqLs_len (l := a.syms) (m := b.syms) (by omega)])
    have g1 : ¬ (a.syms.length : Int) = (n2 : Int) := by omega
    clear hl1
    go_enter Tryz.func30, Tryz.ntmps30
    go_wp2_with fail
    go_ret
    exact ⟨ret_bool HE.out.symm, k0.bel⟩
  by_cases hl2 : a.funs.length = n3
  case neg =>
    have HE : Hid (a.eqb b = false) := Lib.hid (by simp [Sc.eqb, eqLs_len (l := a.funs) (m := b.funs) (by omega)])
    have g2 : ¬ (a.funs.length : Int) = (n3 : Int) := by omega
    subst hl1
    clear hl2
    go_enter Tryz.func30, Tryz.ntmps30
    go_wp2_with fail
    go_ret
    exact ⟨ret_bool HE.out.symm, k0.bel⟩
  subst hl1 hl2
  have HM2 := Lib.hid hm2
  have HM3 := Lib.hid hm3
  have K0 := Lib.hid k0
  clear hm2 hm3
  go_enter Tryz.func30, Tryz.ntmps30
  go_wp2_with fail
  go_loopw [26, 5] (fun iv _ wr => ∃ k : Nat, k ≤ a.syms.length ∧ iv = .int .i64 k ∧ Hid (eqLs syEq (a.syms.take k) (b.syms.take k) = true) ∧ Sc2 a b (.slice A0 a.syms.length c0) (.slice A1 a.funs.length c1) (.slice A2 a.syms.length c2) (.slice A3 a.funs.length c3) hi w.heap.size w wr) (fun iv _ _ => a.syms.length - (intOf iv).toNat)
  case atStart => exact ⟨0, Nat.zero_le _, rfl, Lib.hid (by simp [eqLs]), K0.out⟩
  case round =>
    obtain ⟨k, hk, rfl, hf, hkr⟩ := hrel
    obtain ⟨e0, e1, e2, e3⟩ := hkr.four
    have hlr := hkr.bb.lt
    by_cases hlt : k < a.syms.length
    · have hx : a.syms[k]? = some a.syms[k] := List.getElem?_eq_getElem hlt
      have hlt2 : k < b.syms.length := by have := HM2.out; omega
      have hy : b.syms[k]? = some b.syms[k] := List.getElem?_eq_getElem hlt2
      obtain ⟨ad, rfl, hPa, hel⟩ := sy_el hrd0 hx
      obtain ⟨r0, r1⟩ := hel.keep (hkr.bel.block _ (by omega))
      obtain ⟨ad2, rfl, hPa2, hel2⟩ := sy_el hrd2 hy
      obtain ⟨q0, q1⟩ := hel2.keep (hkr.bel.block _ (by omega))
      have hkc : (k : Int) < (a.syms.length : Int) := by omega
      have hk0 : (0 : Int) ≤ (k : Int) := by omega
      have hsu := eqLs_succ hx hy hf.out
      have hno := @eqLs_no _ syEq a.syms b.syms k _ _ hx hy
      generalize a.syms[k] = x at *
      generalize b.syms[k] = y at *
      obtain ⟨xn, xr⟩ := x
      obtain ⟨yn, yr⟩ := y
      simp only at r0 r1 q0 q1
      by_cases hxy : xn = yn ∧ xr = yr
      · obtain ⟨rfl, rfl⟩ := hxy
        have HS : Hid (eqLs syEq (a.syms.take (k + 1)) (b.syms.take (k + 1)) = true) := Lib.hid (by rw [hsu]; simp [syEq])
        clear hx hy hel hel2 hsu hno
        go_wp2_with fail
        go_region
        all_goals
          go_wp2_with fail
          go_roundw
          case rel => exact ⟨k + 1, by omega, by go_num, HS, hkr.next (Below.refl _ _).drew⟩
          case measure => simp [intOf]; omega
      · have HE : Hid (a.eqb b = false) := Lib.hid (by
          have := hno (by simp only [syEq, Bool.and_eq_false_iff, decide_eq_false_iff_not]; by_cases h1 : xn = yn <;> simp_all)
          simp [Sc.eqb, this])
        clear hx hy hel hel2 hsu hno
        by_cases hn : xn = yn
        · subst hn
          have hr : ¬ xr = yr := fun e => hxy ⟨rfl, e⟩
          clear hxy
          go_wp2_with fail
          go_region
          all_goals
            go_wp2_with fail
            go_ret
            exact ⟨ret_bool HE.out.symm, hkr.bel.drew⟩
        · have hr : ¬ xn.toList = yn.toList := fun e => hn (nm_eq (by rw [← ByteArray.toList_eq, ← ByteArray.toList_eq]; exact e))
          clear hxy hn
          go_wp2_with fail
          go_region
          all_goals
            go_wp2_with fail
            go_ret
            exact ⟨ret_bool HE.out.symm, hkr.bel.drew⟩
    · have h1 : a.syms.take k = a.syms := List.take_of_length_le (by omega)
      have h2 : b.syms.take k = b.syms := List.take_of_length_le (by have := HM2.out; omega)
      rw [h1, h2] at hf
      clear h1 h2
      have HE0 : Hid (a.eqb b = eqLs fnEq a.funs b.funs) := Lib.hid (by simp [Sc.eqb, hf.out])
      go_wp2_with fail
      go_loopw [44, 6] (fun iv _ wx => ∃ j : Nat, j ≤ a.funs.length ∧ iv = .int .i64 j ∧ Hid (eqLs fnEq (a.funs.take j) (b.funs.take j) = true) ∧ Sc2 a b (.slice A0 a.syms.length c0) (.slice A1 a.funs.length c1) (.slice A2 a.syms.length c2) (.slice A3 a.funs.length c3) hi w.heap.size w wx) (fun iv _ _ => a.funs.length - (intOf iv).toNat)
      case atStart => exact ⟨0, Nat.zero_le _, rfl, Lib.hid (by simp [eqLs]), hkr⟩
      case round =>
        obtain ⟨j, hj, rfl, hg, hkq⟩ := hrel
        obtain ⟨z0, z1, z2, z3⟩ := hkq.four
        have hlq := hkq.bb.lt
        have hhq := hkq.hi
        by_cases hlt : j < a.funs.length
        · have hx : a.funs[j]? = some a.funs[j] := List.getElem?_eq_getElem hlt
          have hlt2 : j < b.funs.length := by have := HM3.out; omega
          have hy : b.funs[j]? = some b.funs[j] := List.getElem?_eq_getElem hlt2
          obtain ⟨ad, u, v, rfl, hPa, hel, hsu, hbv, _⟩ := fn_el hrd1 hrow1 hx
          obtain ⟨ad2, u', v', rfl, hPa2, hel2, hsu2, hbv2, _⟩ := fn_el hrd3 hrow3 hy
          have hkc : (j : Int) < (a.funs.length : Int) := by omega
          have hk0 : (0 : Int) ≤ (j : Int) := by omega
          have hkn : ((j : Int)).toNat = j := by omega
          have hsc := eqLs_succ hx hy hg.out
          have hno := @eqLs_no _ fnEq a.funs b.funs j _ _ hx hy
          obtain ⟨B1, m1, g1, rfl⟩ := hsu.form
          obtain ⟨B2, m2, g2, rfl⟩ := hbv.form
          obtain ⟨B3, m3, g3, rfl⟩ := hsu2.form
          obtain ⟨B4, m4, g4, rfl⟩ := hbv2.form
          generalize a.funs[j] = x at *
          generalize b.funs[j] = y at *
          obtain ⟨xn, xs, xb⟩ := x
          obtain ⟨yn, ys, yb⟩ := y
          simp only at hsu hbv hsu2 hbv2
          generalize hKK : (fun W => Sc2 a b (.slice A0 a.syms.length c0) (.slice (some ad) a.funs.length c1) (.slice A2 a.syms.length c2) (.slice (some ad2) a.funs.length c3) hi w.heap.size w W) = K
          have of_ : ∀ W, K W → Sc2 a b (.slice A0 a.syms.length c0) (.slice (some ad) a.funs.length c1) (.slice A2 a.syms.length c2) (.slice (some ad2) a.funs.length c3) hi w.heap.size w W := fun W h => by rw [← hKK] at h; exact h
          have hKn : ∀ W W', K W → Below W.heap.size W W' → K W' := fun W W' h hb => by
            rw [← hKK] at h ⊢
            exact h.next hb
          have HCell : Hid (∀ W, K W → (W.cell? ⟨w.heap.size, 1, none⟩ = some (.slice (some ad) a.funs.length c1) ∧ W.cell? ⟨w.heap.size + 1, 1, none⟩ = some (.slice (some ad2) a.funs.length c3)) ∧
              (W.cell? (ad.add (j * 5)) = some (.string xn) ∧ W.cell? ⟨(ad.add (j * 5)).block, (ad.add (j * 5)).off + 1, none⟩ = some (.slice B1 m1 g1) ∧ W.cell? ⟨(ad.add (j * 5)).block, (ad.add (j * 5)).off + 2, none⟩ = some (.int .i64 xb.kind) ∧ W.cell? ⟨(ad.add (j * 5)).block, (ad.add (j * 5)).off + 3, none⟩ = some (.int .i64 xb.num) ∧ W.cell? ⟨(ad.add (j * 5)).block, (ad.add (j * 5)).off + 4, none⟩ = some (.slice B2 m2 g2)) ∧
              (W.cell? (ad2.add (j * 5)) = some (.string yn) ∧ W.cell? ⟨(ad2.add (j * 5)).block, (ad2.add (j * 5)).off + 1, none⟩ = some (.slice B3 m3 g3) ∧ W.cell? ⟨(ad2.add (j * 5)).block, (ad2.add (j * 5)).off + 2, none⟩ = some (.int .i64 yb.kind) ∧ W.cell? ⟨(ad2.add (j * 5)).block, (ad2.add (j * 5)).off + 3, none⟩ = some (.int .i64 yb.num) ∧ W.cell? ⟨(ad2.add (j * 5)).block, (ad2.add (j * 5)).off + 4, none⟩ = some (.slice B4 m4 g4))) := Lib.hid fun W h => by
            have h1 := of_ W h
            obtain ⟨_, t1, _, t3⟩ := h1.four
            obtain ⟨p0, p1, p2, p3, p4⟩ := hel.keep (h1.bel.block _ (by omega))
            obtain ⟨s0, s1, s2, s3, s4⟩ := hel2.keep (h1.bel.block _ (by omega))
            exact ⟨⟨t1, t3⟩, ⟨p0, p1, p2, p3, p4⟩, s0, s1, s2, s3, s4⟩
          have HSO := Lib.hid (fun W (h : K W) => (refEqual_any xs.count xs ys _ _ W 0 hi 0 hi (Nat.le_refl _) (hsu.below ((of_ W h).bel.mono (by omega)) (Nat.le_refl _)) (by have := (of_ W h).bb.lt; omega) (hsu2.below ((of_ W h).bel.mono (by omega)) (Nat.le_refl _)) (by have := (of_ W h).bb.lt; omega)).mono fun e w' ⟨he, hb⟩ => (⟨he, hKn _ _ h hb⟩ : e = Ending.returned (.bool (xs.eqb ys)) ∧ K w'))
          have HBO := Lib.hid (fun W (h : K W) => (refEqualT_any xb.count xb yb _ _ W (fun b => b < hi) (fun b => b < hi) (Nat.le_refl _) (T.In.below hbv ((of_ W h).bel.mono (by omega)) (fun _ h => h)) (fun b hb => by have := (of_ W h).bb.lt; omega) (T.In.below hbv2 ((of_ W h).bel.mono (by omega)) (fun _ h => h)) (fun b hb => by have := (of_ W h).bb.lt; omega)).mono fun e w' ⟨he, hb⟩ => (⟨he, hKn _ _ h hb⟩ : e = Ending.returned (.bool (xb.eqb yb)) ∧ K w'))
          have HSK : Hid (∀ W, K W → Sc2 a b (.slice A0 a.syms.length c0) (.slice (some ad) a.funs.length c1) (.slice A2 a.syms.length c2) (.slice (some ad2) a.funs.length c3) hi w.heap.size w W) := Lib.hid fun W h => of_ W h
          have k1 : K wr := by rw [← hKK]; exact hkq
          have kd := hKn _ _ k1 (Below.refl _ _).drew
          obtain ⟨⟨l1, l2⟩, ⟨r0, r1, r2, r3, r4⟩, q0, q1, q2, q3, q4⟩ := HCell.out _ k1
          have HSC := Lib.hid hsc
          have HNO := Lib.hid hno
          clear hKK of_ hKn hel hel2 hsu hbv hsu2 hbv2 hx hy hsc hno hkq
          simp only [fnEq] at HSC HNO
          generalize xs.eqb ys = bs at *
          generalize xb.eqb yb = bb at *
          by_cases hn : xn = yn
          · subst hn
            cases bs with
            | false =>
              have HE : Hid (a.eqb b = false) := Lib.hid (HE0.out.trans (HNO.out (by simp)))
              go_wp2_with fail
              (refine region_class (C := K) (by kernel_rfl) (by kernel_rfl) kd ?_
               repeat (first
                | go_big_quiet_skip
                | (go_big_quiet_want; go_big_quiet_op; go_big_quiet_on)
                | (go_big_quiet_want
                   go_big_quiet_op
                   apply Exists.intro
                   refine ⟨fun W hW => ?_, ?_⟩
                   first
                     | rfl
                     | exact HSO.out W hW
                     | exact HBO.out W hW
                     | (have hc := HCell.out W hW
                        simp [hc]
                        done)
                     | (have hc := HCell.out W hW
                        simp [hc]
                        rfl)
                   go_big_quiet_on))
               refine wpQuiet_nil ?_
               intro W hW)
              go_wp2_with fail
              go_ret
              exact ⟨ret_bool HE.out.symm, (HSK.out _ hW).bel⟩
            | true =>
              cases bb with
              | false =>
                have HE : Hid (a.eqb b = false) := Lib.hid (HE0.out.trans (HNO.out (by simp)))
                go_wp2_with fail
                (refine region_class (C := K) (by kernel_rfl) (by kernel_rfl) kd ?_
                 repeat (first
                  | go_big_quiet_skip
                  | (go_big_quiet_want; go_big_quiet_op; go_big_quiet_on)
                  | (go_big_quiet_want
                     go_big_quiet_op
                     apply Exists.intro
                     refine ⟨fun W hW => ?_, ?_⟩
                     first
                       | rfl
                       | exact HSO.out W hW
                       | exact HBO.out W hW
                       | (have hc := HCell.out W hW
                          simp [hc]
                          done)
                       | (have hc := HCell.out W hW
                          simp [hc]
                          rfl)
                     go_big_quiet_on))
                 refine wpQuiet_nil ?_
                 intro W hW)
                go_wp2_with fail
                go_ret
                exact ⟨ret_bool HE.out.symm, (HSK.out _ hW).bel⟩
              | true =>
                have HT : Hid (eqLs fnEq (a.funs.take (j + 1)) (b.funs.take (j + 1)) = true) := Lib.hid (HSC.out.trans (by simp))
                go_wp2_with fail
                (refine region_class (C := K) (by kernel_rfl) (by kernel_rfl) kd ?_
                 repeat (first
                  | go_big_quiet_skip
                  | (go_big_quiet_want; go_big_quiet_op; go_big_quiet_on)
                  | (go_big_quiet_want
                     go_big_quiet_op
                     apply Exists.intro
                     refine ⟨fun W hW => ?_, ?_⟩
                     first
                       | rfl
                       | exact HSO.out W hW
                       | exact HBO.out W hW
                       | (have hc := HCell.out W hW
                          simp [hc]
                          done)
                       | (have hc := HCell.out W hW
                          simp [hc]
                          rfl)
                     go_big_quiet_on))
                 refine wpQuiet_nil ?_
                 intro W hW)
                go_wp2_with fail
                go_roundw
                case rel => exact ⟨j + 1, by omega, by go_num, HT, HSK.out _ hW⟩
                case measure => simp [intOf]; omega
          · have HE : Hid (a.eqb b = false) := Lib.hid (HE0.out.trans (HNO.out (by simp [hn])))
            have e1 : (xn.toList == yn.toList) = false := beq_false_of_ne (fun e => hn (nm_eq (by rw [← ByteArray.toList_eq, ← ByteArray.toList_eq]; exact e)))
            have e2 : decide (xn = yn) = false := decide_eq_false hn
            have HSK1 := Lib.hid (HSK.out _ k1)
            clear hn
            go_wp2_with fail
            go_quiet (fail)
            go_wp2_with fail
            go_ret
            exact ⟨ret_bool HE.out.symm, below_drewN HSK1.out.bel _⟩
        · have h1 : a.funs.take j = a.funs := List.take_of_length_le (by omega)
          have h2 : b.funs.take j = b.funs := List.take_of_length_le (by have := HM3.out; omega)
          rw [h1, h2] at hg
          clear h1 h2
          go_wp2_with fail
          go_ret
          exact ⟨ret_bool (by rw [HE0.out, hg.out]), hkq.bel⟩

/-- What the reference's Same answers. -/
def Sc.same (a b : Sc) : Bool := a.ok && (b.ok && a.eqb b)
set_option maxRecDepth 100000 in
set_option maxHeartbeats 800000 in
theorem refScSame_any (a b : Sc) (v0 v1 u0 u1 : Value) (w : World) (hi : Nat) (ha : ScIn w hi a v0 v1) (hb : ScIn w hi b u0 u1) (hhi : hi ≤ w.heap.size) :
    Calls Tryz.prog 39 #[.agg #[v0, v1], .agg #[u0, u1]] w fun e w' => e = .returned (.bool (a.same b)) ∧ Below w.heap.size w w' := by
  have k0 := Sc2.start ha hb hhi
  obtain ⟨⟨A0, n0, c0, rfl⟩, ⟨A1, n1, c1, rfl⟩⟩ := ha.form
  obtain ⟨⟨A2, n2, c2, rfl⟩, ⟨A3, n3, c3, rfl⟩⟩ := hb.form
  have HI := Lib.hid (fun s x0 x1 W h1 h2 => refScIs_any s x0 x1 W hi h1 h2)
  have HE := Lib.hid (fun x0 x1 y0 y1 W h1 h2 h3 => refScEqual_any a b x0 x1 y0 y1 W hi h1 h2 h3)
  obtain ⟨d0, d1, d2, d3⟩ := k0.four
  have HI0 := Lib.hid (HI.out a _ _ _ k0.ia (by have := k0.bb.lt; have := k0.hi; omega))
  rw [sayOk_ok] at HI0
  cases h1 : a.ok with
  | false =>
    have HF : Hid (a.same b = false) := Lib.hid (by simp [Sc.same, h1])
    rw [h1] at HI0
    clear h1
    go_enter Tryz.func39, Tryz.ntmps39
    go_wp2_with fail
    refine HI0.out.mono ?_
    rintro e w1 ⟨rfl, b1⟩
    have k1 := k0.next b1
    go_wp2_with fail
    go_ret
    exact ⟨ret_bool HF.out.symm, k1.bel⟩
  | true =>
    rw [h1] at HI0
    cases h2 : b.ok with
    | false =>
      have HF : Hid (a.same b = false) := Lib.hid (by simp [Sc.same, h2])
      go_enter Tryz.func39, Tryz.ntmps39
      go_wp2_with fail
      refine HI0.out.mono ?_
      rintro e w1 ⟨rfl, b1⟩
      have k1 := k0.next b1
      obtain ⟨e0, e1, e2, e3⟩ := k1.four
      have HI1 := Lib.hid (HI.out b _ _ _ k1.ib (by have := k1.bb.lt; have := k1.hi; omega))
      rw [sayOk_ok, h2] at HI1
      clear h1 h2 d0 d1 d2 d3
      go_wp2_with fail
      refine HI1.out.mono ?_
      rintro e w2 ⟨rfl, b2⟩
      have k2 := k1.next b2
      go_wp2_with fail
      go_ret
      exact ⟨ret_bool HF.out.symm, k2.bel⟩
    | true =>
      have HF : Hid (a.same b = a.eqb b) := Lib.hid (by simp [Sc.same, h1, h2])
      go_enter Tryz.func39, Tryz.ntmps39
      go_wp2_with fail
      refine HI0.out.mono ?_
      rintro e w1 ⟨rfl, b1⟩
      have k1 := k0.next b1
      obtain ⟨e0, e1, e2, e3⟩ := k1.four
      have HI1 := Lib.hid (HI.out b _ _ _ k1.ib (by have := k1.bb.lt; have := k1.hi; omega))
      rw [sayOk_ok, h2] at HI1
      clear h1 h2 d0 d1 d2 d3
      go_wp2_with fail
      refine HI1.out.mono ?_
      rintro e w2 ⟨rfl, b2⟩
      have k2 := k1.next b2
      obtain ⟨f0, f1, f2, f3⟩ := k2.four
      have HE2 := Lib.hid (HE.out _ _ _ _ _ k2.ia k2.ib (by have := k2.bb.lt; have := k2.hi; omega))
      clear e0 e1 e2 e3
      go_wp2_with fail
      refine HE2.out.mono ?_
      rintro e w3 ⟨rfl, b3⟩
      have k3 := k2.next b3
      go_wp2_with fail
      go_ret
      exact ⟨ret_bool HF.out.symm, k3.bel⟩
end Go.Proofs.YtbbejhhohppdhaaGreatDoor

namespace Go.Proofs.YtbbejhhohppdhaaGreatDoor
open Go.RowKit

theorem str_append3 (a b c : List UInt8) : Value.string (⟨a.toArray⟩ ++ ⟨b.toArray⟩ ++ ⟨c.toArray⟩) = .string ⟨(a ++ b ++ c).toArray⟩ := by
  congr 1
set_option maxHeartbeats 800000 in
theorem refNumber_any (n : Int) (h0 : 0 ≤ n) (h : n < 10) (w : World) : Calls Tryz.prog 98 #[.int .i64 n] w fun e w' => e = .returned (.string ⟨(Lib.decDigits n.toNat).toArray⟩) ∧ w' = w := by
  have hn : n = 0 ∨ n = 1 ∨ n = 2 ∨ n = 3 ∨ n = 4 ∨ n = 5 ∨ n = 6 ∨ n = 7 ∨ n = 8 ∨ n = 9 := by omega
  clear h0 h
  rcases hn with rfl | rfl | rfl | rfl | rfl | rfl | rfl | rfl | rfl | rfl
  all_goals
    go_enter Tryz.func98, Tryz.ntmps98
    go_wp2_with fail
    go_ret
    exact ⟨by rw [dec_one (by decide)]; rfl, rfl⟩

set_option maxRecDepth 100000 in
set_option maxHeartbeats 3200000 in
theorem refTerm_any (s : Sc) (hsh : s.short) (v0 v1 : Value) (hi : Nat) (K : Nat) : ∀ (t : T) (v : Value) (w : World), t.count ≤ K → t.count ≤ 1000 → ScIn w hi s v0 v1 → t.In w (fun b => b < hi) v → hi ≤ w.heap.size → t.heads 8 s.funs.length s.syms.length = true →
      Calls Tryz.prog 48 #[.agg #[v0, v1], .agg #[.int .i64 t.kind, .int .i64 t.num, v]] w fun e w' => e = .returned (.string ⟨(t.text s).toArray⟩) ∧ Below w.heap.size w w' := by
  induction K with
  | zero => intro t; have := t.count_pos; omega
  | succ K ih =>
  intro t v w hK hm hsc hin hhi hhd
  have HIH := Lib.hid ih
  clear ih
  obtain ⟨hh1, hh2⟩ := T.heads_head hhd
  obtain ⟨kd, nu, l⟩ := t
  simp only [T.In] at hin
  obtain ⟨A, _, c, us, rfl, rfl, hnc, hc, hrd, hrow⟩ := hin
  obtain ⟨⟨A0, n0, c0, rfl⟩, ⟨A1, n1, c1, rfl⟩⟩ := hsc.form
  simp only [T.kind, T.num, T.args] at *
  simp only [T.count] at hK hm
  simp only [headOk, Bool.and_eq_true, Bool.or_eq_true, decide_eq_true_eq] at hh1
  obtain ⟨h0, h1⟩ := hh1
  obtain ⟨m, rfl⟩ : ∃ m : Nat, nu = (m : Int) := ⟨nu.toNat, by omega⟩
  have wr0 : Below w.heap.size w ((w.alloc (.cells #[.slice A0 n0 c0, .slice A1 n1 c1] 25)).alloc (.cells #[.int .i64 kd, .int .i64 m, .slice A l.length c] 34)) := ((Below.refl _ _).alloc (Nat.le_refl _) _).alloc (by simp) _
  have bx0 : Blk ((w.alloc (.cells #[.slice A0 n0 c0, .slice A1 n1 c1] 25)).alloc (.cells #[.int .i64 kd, .int .i64 m, .slice A l.length c] 34)) w.heap.size 25 #[.slice A0 n0 c0, .slice A1 n1 c1] := (Blk.new _ _ _).alloc _
  have bt0 : Blk ((w.alloc (.cells #[.slice A0 n0 c0, .slice A1 n1 c1] 25)).alloc (.cells #[.int .i64 kd, .int .i64 m, .slice A l.length c] 34)) (w.heap.size + 1) 34 #[.int .i64 kd, .int .i64 m, .slice A l.length c] := by
    have := Blk.new (w.alloc (.cells #[.slice A0 n0 c0, .slice A1 n1 c1] 25)) 34 #[.int .i64 kd, .int .i64 m, .slice A l.length c]
    simpa using this
  have hsc0 := hsc.below wr0 hhi
  have d0 := bx0.cell 0
  have d1 := bx0.cell 1
  have d2 := bt0.cell 0
  have d3 := bt0.cell 1
  have d4 := bt0.cell 2
  simp at d0 d1 d2 d3 d4
  have hhl : (headB s kd (m : Int)).length ≤ 25 := headB_length hsh (by simp only [headOk, Bool.and_eq_true, Bool.or_eq_true, decide_eq_true_eq]; exact ⟨h0, h1⟩)
  rcases h1 with ⟨rfl, h2⟩ | ⟨rfl, h2⟩ | ⟨rfl, h2⟩
  · have HN := Lib.hid (fun W => refNumber_any (m : Int) (by omega) (by omega) W)
    have HF : Hid (headB s 0 (m : Int) = 36 :: Lib.decDigits m) := Lib.hid (by simp [headB])
    simp only [Int.toNat_natCast] at HN
    have hdl : (Lib.decDigits m).length ≤ 1 := by rw [dec_one (by omega)]; simp
    generalize Lib.decDigits m = dg at *
    go_enter Tryz.func48, Tryz.ntmps48
    go_wp2_with fail
    refine (HN.out _).mono ?_
    rintro e w1 ⟨rfl, rfl⟩
    go_wp2_with fail
    go_loopw [36, 5] (fun i n wr => ∃ (k : Nat) (t : List UInt8), k ≤ l.length ∧ i = .int .i64 k ∧ n = .string ⟨t.toArray⟩ ∧ Hid (t = headB s 0 (m : Int) ++ T.textL s (l.take k)) ∧ Blk wr w.heap.size 25 #[.slice A0 n0 c0, .slice A1 n1 c1] ∧ Below w.heap.size w wr) (fun i _ _ => l.length - (intOf i).toNat)
    case atStart => exact ⟨0, headB s 0 (m : Int), Nat.zero_le _, rfl, (by rw [HF.out]; exact str_append [36] dg), Lib.hid (by simp [T.textL]), bx0, wr0⟩
    case round =>
      obtain ⟨k, t, hk, rfl, rfl, ht, hbx, hbel⟩ := hrel
      have hsz := hbel.size
      have hlb := hbx.lt
      have htl : t.length ≤ 30000 := by
        have h1 := T.textL_length hsh (l.take k) (T.headsL_take l k hh2)
        have h2 := T.countL_take_le l k
        rw [ht.out, List.length_append]
        omega
      obtain ⟨e0, e1⟩ : wr.cell? ⟨w.heap.size, 0, none⟩ = some (.slice A0 n0 c0) ∧ wr.cell? ⟨w.heap.size, 1, none⟩ = some (.slice A1 n1 c1) := by
        have a0 := hbx.cell 0
        have a1 := hbx.cell 1
        simp at a0 a1
        exact ⟨a0, a1⟩
      by_cases hlt : k < l.length
      · have hx : l[k]? = some l[k] := List.getElem?_eq_getElem hlt
        have hcl : l[k].count ≤ T.countL l := by
          have h1 := T.countL_take_succ l k _ hx
          have h2 := T.countL_take_le l (k + 1)
          omega
        have hts := T.textL_take_succ s l k _ hx
        have hxh := T.headsL_at hh2 hx
        obtain ⟨ad, u, rfl, hPa, hel, hix⟩ := T.In.el hrd hrow hx
        obtain ⟨r0, r1, r2⟩ := hel.keep (hbel.block _ (by omega))
        obtain ⟨A2, n2, c2, rfl⟩ := hix.form
        have hlx : l[k].args.length = n2 := by
          generalize l[k] = x at hix
          obtain ⟨xk, xn, lx⟩ := x
          simp only [T.In] at hix
          obtain ⟨_, _, _, _, e1, e2, _⟩ := hix
          injection e1 with _ e3 _
          rw [e3]; exact e2
        generalize l[k] = x at *
        have bx : Below wr.heap.size wr (wr.alloc (.cells #[.int .i64 x.kind, .int .i64 x.num, .slice A2 n2 c2] 34)) := (Below.refl _ _).alloc (Nat.le_refl _) _
        have hb2 := hbel.trans (bx.mono (by omega))
        have hbb := Blk.new wr 34 #[.int .i64 x.kind, .int .i64 x.num, .slice A2 n2 c2]
        have p0 := hbb.cell 0
        have p1 := hbb.cell 1
        have p2 := hbb.cell 2
        simp at p0 p1 p2
        have HC := Lib.hid (HIH.out x _ _ (by omega) (by omega) (hsc.below hb2 hhi) (T.In.below hix hb2 (fun _ h => by omega)) (by simp; omega) hxh)
        have hxl := T.text_length hsh x hxh
        have hbx2 := Lib.hid (hbx.alloc (.cells #[.int .i64 x.kind, .int .i64 x.num, .slice A2 n2 c2] 34))
        have hxt : x.text s = headB s x.kind x.num ++ T.textL s x.args := T.text_eq s x
        by_cases h0 : n2 = 0
        · have hargs : x.args = [] := List.eq_nil_of_length_eq_zero (by omega)
          have HT : Hid (t ++ [32] ++ x.text s = headB s 0 (m : Int) ++ T.textL s (l.take (k + 1))) := Lib.hid (by rw [hts, ht.out, hxt]; simp [T.argText, hargs, T.textL])
          have hn0 : ((n2 : Int) == 0) = true := by rw [h0]; rfl
          generalize x.text s = tx at *
          clear hx hts hlx h0 hargs hxt hel hix hbb hbx
          go_wp2_with fail
          refine HC.out.mono ?_
          rintro e w1 ⟨rfl, hb1⟩
          have hbx3 := hbx2.out.below hb1 hbx2.out.lt
          simp only [World.size_alloc] at hb1
          go_wp2_with fail
          go_roundw
          case rel => exact ⟨k + 1, t ++ [32] ++ tx, by omega, by go_num, str_append3 _ _ _, HT, hbx3, hb2.trans (hb1.mono (by omega))⟩
          case measure => simp [intOf]; omega
        · have hargs : x.args ≠ [] := fun e => by rw [e] at hlx; simp at hlx; omega
          have HT : Hid (t ++ [32, 40] ++ x.text s ++ [41] = headB s 0 (m : Int) ++ T.textL s (l.take (k + 1))) := Lib.hid (by rw [hts, ht.out]; simp [T.argText, hargs])
          have hn0 : ((n2 : Int) == 0) = false := by rw [beq_eq_false_iff_ne]; omega
          generalize x.text s = tx at *
          clear hx hts hlx h0 hargs hxt hel hix hbb hbx
          go_wp2_with fail
          refine HC.out.mono ?_
          rintro e w1 ⟨rfl, hb1⟩
          have hbx3 := hbx2.out.below hb1 hbx2.out.lt
          simp only [World.size_alloc] at hb1
          go_wp2_with fail
          go_roundw
          case rel => exact ⟨k + 1, t ++ [32, 40] ++ tx ++ [41], by omega, by go_num, str_append4 _ _ _ _, HT, hbx3, hb2.trans (hb1.mono (by omega))⟩
          case measure => simp [intOf]; omega
      · have HT : Hid (t = (T.mk 0 (m : Int) l).text s) := Lib.hid (by have := ht.out; rw [List.take_of_length_le (by omega)] at this; rw [this, T.text])
        go_wp2_with fail
        go_ret
        exact ⟨by rw [← HT.out]; rfl, hbel⟩
  · obtain ⟨A', _, c', us', he, hl', hnc', hc', hrd', hrow'⟩ := hsc0.fn
    injection he with g1 g2 g3
    subst g1 g2 g3 hl'
    have hx : s.funs[m]? = some s.funs[m] := List.getElem?_eq_getElem (by omega)
    have HF : Hid (headB s 1 (m : Int) = fnm s.funs[m]) := Lib.hid (by simp [headB, hx])
    obtain ⟨ad, u, vb, rfl, hPa, hel, _⟩ := fn_el hrd' hrow' hx
    have r0 := hel.c0
    generalize s.funs[m] = x at *
    obtain ⟨name, sort, body⟩ := x
    simp only at r0
    have hml : m < s.funs.length := by omega
    clear hel hrow' hrd' hx
    go_enter Tryz.func48, Tryz.ntmps48
    go_wp2_with fail
    go_loopw [36, 5] (fun i n wr => ∃ (k : Nat) (t : List UInt8), k ≤ l.length ∧ i = .int .i64 k ∧ n = .string ⟨t.toArray⟩ ∧ Hid (t = headB s 1 (m : Int) ++ T.textL s (l.take k)) ∧ Blk wr w.heap.size 25 #[.slice A0 n0 c0, .slice (some ad) s.funs.length c1] ∧ Below w.heap.size w wr) (fun i _ _ => l.length - (intOf i).toNat)
    case atStart => exact ⟨0, headB s 1 (m : Int), Nat.zero_le _, rfl, (by rw [HF.out]; exact str_list name), Lib.hid (by simp [T.textL]), bx0, wr0⟩
    case round =>
      obtain ⟨k, t, hk, rfl, rfl, ht, hbx, hbel⟩ := hrel
      have hsz := hbel.size
      have hlb := hbx.lt
      have htl : t.length ≤ 30000 := by
        have h1 := T.textL_length hsh (l.take k) (T.headsL_take l k hh2)
        have h2 := T.countL_take_le l k
        rw [ht.out, List.length_append]
        omega
      obtain ⟨e0, e1⟩ : wr.cell? ⟨w.heap.size, 0, none⟩ = some (.slice A0 n0 c0) ∧ wr.cell? ⟨w.heap.size, 1, none⟩ = some (.slice (some ad) s.funs.length c1) := by
        have a0 := hbx.cell 0
        have a1 := hbx.cell 1
        simp at a0 a1
        exact ⟨a0, a1⟩
      by_cases hlt : k < l.length
      · have hx : l[k]? = some l[k] := List.getElem?_eq_getElem hlt
        have hcl : l[k].count ≤ T.countL l := by
          have h1 := T.countL_take_succ l k _ hx
          have h2 := T.countL_take_le l (k + 1)
          omega
        have hts := T.textL_take_succ s l k _ hx
        have hxh := T.headsL_at hh2 hx
        obtain ⟨ad, u, rfl, hPa, hel, hix⟩ := T.In.el hrd hrow hx
        obtain ⟨r0, r1, r2⟩ := hel.keep (hbel.block _ (by omega))
        obtain ⟨A2, n2, c2, rfl⟩ := hix.form
        have hlx : l[k].args.length = n2 := by
          generalize l[k] = x at hix
          obtain ⟨xk, xn, lx⟩ := x
          simp only [T.In] at hix
          obtain ⟨_, _, _, _, e1, e2, _⟩ := hix
          injection e1 with _ e3 _
          rw [e3]; exact e2
        generalize l[k] = x at *
        have bx : Below wr.heap.size wr (wr.alloc (.cells #[.int .i64 x.kind, .int .i64 x.num, .slice A2 n2 c2] 34)) := (Below.refl _ _).alloc (Nat.le_refl _) _
        have hb2 := hbel.trans (bx.mono (by omega))
        have hbb := Blk.new wr 34 #[.int .i64 x.kind, .int .i64 x.num, .slice A2 n2 c2]
        have p0 := hbb.cell 0
        have p1 := hbb.cell 1
        have p2 := hbb.cell 2
        simp at p0 p1 p2
        have HC := Lib.hid (HIH.out x _ _ (by omega) (by omega) (hsc.below hb2 hhi) (T.In.below hix hb2 (fun _ h => by omega)) (by simp; omega) hxh)
        have hxl := T.text_length hsh x hxh
        have hbx2 := Lib.hid (hbx.alloc (.cells #[.int .i64 x.kind, .int .i64 x.num, .slice A2 n2 c2] 34))
        have hxt : x.text s = headB s x.kind x.num ++ T.textL s x.args := T.text_eq s x
        by_cases h0 : n2 = 0
        · have hargs : x.args = [] := List.eq_nil_of_length_eq_zero (by omega)
          have HT : Hid (t ++ [32] ++ x.text s = headB s 1 (m : Int) ++ T.textL s (l.take (k + 1))) := Lib.hid (by rw [hts, ht.out, hxt]; simp [T.argText, hargs, T.textL])
          have hn0 : ((n2 : Int) == 0) = true := by rw [h0]; rfl
          generalize x.text s = tx at *
          clear hx hts hlx h0 hargs hxt hel hix hbb hbx
          go_wp2_with fail
          refine HC.out.mono ?_
          rintro e w1 ⟨rfl, hb1⟩
          have hbx3 := hbx2.out.below hb1 hbx2.out.lt
          simp only [World.size_alloc] at hb1
          go_wp2_with fail
          go_roundw
          case rel => exact ⟨k + 1, t ++ [32] ++ tx, by omega, by go_num, str_append3 _ _ _, HT, hbx3, hb2.trans (hb1.mono (by omega))⟩
          case measure => simp [intOf]; omega
        · have hargs : x.args ≠ [] := fun e => by rw [e] at hlx; simp at hlx; omega
          have HT : Hid (t ++ [32, 40] ++ x.text s ++ [41] = headB s 1 (m : Int) ++ T.textL s (l.take (k + 1))) := Lib.hid (by rw [hts, ht.out]; simp [T.argText, hargs])
          have hn0 : ((n2 : Int) == 0) = false := by rw [beq_eq_false_iff_ne]; omega
          generalize x.text s = tx at *
          clear hx hts hlx h0 hargs hxt hel hix hbb hbx
          go_wp2_with fail
          refine HC.out.mono ?_
          rintro e w1 ⟨rfl, hb1⟩
          have hbx3 := hbx2.out.below hb1 hbx2.out.lt
          simp only [World.size_alloc] at hb1
          go_wp2_with fail
          go_roundw
          case rel => exact ⟨k + 1, t ++ [32, 40] ++ tx ++ [41], by omega, by go_num, str_append4 _ _ _ _, HT, hbx3, hb2.trans (hb1.mono (by omega))⟩
          case measure => simp [intOf]; omega
      · have HT : Hid (t = (T.mk 1 (m : Int) l).text s) := Lib.hid (by have := ht.out; rw [List.take_of_length_le (by omega)] at this; rw [this, T.text])
        go_wp2_with fail
        go_ret
        exact ⟨by rw [← HT.out]; rfl, hbel⟩
  · obtain ⟨A', _, c', he, hl', hnc', hc', hrd', hsz'⟩ := hsc0.sy
    injection he with g1 g2 g3
    subst g1 g2 g3 hl'
    have hx : s.syms[m]? = some s.syms[m] := List.getElem?_eq_getElem (by omega)
    have HF : Hid (headB s 2 (m : Int) = 35 :: nm s.syms[m]) := Lib.hid (by simp [headB, hx])
    obtain ⟨ad, rfl, hPa, hel⟩ := sy_el hrd' hx
    have r0 := hel.1
    have hsx := hsh.1 s.syms[m] (List.getElem_mem (by omega))
    generalize s.syms[m] = x at *
    obtain ⟨name, rank⟩ := x
    simp only at r0 hsx
    have hml : m < s.syms.length := by omega
    clear hel hrd' hx
    go_enter Tryz.func48, Tryz.ntmps48
    go_wp2_with fail
    go_loopw [36, 5] (fun i n wr => ∃ (k : Nat) (t : List UInt8), k ≤ l.length ∧ i = .int .i64 k ∧ n = .string ⟨t.toArray⟩ ∧ Hid (t = headB s 2 (m : Int) ++ T.textL s (l.take k)) ∧ Blk wr w.heap.size 25 #[.slice (some ad) s.syms.length c0, .slice A1 n1 c1] ∧ Below w.heap.size w wr) (fun i _ _ => l.length - (intOf i).toNat)
    case atStart => exact ⟨0, headB s 2 (m : Int), Nat.zero_le _, rfl, (by rw [HF.out]; exact str_one 35 name), Lib.hid (by simp [T.textL]), bx0, wr0⟩
    case round =>
      obtain ⟨k, t, hk, rfl, rfl, ht, hbx, hbel⟩ := hrel
      have hsz := hbel.size
      have hlb := hbx.lt
      have htl : t.length ≤ 30000 := by
        have h1 := T.textL_length hsh (l.take k) (T.headsL_take l k hh2)
        have h2 := T.countL_take_le l k
        rw [ht.out, List.length_append]
        omega
      obtain ⟨e0, e1⟩ : wr.cell? ⟨w.heap.size, 0, none⟩ = some (.slice (some ad) s.syms.length c0) ∧ wr.cell? ⟨w.heap.size, 1, none⟩ = some (.slice A1 n1 c1) := by
        have a0 := hbx.cell 0
        have a1 := hbx.cell 1
        simp at a0 a1
        exact ⟨a0, a1⟩
      by_cases hlt : k < l.length
      · have hx : l[k]? = some l[k] := List.getElem?_eq_getElem hlt
        have hcl : l[k].count ≤ T.countL l := by
          have h1 := T.countL_take_succ l k _ hx
          have h2 := T.countL_take_le l (k + 1)
          omega
        have hts := T.textL_take_succ s l k _ hx
        have hxh := T.headsL_at hh2 hx
        obtain ⟨ad, u, rfl, hPa, hel, hix⟩ := T.In.el hrd hrow hx
        obtain ⟨r0, r1, r2⟩ := hel.keep (hbel.block _ (by omega))
        obtain ⟨A2, n2, c2, rfl⟩ := hix.form
        have hlx : l[k].args.length = n2 := by
          generalize l[k] = x at hix
          obtain ⟨xk, xn, lx⟩ := x
          simp only [T.In] at hix
          obtain ⟨_, _, _, _, e1, e2, _⟩ := hix
          injection e1 with _ e3 _
          rw [e3]; exact e2
        generalize l[k] = x at *
        have bx : Below wr.heap.size wr (wr.alloc (.cells #[.int .i64 x.kind, .int .i64 x.num, .slice A2 n2 c2] 34)) := (Below.refl _ _).alloc (Nat.le_refl _) _
        have hb2 := hbel.trans (bx.mono (by omega))
        have hbb := Blk.new wr 34 #[.int .i64 x.kind, .int .i64 x.num, .slice A2 n2 c2]
        have p0 := hbb.cell 0
        have p1 := hbb.cell 1
        have p2 := hbb.cell 2
        simp at p0 p1 p2
        have HC := Lib.hid (HIH.out x _ _ (by omega) (by omega) (hsc.below hb2 hhi) (T.In.below hix hb2 (fun _ h => by omega)) (by simp; omega) hxh)
        have hxl := T.text_length hsh x hxh
        have hbx2 := Lib.hid (hbx.alloc (.cells #[.int .i64 x.kind, .int .i64 x.num, .slice A2 n2 c2] 34))
        have hxt : x.text s = headB s x.kind x.num ++ T.textL s x.args := T.text_eq s x
        by_cases h0 : n2 = 0
        · have hargs : x.args = [] := List.eq_nil_of_length_eq_zero (by omega)
          have HT : Hid (t ++ [32] ++ x.text s = headB s 2 (m : Int) ++ T.textL s (l.take (k + 1))) := Lib.hid (by rw [hts, ht.out, hxt]; simp [T.argText, hargs, T.textL])
          have hn0 : ((n2 : Int) == 0) = true := by rw [h0]; rfl
          generalize x.text s = tx at *
          clear hx hts hlx h0 hargs hxt hel hix hbb hbx
          go_wp2_with fail
          refine HC.out.mono ?_
          rintro e w1 ⟨rfl, hb1⟩
          have hbx3 := hbx2.out.below hb1 hbx2.out.lt
          simp only [World.size_alloc] at hb1
          go_wp2_with fail
          go_roundw
          case rel => exact ⟨k + 1, t ++ [32] ++ tx, by omega, by go_num, str_append3 _ _ _, HT, hbx3, hb2.trans (hb1.mono (by omega))⟩
          case measure => simp [intOf]; omega
        · have hargs : x.args ≠ [] := fun e => by rw [e] at hlx; simp at hlx; omega
          have HT : Hid (t ++ [32, 40] ++ x.text s ++ [41] = headB s 2 (m : Int) ++ T.textL s (l.take (k + 1))) := Lib.hid (by rw [hts, ht.out]; simp [T.argText, hargs])
          have hn0 : ((n2 : Int) == 0) = false := by rw [beq_eq_false_iff_ne]; omega
          generalize x.text s = tx at *
          clear hx hts hlx h0 hargs hxt hel hix hbb hbx
          go_wp2_with fail
          refine HC.out.mono ?_
          rintro e w1 ⟨rfl, hb1⟩
          have hbx3 := hbx2.out.below hb1 hbx2.out.lt
          simp only [World.size_alloc] at hb1
          go_wp2_with fail
          go_roundw
          case rel => exact ⟨k + 1, t ++ [32, 40] ++ tx ++ [41], by omega, by go_num, str_append4 _ _ _ _, HT, hbx3, hb2.trans (hb1.mono (by omega))⟩
          case measure => simp [intOf]; omega
      · have HT : Hid (t = (T.mk 2 (m : Int) l).text s) := Lib.hid (by have := ht.out; rw [List.take_of_length_le (by omega)] at this; rw [this, T.text])
        go_wp2_with fail
        go_ret
        exact ⟨by rw [← HT.out]; rfl, hbel⟩

theorem str_sym (t : List UInt8) (name : ByteArray) (dg : List UInt8) : Value.string (⟨t.toArray⟩ ++ ⟨#[115, 121, 109, 98, 111, 108, 32]⟩ ++ name ++ ⟨#[32]⟩ ++ ⟨dg.toArray⟩ ++ ⟨#[10]⟩) = .string ⟨(t ++ [115, 121, 109, 98, 111, 108, 32] ++ name.data.toList ++ [32] ++ dg ++ [10]).toArray⟩ := by
  congr 1
theorem str_fun (t : List UInt8) (name : ByteArray) (tx ty : List UInt8) : Value.string (⟨t.toArray⟩ ++ ⟨#[102, 117, 110, 32]⟩ ++ name ++ ⟨#[32, 58, 32]⟩ ++ ⟨tx.toArray⟩ ++ ⟨#[32, 61, 32]⟩ ++ ⟨ty.toArray⟩ ++ ⟨#[10]⟩) = .string ⟨(t ++ [102, 117, 110, 32] ++ name.data.toList ++ [32, 58, 32] ++ tx ++ [32, 61, 32] ++ ty ++ [10]).toArray⟩ := by
  congr 1

end Go.Proofs.YtbbejhhohppdhaaGreatDoor
