/-
  SchemeOwn: no function modifies its argument, and the ranks that are returned are new memory.
-/
import Derived.Test.YthgkgjbjiiedaaaGreatDoorSLawOrder
import Derived.Test.YthgkgjbjiiedaaaGreatDoorSLawPut
import Derived.Test.YthgkgjbjiiedaaaGreatDoorSLawSame
import Derived.Test.YthgkgjbjiiedaaaGreatDoorSReach
import Derived.Test.YthgkgjbjiiedaaaGreatDoorSRefCopy
import Derived.Test.YthgkgjbjiiedaaaGreatDoorSRefEq
namespace Go.Proofs.YthgkgjbjiiedaaaGreatDoor
open Go.RowKit

theorem Zs.blk {B : Nat} {w : World} {l : List Int} {g n c : Nat} (h : Zs B w l (.slice (some ⟨g, 0, none⟩) n c)) : ∃ cur : Array Value, Blk w g 3 cur ∧ cur.toList.take l.length = l.map (Value.int .i64) ∧ n = l.length ∧ l.length ≤ c ∧ c ≤ maxLen ∧ cur.size = c * 1 ∧ B ≤ g := by
  obtain ⟨_, h0 | ⟨g', cap, cur, e, h1, h2, h3, h4, h5, h6⟩⟩ := h
  · injection h0.1 with e; cases e
  · injection e with e1 e2 e3
    injection e1 with e1
    injection e1 with e1
    subst e1 e3
    exact ⟨cur, h2, by simpa using h6, e2, h3, h4, h5, h1⟩
theorem Zs.set_ {B : Nat} {w : World} {l : List Int} {g n c : Nat} (h : Zs B w l (.slice (some ⟨g, 0, none⟩) n c)) (j : Nat) (y : Int) :
    Zs B (w.setCell ⟨g, j, none⟩ (.int .i64 y)) (l.set j y) (.slice (some ⟨g, 0, none⟩) n c) := by
  obtain ⟨cur, h1, h2, rfl, h3, h4, h5, h6⟩ := h.blk
  refine ⟨by simp, .inr ⟨g, c, cur.setIfInBounds j (.int .i64 y), by rw [List.length_set], h6, h1.set_ j _, by simpa using h3, h4, by simpa using h5, ?_⟩⟩
  rw [Array.toList_setIfInBounds, List.length_set, Nat.mul_one, List.take_set, h2, List.map_set]

/-- What the walk of SchemeOwn keeps. -/
structure OwG (s : Sc) (v0 v1 u0 u1 : Value) (hi B wb h2 : Nat) (w0 w : World) : Prop where
  k : ScG s v0 v1 hi B w0 w
  b : Blk w wb 25 #[u0, u1]
  i : ScIn w h2 s u0 u1
  h : h2 ≤ wb
  hh : hi ≤ h2
theorem OwG.next {s : Sc} {v0 v1 u0 u1 : Value} {hi B wb h2 : Nat} {w0 w w' : World} (h : OwG s v0 v1 u0 u1 hi B wb h2 w0 w) (hb : Below w.heap.size w w') : OwG s v0 v1 u0 u1 hi B wb h2 w0 w' :=
  ⟨h.k.next hb, h.b.below hb h.b.lt, h.i.below hb (by have := h.h; have := h.b.lt; omega), h.h, h.hh⟩

set_option maxHeartbeats 3200000 in
set_option maxRecDepth 100000 in
theorem lawOwnS_any (s : Sc) (v0 v1 : Value) (w : World) (hi : Nat) (hin : ScIn w hi s v0 v1) (hhi : hi ≤ w.heap.size) (hg : GV w) (h8 : 8 ≤ w.heap.size) :
    Calls Tryz.prog 13 #[.agg #[v0, v1]] w fun e w' => e = .returned (.bool true) ∧ Below w.heap.size w w' := by
  have k0 := ScG.start hin hhi hg h8
  obtain ⟨⟨A0, n0, c0, rfl⟩, ⟨A1, n1, c1, rfl⟩⟩ := hin.form
  obtain ⟨d0, d1⟩ := k0.two
  have HI := Lib.hid (refScIs_any s _ _ _ hi k0.k.i k0.lt.1)
  rw [sayOk_ok] at HI
  cases hok : s.ok with
  | false =>
    rw [hok] at HI
    clear hok
    go_enter Tryz.func13, Tryz.ntmps13
    go_wp2_with fail
    refine HI.out.mono ?_
    rintro e w1 ⟨rfl, b1⟩
    have k1 := k0.next b1
    have HA := Lib.hid (aliveS_any w1 k1.g k1.lt.2)
    go_wp2_with fail
    refine HA.out.mono ?_
    rintro e w2 ⟨rfl, b2⟩
    have k2 := k1.next b2
    go_wp2_with fail
    go_ret
    exact ⟨rfl, k2.k.bel⟩
  | true =>
    have HCP := Lib.hid (fun W (h : ScG s (.slice A0 n0 c0) (.slice A1 n1 c1) hi w.heap.size w W) => refScCopy_any s hok _ _ W hi h.k.i h.lt.1)
    have G := Sc.good hok
    have HOK := Lib.hid hok
    have HEQ : Hid (s.eqb s = true) := Lib.hid (Sc.eqb_same s)
    have hn0 : ((s.syms.length : Int) == (n0 : Int)) = true := by
      obtain ⟨A9, n9, c9, he, hl, _⟩ := hin.sy
      injection he with e1 e2 e3
      subst e2
      simp [hl]
    rw [hok] at HI
    clear hok
    go_enter Tryz.func13, Tryz.ntmps13
    go_wp2_with fail
    refine HI.out.mono ?_
    rintro e w1 ⟨rfl, b1⟩
    have k1 := k0.next b1
    obtain ⟨e0, e1⟩ := k1.two
    have HC1 := Lib.hid (HCP.out _ k1)
    clear HI HCP d0 d1 k0 b1
    go_wp2_with fail
    refine HC1.out.mono ?_
    rintro e w2 ⟨u0, u1, rfl, hin2, b2⟩
    obtain ⟨⟨A2, n2, c2, rfl⟩, ⟨A3, n3, c3, rfl⟩⟩ := hin2.form
    have k2 := k1.next b2
    have hbw : Below w2.heap.size w2 (w2.alloc (.cells #[.slice A2 n2 c2, .slice A3 n3 c3] 25)) := (Below.refl _ _).alloc (Nat.le_refl _) _
    have o2 : OwG s (.slice A0 n0 c0) (.slice A1 n1 c1) (.slice A2 n2 c2) (.slice A3 n3 c3) hi w.heap.size w2.heap.size w2.heap.size w (w2.alloc (.cells #[.slice A2 n2 c2, .slice A3 n3 c3] 25)) :=
      ⟨k2.next hbw, Blk.new _ _ _, hin2.below hbw (Nat.le_refl _), Nat.le_refl _, k2.lt.1⟩
    have HC := Lib.hid (fun W (h : OwG s (.slice A0 n0 c0) (.slice A1 n1 c1) (.slice A2 n2 c2) (.slice A3 n3 c3) hi w.heap.size w2.heap.size w2.heap.size w W) => schemeCheck_any s _ _ W hi h.k.k.i h.k.lt.1)
    have HO := Lib.hid (fun W (h : OwG s (.slice A0 n0 c0) (.slice A1 n1 c1) (.slice A2 n2 c2) (.slice A3 n3 c3) hi w.heap.size w2.heap.size w2.heap.size w W) => schemeOrder_any s _ _ W hi h.k.k.i h.k.lt.1)
    have HS := Lib.hid (fun W (h : OwG s (.slice A0 n0 c0) (.slice A1 n1 c1) (.slice A2 n2 c2) (.slice A3 n3 c3) hi w.heap.size w2.heap.size w2.heap.size w W) => schemeSame_any s s _ _ _ _ W hi h.k.k.i h.k.k.i h.k.lt.1)
    have HP := Lib.hid (fun W (h : OwG s (.slice A0 n0 c0) (.slice A1 n1 c1) (.slice A2 n2 c2) (.slice A3 n3 c3) hi w.heap.size w2.heap.size w2.heap.size w W) => schemePut_any s _ _ W hi h.k.k.i h.k.lt.1)
    have HRK := Lib.hid (fun W (h : OwG s (.slice A0 n0 c0) (.slice A1 n1 c1) (.slice A2 n2 c2) (.slice A3 n3 c3) hi w.heap.size w2.heap.size w2.heap.size w W) => schemeRanks_any s _ _ W hi h.k.k.i h.k.lt.1)
    have HRE := Lib.hid (fun W (h : OwG s (.slice A0 n0 c0) (.slice A1 n1 c1) (.slice A2 n2 c2) (.slice A3 n3 c3) hi w.heap.size w2.heap.size w2.heap.size w W) => schemeReach_any s _ _ W hi h.k.k.i h.k.lt.1)
    obtain ⟨f0, f1⟩ := o2.k.two
    clear HC1 k1 k2 e0 e1 hin2 b2
    go_wp2_with fail
    refine (HC.out _ o2).mono ?_
    rintro e w3 ⟨rfl, b3⟩
    have o3 := o2.next b3
    obtain ⟨p0, p1⟩ := o3.k.two
    clear f0 f1 o2 b3
    go_wp2_with fail
    refine (HO.out _ o3).mono ?_
    rintro e w4 ⟨rfl, b4⟩
    have o4 := o3.next b4
    obtain ⟨q0, q1⟩ := o4.k.two
    clear p0 p1 o3 b4
    go_wp2_with fail
    refine (HS.out _ o4).mono ?_
    rintro e w5 ⟨rfl, b5⟩
    have o5 := o4.next b5
    obtain ⟨p0, p1⟩ := o5.k.two
    clear q0 q1 o4 b5
    go_wp2_with fail
    refine (HP.out _ o5).mono ?_
    rintro e w6 ⟨rfl, b6⟩
    have o6 := o5.next b6
    obtain ⟨q0, q1⟩ := o6.k.two
    clear p0 p1 o5 b6
    go_wp2_with fail
    refine (HRK.out _ o6).mono ?_
    rintro e w7 ⟨vl, rfl, hzl, b7⟩
    have o7 := o6.next b7
    have hrk : s.ranks.length = s.syms.length := by simp [Sc.ranks, HOK.out]
    obtain ⟨A4, c4, rfl, hlc, hcm⟩ := hzl.form
    have hsl := G.sy_all.1
    have HZ := Lib.hid hzl
    have O6 := Lib.hid o6
    have O7 := Lib.hid o7
    have HB7 := Lib.hid b7
    have hz7 := b7.size
    rw [hrk] at hlc
    have HRL := Lib.hid hrk
    clear q0 q1 o7 o6 b7 hzl
    go_wp2_with fail
    clear hrk
    go_loopw [29] (fun i wr => ∃ (k : Nat) (l : List Int), k ≤ s.syms.length ∧ i = .int .i64 k ∧ l.length = s.syms.length ∧ Zs w6.heap.size wr l (.slice A4 s.syms.length c4) ∧ Below w6.heap.size w6 wr) (fun i _ => s.syms.length - (Go.RowKit.intOf i).toNat)
    case atStart => exact ⟨0, _, Nat.zero_le _, rfl, HRL.out, by rw [← HRL.out]; exact HZ.out, HB7.out⟩
    case round =>
      obtain ⟨k, l, hk, rfl, hll, hzr, hbel⟩ := hrel
      by_cases hlt : k < s.syms.length
      · have hx : l[k]? = some (l[k]'(by omega)) := List.getElem?_eq_getElem (by omega)
        obtain ⟨g, rfl, hgl, r0⟩ := hzr.cell hx
        have HZR := Lib.hid hzr
        obtain ⟨cur, hbk, _, _, _, _, _, hgB⟩ := hzr.blk
        have r1 := hbk.frozen k
        have HLL := Lib.hid hll
        generalize l[k]'(by omega) = y at *
        clear hx hzr hbk hll
        go_wp2_with fail
        go_roundw
        case rel => exact ⟨k + 1, l.set k _, by omega, by go_num, by rw [List.length_set]; exact HLL.out, HZR.out.set_ k _, hbel.setCell hgB _⟩
        case measure => simp [Go.RowKit.intOf]; omega
      · have o8 := O6.out.next hbel
        obtain ⟨q0, q1⟩ := o8.k.two
        clear hzr hll
        go_wp2_with fail
        refine (HRE.out _ o8).mono ?_
        rintro e w9 ⟨vr, rfl, hzr9, b9⟩
        have o9 := o8.next b9
        obtain ⟨A5, c5, rfl, _, _⟩ := hzr9.form
        obtain ⟨p0, p1⟩ := o9.k.two
        have p2 := o9.b.cell 0
        have p3 := o9.b.cell 1
        simp at p2 p3
        clear q0 q1 o8 b9 hzr9
        have HE := Lib.hid (refScEqual_any s s _ _ _ _ w9 w2.heap.size (o9.k.k.i.more o9.hh) o9.i (by have := o9.b.lt; omega))
        rw [HEQ.out] at HE
        go_wp2_with fail
        refine HE.out.mono ?_
        rintro e w10 ⟨rfl, b10⟩
        have o10 := o9.next b10
        obtain ⟨q0, q1⟩ := o10.k.two
        have HSY := Lib.hid (refSymbols_any s.syms _ w10 (fun b => b < hi) o10.k.k.i.sy (fun b hb => by have := o10.k.lt.1; omega))
        rw [G.sy] at HSY
        clear HE p0 p1 p2 p3 o9 b10
        go_wp2_with fail
        refine HSY.out.mono ?_
        rintro e w11 ⟨rfl, b11⟩
        have o11 := o10.next b11
        obtain ⟨p0, p1⟩ := o11.k.two
        obtain ⟨A8, _, c8, us8, he8, rfl, hnc8, hc8, hrd8, hrow8⟩ := o11.k.k.i.fn
        injection he8 with e1 e2 e3
        subst e1 e2 e3
        have hx : s.funs[0]? = some (s.funs[0]'(by have := G.n1; omega)) := List.getElem?_eq_getElem (by have := G.n1; omega)
        have hso := G.so _ (List.getElem_mem (by have := G.n1; omega : 0 < s.funs.length))
        obtain ⟨ad, u8, v8, rfl, hPa, hel, hsu, hbv, hsx⟩ := fn_el hrd8 hrow8 hx
        have r1 := hel.zero
        obtain ⟨A9, n9, c9, rfl⟩ := hsu.form
        have hn1 := G.n1
        generalize s.funs[0]'(by have := G.n1; omega) = x8 at *
        clear HSY q0 q1 o10 b11
        have HIS := Lib.hid (is_any x8.sort _ w11 0 hi hsu o11.k.lt.1)
        rw [hso] at HIS
        go_wp2_with fail
        refine HIS.out.mono ?_
        rintro e w12 ⟨rfl, b12⟩
        have o12 := o11.next b12
        have HA := Lib.hid (aliveS_any w12 o12.k.g o12.k.lt.2)
        clear HIS p0 p1 o11 b12
        go_wp2_with fail
        refine HA.out.mono ?_
        rintro e w13 ⟨rfl, b13⟩
        have o13 := o12.next b13
        go_wp2_with fail
        go_ret
        exact ⟨rfl, o13.k.k.bel⟩
end Go.Proofs.YthgkgjbjiiedaaaGreatDoor
