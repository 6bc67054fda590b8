/-
  term.Check and the reference's Is and Check: contracts.
-/
import Derived.Test.YtkkfdiidneoelaaDoorSyms
import Derived.Test.YtkkfdiidneoelaaDoorSize
namespace Go.Proofs.YtkkfdiidneoelaaDoor
open Go.RowKit

theorem errOf_ne (b : Bool) : decide (errOf b = 0) = b := by cases b <;> rfl

set_option maxHeartbeats 400000 in
theorem areSorts1_any (s : S) (v : Value) (w : World) (lo hi : Nat) (hin : s.In w lo hi v) (hhi : hi ≤ w.heap.size) :
    Calls Tryd.prog 78 #[.agg #[v]] w fun e w' => e = .returned (.bool (!s.ok)) ∧ Below w.heap.size w w' := by
  obtain ⟨A, n, c, rfl⟩ := hin.form
  have hw1 : Below w.heap.size w (w.alloc (.cells #[.slice A n c] 41)) := (Below.refl _ _).alloc (Nat.le_refl _) _
  have HC := Lib.hid (check_any s _ _ lo hi (hin.below hw1 hhi) (by simp; omega))
  cases hok : s.ok with
  | true =>
    rw [hok] at HC
    simp only [errOf, if_true] at HC
    clear hok
    go_enter Tryd.func78, Tryd.ntmps78
    go_wp2_with fail
    refine HC.out.mono ?_
    rintro e w1 ⟨rfl, hb1⟩
    simp only [World.size_alloc] at hb1
    go_wp2_with fail
    go_ret
    exact ⟨rfl, hw1.trans (hb1.mono (by omega))⟩
  | false =>
    rw [hok] at HC
    simp only [errOf] at HC
    clear hok
    go_enter Tryd.func78, Tryd.ntmps78
    go_wp2_with fail
    refine HC.out.mono ?_
    rintro e w1 ⟨rfl, hb1⟩
    simp only [World.size_alloc] at hb1
    go_wp2_with fail
    go_ret
    exact ⟨rfl, hw1.trans (hb1.mono (by omega))⟩

theorem allok_take_succ {l : List S} {k : Nat} {x : S} (hx : l[k]? = some x) : (l.take (k + 1)).all S.ok = ((l.take k).all S.ok && x.ok) := by
  rw [List.take_add_one, hx, List.all_append]; simp
theorem allok_false {l : List S} {k : Nat} {x : S} (hx : l[k]? = some x) (h : x.ok = false) : l.all S.ok = false := by
  rw [Bool.eq_false_iff]
  intro hh
  rw [List.all_eq_true] at hh
  have := hh x (List.mem_of_getElem? hx)
  rw [h] at this; cases this

set_option maxHeartbeats 800000 in
theorem indexFunc_any (l : List S) (A : Option Addr) (c : Nat) (w : World) (lo hi : Nat) (hlc : l.length ≤ c) (hc : c ≤ 9223372036854775807) (hall : S.All w lo hi A 0 l) (hhi : hi ≤ w.heap.size) :
    Calls Tryd.prog 96 #[.slice A l.length c, .func (.func 78) #[] #[]] w fun e w' => ∃ i : Int, e = .returned (.int .i64 i) ∧ decide (0 ≤ i) = (!l.all S.ok) ∧ Below w.heap.size w w' := by
  go_enter Tryd.func96, Tryd.ntmps96
  go_wp2_with fail
  go_loopw [8] (fun i wr => ∃ k : Nat, k ≤ l.length ∧ i = .int .i64 k ∧ Hid ((l.take k).all S.ok = true) ∧ Below w.heap.size w wr) (fun i _ => l.length - (intOf i).toNat)
  case atStart => exact ⟨0, Nat.zero_le _, rfl, Lib.hid (by simp), Below.refl _ _⟩
  case round =>
    obtain ⟨k, hk, rfl, hf, hbel⟩ := hrel
    have hzr := hbel.size
    by_cases hlt : k < l.length
    · have hx : l[k]? = some l[k] := List.getElem?_eq_getElem hlt
      obtain ⟨ad, u, rfl, _, hadb, hcell, hinx⟩ := hall.at_ hx
      rw [Nat.zero_add] at hcell
      have hcellr : wr.cell? (ad.add k) = some u := (hbel.cell (by rw [block_of_add]; omega)).trans hcell
      have hsucc := allok_take_succ hx
      have hfin := @allok_false l k l[k] hx
      rw [hf.out, Bool.true_and] at hsucc
      have HC := Lib.hid (areSorts1_any l[k] u wr lo hi (hinx.below hbel hhi) (by omega))
      generalize l[k] = x at *
      obtain ⟨A', n', c', rfl⟩ := hinx.form
      cases hok : x.ok with
      | true =>
        rw [hok] at HC hsucc
        have HS := Lib.hid hsucc
        clear hx hcell hsucc hfin hok
        go_wp2_with fail
        refine HC.out.mono ?_
        rintro e w1 ⟨rfl, hb1⟩
        go_wp2_with fail
        go_roundw
        case rel => exact ⟨k + 1, by omega, by go_num, HS, hbel.trans (hb1.mono (by omega))⟩
        case measure => simp [intOf]; omega
      | false =>
        rw [hok] at HC
        have HS := Lib.hid (hfin hok)
        clear hx hcell hsucc hfin hok
        go_wp2_with fail
        refine HC.out.mono ?_
        rintro e w1 ⟨rfl, hb1⟩
        go_wp2_with fail
        go_ret
        exact ⟨(k : Int), rfl, by rw [HS.out]; simp, hbel.trans (hb1.mono (by omega))⟩
    · have hll : l.take k = l := List.take_of_length_le (by omega)
      rw [hll] at hf
      clear hll
      go_wp2_with fail
      go_ret
      exact ⟨-1, rfl, by rw [hf.out]; rfl, hbel⟩

set_option maxHeartbeats 800000 in
theorem containsFunc_any (l : List S) (v : Value) (w : World) (lo hi : Nat) (hin : (S.mk l).In w lo hi v) (hhi : hi ≤ w.heap.size) :
    Calls Tryd.prog 77 #[v, .func (.func 78) #[] #[]] w fun e w' => e = .returned (.bool (!l.all S.ok)) ∧ Below w.heap.size w w' := by
  simp only [S.In] at hin
  obtain ⟨A, _, c, rfl, rfl, hnc, hc, hall⟩ := hin
  have HC := Lib.hid (indexFunc_any l A c w lo hi hnc hc hall hhi)
  clear hall
  go_enter Tryd.func77, Tryd.ntmps77
  go_wp2_with fail
  refine HC.out.mono ?_
  rintro e w1 ⟨i, rfl, hi1, hb1⟩
  have HI := Lib.hid hi1
  clear hi1
  go_wp2_with fail
  go_ret
  exact ⟨ret_bool HI.out, hb1⟩

/-- Sorts that are all valid, at most m. -/
def sortsB (m : Nat) (l : List S) : Bool := decide (l.length ≤ m) && l.all S.ok
set_option maxHeartbeats 800000 in
theorem areSorts_any (m : Nat) (l : List S) (v : Value) (w : World) (lo hi : Nat) (hin : (S.mk l).In w lo hi v) (hhi : hi ≤ w.heap.size) :
    Calls Tryd.prog 52 #[v, .int .i64 (m : Int)] w fun e w' => e = .returned (.bool (sortsB m l)) ∧ Below w.heap.size w w' := by
  have HC := Lib.hid (containsFunc_any l v w lo hi hin hhi)
  simp only [S.In] at hin
  obtain ⟨A, _, c, rfl, rfl, hnc, hc, hall⟩ := hin
  clear hall
  by_cases hlm : l.length ≤ m
  · have HF : Hid ((!!l.all S.ok) = sortsB m l) := Lib.hid (by simp [sortsB, hlm])
    cases hok : l.all S.ok with
    | true =>
      rw [hok] at HC HF
      clear hok
      go_enter Tryd.func52, Tryd.ntmps52
      go_wp2_with fail
      refine HC.out.mono ?_
      rintro e w1 ⟨rfl, hb1⟩
      go_wp2_with fail
      go_ret
      exact ⟨ret_bool HF.out, hb1⟩
    | false =>
      rw [hok] at HC HF
      clear hok
      go_enter Tryd.func52, Tryd.ntmps52
      go_wp2_with fail
      refine HC.out.mono ?_
      rintro e w1 ⟨rfl, hb1⟩
      go_wp2_with fail
      go_ret
      exact ⟨ret_bool HF.out, hb1⟩
  · have HF : Hid (false = sortsB m l) := Lib.hid (by simp [sortsB, hlm])
    have hlm' : m < l.length := by omega
    go_enter Tryd.func52, Tryd.ntmps52
    go_wp2_with fail
    go_ret
    exact ⟨ret_bool HF.out, Below.refl _ _⟩

/-- A place: its symbols, and the sorts of its functions and of its parameters. -/
structure Pl where
  syms : List Sy
  funs : List S
  params : List S
def Pl.ok (p : Pl) : Bool := symsB p.syms && (sortsB 64 p.funs && sortsB 8 p.params)
/-- A place's three cells. -/
structure PlIn (w : World) (lo hi : Nat) (p : Pl) (v0 v1 v2 : Value) : Prop where
  s : SyIn w (fun b => b < hi) p.syms v0
  f : (S.mk p.funs).In w lo hi v1
  r : (S.mk p.params).In w lo hi v2
theorem SyIn.form {w : World} {P : Nat → Prop} {l : List Sy} {v : Value} (h : SyIn w P l v) : ∃ A n c, v = .slice A n c := by
  obtain ⟨A, n, c, h1, _⟩ := h
  exact ⟨A, n, c, h1⟩
theorem PlIn.below {w w' : World} {lo hi B : Nat} {p : Pl} {v0 v1 v2 : Value} (h : PlIn w lo hi p v0 v1 v2) (hb : Below B w w') (hhi : hi ≤ B) : PlIn w' lo hi p v0 v1 v2 := by
  refine ⟨?_, h.f.below hb hhi, h.r.below hb hhi⟩
  obtain ⟨A, n, c, h1, h2, h3, h4, h5, h6⟩ := h.s
  exact ⟨A, n, c, h1, h2, h3, h4, h5.keep (fun b hb' => hb.block b (by omega)), h6⟩

/-- A place and its box, kept. -/
structure PlKept (ty : Nat) (p : Pl) (v0 v1 v2 : Value) (lo hi B : Nat) (w0 w : World) : Prop where
  b : Blk w B ty #[v0, v1, v2]
  i : PlIn w lo hi p v0 v1 v2
  hi : hi ≤ w.heap.size
  bel : Below B w0 w
theorem PlKept.next {ty : Nat} {p : Pl} {v0 v1 v2 : Value} {lo hi B : Nat} {w0 w w' : World} (h : PlKept ty p v0 v1 v2 lo hi B w0 w) (hb : Below w.heap.size w w') : PlKept ty p v0 v1 v2 lo hi B w0 w' :=
  ⟨h.b.below hb h.b.lt, h.i.below hb h.hi, by have := h.hi; have := hb.size; omega, h.bel.trans (hb.mono (by have := h.b.lt; omega))⟩
theorem PlKept.start {ty : Nat} {p : Pl} {v0 v1 v2 : Value} {lo hi : Nat} {w : World} (h : PlIn w lo hi p v0 v1 v2) (hhi : hi ≤ w.heap.size) : PlKept ty p v0 v1 v2 lo hi w.heap.size w (w.alloc (.cells #[v0, v1, v2] ty)) := by
  have hb : Below w.heap.size w (w.alloc (.cells #[v0, v1, v2] ty)) := (Below.refl _ _).alloc (Nat.le_refl _) _
  exact ⟨Blk.new _ _ _, h.below hb hhi, by simp; omega, hb⟩

def argErr (b : Bool) : Int := if b then 0 else 2
set_option maxHeartbeats 1600000 in
theorem placeCheck_any (p : Pl) (v0 v1 v2 : Value) (w : World) (lo hi : Nat) (hin : PlIn w lo hi p v0 v1 v2) (hhi : hi ≤ w.heap.size) :
    Calls Tryd.prog 25 #[.agg #[v0, v1, v2]] w fun e w' => e = .returned (.int .i64 (argErr p.ok)) ∧ Below w.heap.size w w' := by
  have k0 := PlKept.start (ty := 63) hin hhi
  obtain ⟨A0, n0, c0, rfl⟩ := hin.s.form
  obtain ⟨A1, n1, c1, rfl⟩ := hin.f.form
  obtain ⟨A2, n2, c2, rfl⟩ := hin.r.form
  have HS := Lib.hid (areSymbols_any p.syms _ _ _ k0.i.s (fun b hb => by have := k0.hi; omega))
  cases h1 : symsB p.syms with
  | false =>
    have HF : Hid (p.ok = false) := Lib.hid (by simp [Pl.ok, h1])
    rw [h1] at HS
    clear h1
    go_enter Tryd.func25, Tryd.ntmps25
    go_wp2_with fail
    refine HS.out.mono ?_
    rintro e w1 ⟨rfl, hb1⟩
    have k1 := k0.next hb1
    go_wp2_with fail
    go_ret
    exact ⟨by rw [HF.out]; rfl, k1.bel⟩
  | true =>
    rw [h1] at HS
    have HX1 := Lib.hid h1
    clear h1
    go_enter Tryd.func25, Tryd.ntmps25
    go_wp2_with fail
    refine HS.out.mono ?_
    rintro e w1 ⟨rfl, hb1⟩
    have k1 := k0.next hb1
    clear k0 hb1 HS
    have d0 := k1.b.cell 0
    have d1 := k1.b.cell 1
    have d2 := k1.b.cell 2
    have HT := Lib.hid (areSorts_any 64 p.funs _ _ lo hi k1.i.f k1.hi)
    cases h2 : sortsB 64 p.funs with
    | false =>
      have HF : Hid (p.ok = false) := Lib.hid (by simp [Pl.ok, h2])
      rw [h2] at HT
      clear h2
      go_wp2_with fail
      refine HT.out.mono ?_
      rintro e w2 ⟨rfl, hb2⟩
      have k2 := k1.next hb2
      clear d0 d1 d2
      go_wp2_with fail
      go_ret
      exact ⟨by rw [HF.out]; rfl, k2.bel⟩
    | true =>
      rw [h2] at HT
      have HX2 := Lib.hid h2
      clear h2
      go_wp2_with fail
      refine HT.out.mono ?_
      rintro e w2 ⟨rfl, hb2⟩
      have k2 := k1.next hb2
      clear d0 d1 d2 k1 hb2 HT
      have d0 := k2.b.cell 0
      have d1 := k2.b.cell 1
      have d2 := k2.b.cell 2
      have HU := Lib.hid (areSorts_any 8 p.params _ _ lo hi k2.i.r k2.hi)
      cases h3 : sortsB 8 p.params with
      | false =>
        have HF : Hid (p.ok = false) := Lib.hid (by simp [Pl.ok, h3])
        rw [h3] at HU
        clear h3
        go_wp2_with fail
        refine HU.out.mono ?_
        rintro e w3 ⟨rfl, hb3⟩
        have k3 := k2.next hb3
        clear d0 d1 d2
        go_wp2_with fail
        go_ret
        exact ⟨by rw [HF.out]; rfl, k3.bel⟩
      | true =>
        have HF : Hid (p.ok = true) := Lib.hid (by simp [Pl.ok, h3, HX1.out, HX2.out])
        rw [h3] at HU
        clear h3
        go_wp2_with fail
        refine HU.out.mono ?_
        rintro e w3 ⟨rfl, hb3⟩
        have k3 := k2.next hb3
        clear d0 d1 d2
        go_wp2_with fail
        go_ret
        exact ⟨by rw [HF.out]; rfl, k3.bel⟩
end Go.Proofs.YtkkfdiidneoelaaDoor
