/-
  scheme.Check: contract.
-/
import Derived.Test.YtbbejhhohppdhaaGreatDoorGM
import Derived.Test.YtbbejhhohppdhaaGreatDoorPlaceOf
import Derived.Test.YtbbejhhohppdhaaGreatDoorGD
import Derived.Deep.RegionHeld3
import Derived.Deep.CutRange
import Derived.Deep.RegionWith
namespace Go.Proofs.YtbbejhhohppdhaaGreatDoor
open Go.RowKit

/-- The place of the body of a function. -/
def Sc.pl (s : Sc) (f : Fn) : Pl := ⟨s.syms, s.sorts, f.sort.args⟩
def Sc.fits (s : Sc) (f : Fn) : Bool := bodyB (s.pl f) f.body
def Sc.start (s : Sc) : Bool := match s.funs with | [] => false | f :: _ => f.sort.args.isEmpty
/-- The scheme is valid. -/
def Sc.ok (s : Sc) : Bool := decide (1 ≤ s.funs.length) && (decide (s.funs.length ≤ 64) && (diffFrom [] (s.funs.map fnm) && (s.start && s.funs.all s.fits)))
def schErr (b : Bool) : Int := if b then 0 else 7
theorem FnEl.zero {w : World} {ad : Addr} {f : Fn} {u v : Value} (h : FnEl w ad 0 f u v) : w.cell? ⟨ad.block, ad.off + 1, none⟩ = some u := by
  have := h.c1
  simpa [Addr.add] using this
theorem fits_succ {s : Sc} {k : Nat} {x : Fn} (hx : s.funs[k]? = some x) (h : (s.funs.take k).all s.fits = true) (h1 : s.fits x = true) : (s.funs.take (k + 1)).all s.fits = true := by
  rw [List.take_add_one, hx, List.all_append, h]; simp [h1]
theorem fits_false {s : Sc} {k : Nat} {x : Fn} (hx : s.funs[k]? = some x) (h : s.fits x = false) : s.funs.all s.fits = false := by
  rw [Bool.eq_false_iff]
  intro hh
  rw [List.all_eq_true] at hh
  have := hh x (List.mem_of_getElem? hx)
  rw [h] at this; cases this

set_option maxRecDepth 100000 in
set_option maxHeartbeats 3200000 in
theorem schemeCheck_any (s : Sc) (v0 v1 : Value) (w : World) (hi : Nat) (hin : ScIn w hi s v0 v1) (hhi : hi ≤ w.heap.size) :
    Calls Tryz.prog 42 #[.agg #[v0, v1]] w fun e w' => e = .returned (.int .i64 (schErr s.ok)) ∧ Below w.heap.size w w' := by
  have k0 := ScKept.start hin hhi
  obtain ⟨⟨A0, n0, c0, rfl⟩, _⟩ := hin.form
  have HD := Lib.hid (fun W h => diffFn_any s.funs v1 W hi h)
  obtain ⟨A, _, c, us0, rfl, rfl, hnc, hc, hrd, hrow⟩ := hin.fn
  have d0 := k0.b.cell 0
  have d1 := k0.b.cell 1
  have hz0 := k0.b.lt
  by_cases h1 : s.funs.length = 0
  · have HF : Hid (schErr s.ok = 7) := Lib.hid (by simp [Sc.ok, h1, schErr])
    have g1 : ((s.funs.length : Int) == 0) = true := by simp [h1]
    clear h1 hrd hrow
    go_enter Tryz.func42, Tryz.ntmps42
    go_wp2_with fail
    go_ret
    exact ⟨ret_int HF.out.symm, k0.bel⟩
  have g1 : ((s.funs.length : Int) == 0) = false := by simpa using h1
  by_cases h64 : s.funs.length ≤ 64
  case neg =>
    have HF : Hid (schErr s.ok = 7) := Lib.hid (by simp [Sc.ok, h64, schErr])
    have g2 : decide (64 < (s.funs.length : Int)) = true := decide_eq_true (by omega)
    clear h1 h64 hrd hrow
    go_enter Tryz.func42, Tryz.ntmps42
    go_wp2_with fail
    go_ret
    exact ⟨ret_int HF.out.symm, k0.bel⟩
  have g2 : decide (64 < (s.funs.length : Int)) = false := decide_eq_false (by omega)
  have HD0 := Lib.hid (HD.out _ k0.i.fn (by omega))
  cases hdf : diffFrom [] (s.funs.map fnm) with
  | false =>
    have HF : Hid (schErr s.ok = 7) := Lib.hid (by simp [Sc.ok, hdf, schErr])
    rw [hdf] at HD0
    clear h1 h64 hrd hrow hdf
    go_enter Tryz.func42, Tryz.ntmps42
    go_wp2_with fail
    refine HD0.out.mono ?_
    rintro e w1 ⟨rfl, b1⟩
    have k1 := k0.next b1
    go_wp2_with fail
    go_ret
    exact ⟨ret_int HF.out.symm, k1.bel⟩
  | true =>
    rw [hdf] at HD0
    obtain ⟨f0, r0, hfs⟩ : ∃ f r, s.funs = f :: r := by
      cases hh : s.funs with
      | nil => rw [hh] at h1; simp at h1
      | cons f r => exact ⟨f, r, rfl⟩
    have hx0 : s.funs[0]? = some f0 := by rw [hfs]; rfl
    have hst : s.start = f0.sort.args.isEmpty := by unfold Sc.start; rw [hfs]
    obtain ⟨ad, u0, b0, rfl, hPa, hel0, hsu0, hbv0, _⟩ := fn_el hrd hrow hx0
    have hll : 0 < s.funs.length := by omega
    cases hs0 : f0.sort.args.isEmpty with
    | false =>
      have HF : Hid (schErr s.ok = 7) := Lib.hid (by simp [Sc.ok, hst, hs0, schErr])
      have HI := Lib.hid (fun W => isTree_any f0.sort u0 W 0 hi)
      rw [hs0] at HI
      clear h1 h64 hdf hfs hst hs0 hx0
      go_enter Tryz.func42, Tryz.ntmps42
      go_wp2_with fail
      refine HD0.out.mono ?_
      rintro e w1 ⟨rfl, b1⟩
      have k1 := k0.next b1
      have e0 := k1.b.cell 0
      have e1 := k1.b.cell 1
      have hb1 := k1.bel
      have q1 := (hel0.keep (hb1.block _ (by omega))).zero
      have hsu1 := hsu0.below hb1 (by omega)
      obtain ⟨A1, n1, c1, rfl⟩ := hsu0.form
      have hz1 := hb1.size
      go_wp2_with fail
      refine (HI.out w1 hsu1).mono ?_
      rintro e w2 ⟨rfl, b2⟩
      have k2 := k1.next b2
      go_wp2_with fail
      go_ret
      exact ⟨ret_int HF.out.symm, k2.bel⟩
    | true =>
      have HF : Hid (schErr s.ok = schErr (s.funs.all s.fits)) := Lib.hid (by
        have : 1 ≤ s.funs.length := by omega
        simp [Sc.ok, hst, hs0, hdf, h64, this])
      have HI := Lib.hid (fun W => isTree_any f0.sort u0 W 0 hi)
      rw [hs0] at HI
      clear h1 hdf hfs hst hs0 hx0
      go_enter Tryz.func42, Tryz.ntmps42
      go_wp2_with fail
      refine HD0.out.mono ?_
      rintro e w1 ⟨rfl, b1⟩
      have k1 := k0.next b1
      have e0 := k1.b.cell 0
      have e1 := k1.b.cell 1
      have hb1 := k1.bel
      have q1 := (hel0.keep (hb1.block _ (by omega))).zero
      have hsu1 := hsu0.below hb1 (by omega)
      obtain ⟨A1, n1, c1, rfl⟩ := hsu0.form
      have hz1 := hb1.size
      go_wp2_with fail
      refine (HI.out w1 hsu1).mono ?_
      rintro e w2 ⟨rfl, b2⟩
      have k2 := k1.next b2
      clear k1 b1 b2 HD0 HD HI e0 e1 q1 hsu1 d0 d1 hel0 hsu0 hbv0 hb1 hz1
      have z2 := k2.bel.size
      have l2 := k2.b.lt
      have K2 := Lib.hid k2
      have e0 := k2.b.cell 0
      have e1 := k2.b.cell 1
      simp at e0 e1
      clear k2 k0
      go_wp2_with fail
      go_loopw [33] (fun i wr => ∃ (k : Nat), k ≤ s.funs.length ∧ i = .int .i64 k ∧ Hid ((s.funs.take k).all s.fits = true) ∧ ScKept s (.slice A0 n0 c0) (.slice (some ad) s.funs.length c) hi w.heap.size w wr) (fun i _ => s.funs.length - (intOf i).toNat)
      case atStart => exact ⟨0, Nat.zero_le _, rfl, Lib.hid (by simp), K2.out⟩
      case round =>
        obtain ⟨k, hk, rfl, hf, kr⟩ := hrel
        have hzr := kr.bel.size
        have hlr := kr.b.lt
        by_cases hlt : k < s.funs.length
        · have hx : s.funs[k]? = some s.funs[k] := List.getElem?_eq_getElem hlt
          obtain ⟨ad', u, v, hAd, hPa2, hel, hsu, hbv, hsx⟩ := fn_el hrd hrow hx
          have hAd := Option.some.inj hAd
          subst hAd
          obtain ⟨r0, r1, r2, r3, r4⟩ := hel.keep (kr.bel.block _ (by omega))
          have hsu' := hsu.below kr.bel hhi
          have hbv' := hbv.below kr.bel (fun b hb => by omega)
          obtain ⟨A4, n4, c4, rfl⟩ := hsu.form
          obtain ⟨A5, n5, c5, rfl⟩ := hbv.form
          have hsucc := fits_succ hx hf.out
          have hfin := @fits_false s k s.funs[k] hx
          generalize s.funs[k] = x at *
          obtain ⟨name, sort, body⟩ := x
          simp only at r0 r1 r2 r3 r4 hsx hsu hsu' hbv hbv' hsucc hfin
          have bz : Below wr.heap.size wr (wr.alloc (.cells #[.string name, .slice A4 n4 c4, .int .i64 body.kind, .int .i64 body.num, .slice A5 n5 c5] 64)) := (Below.refl _ _).alloc (Nat.le_refl _) _
          have kz := kr.next bz
          have hBX := Blk.new wr 64 #[.string name, .slice A4 n4 c4, .int .i64 body.kind, .int .i64 body.num, .slice A5 n5 c5]
          have hsz : (S.mk sort.args).In (wr.alloc (.cells #[.string name, .slice A4 n4 c4, .int .i64 body.kind, .int .i64 body.num, .slice A5 n5 c5] 64)) 0 hi (.slice A4 n4 c4) := by
            have := hsu'.below bz (by omega)
            rwa [← S.eta sort] at this
          have hbz := hbv'.below bz (fun b hb => by omega)
          have m0 := kz.b.cell 0
          have m1 := kz.b.cell 1
          have x1 := hBX.cell 1
          have x2 := hBX.cell 2
          have x3 := hBX.cell 3
          have x4 := hBX.cell 4
          simp at m0 m1 x1 x2 x3 x4
          obtain ⟨K, hK⟩ : ∃ K : World → Prop, (fun W => Below (wr.heap.size + 1) (wr.alloc (.cells #[.string name, .slice A4 n4 c4, .int .i64 body.kind, .int .i64 body.num, .slice A5 n5 c5] 64)) W) = K := ⟨_, rfl⟩
          have of_ : ∀ W, K W → Below (wr.heap.size + 1) (wr.alloc (.cells #[.string name, .slice A4 n4 c4, .int .i64 body.kind, .int .i64 body.num, .slice A5 n5 c5] 64)) W := fun W h => by rw [← hK] at h; exact h
          have hKn : ∀ W W', K W → Below W.heap.size W W' → K W' := fun W W' h hb => by
            have h1 := of_ W h
            rw [← hK]
            exact h1.trans (hb.mono (by have := h1.size; simpa using this))
          have k0 : K (wr.alloc (.cells #[.string name, .slice A4 n4 c4, .int .i64 body.kind, .int .i64 body.num, .slice A5 n5 c5] 64)) := by rw [← hK]; exact Below.refl _ _
          have HP := Lib.hid (fun W (hW : K W) => (placeOf_any s (.slice A0 n0 c0) (.slice (some ad) s.funs.length c) W hi (kz.next ((of_ W hW).mono (by simp))).i (by have := (of_ W hW).size; simp at this; omega) (by omega) sort.args (.slice A4 n4 c4) (hsz.below (of_ W hW) (by omega))).mono fun e w' ⟨vf, he, hp, hb⟩ => (⟨vf, he, hp, hKn _ _ hW hb⟩ : ∃ vf, e = Ending.returned (Value.agg #[.slice A0 n0 c0, vf, .slice A4 n4 c4]) ∧ PlIn w' 0 w'.heap.size ⟨s.syms, s.sorts, sort.args⟩ (.slice A0 n0 c0) vf (.slice A4 n4 c4) ∧ K w'))
          have HB := Lib.hid (fun W (hW : K W) (vf : Value) (h : PlIn W 0 W.heap.size ⟨s.syms, s.sorts, sort.args⟩ (.slice A0 n0 c0) vf (.slice A4 n4 c4)) =>
            (isBody_any ⟨s.syms, s.sorts, sort.args⟩ _ _ _ body (.slice A5 n5 c5) W W.heap.size h (Nat.le_refl _) ((hbz.below (of_ W hW) (fun b hb => by omega)).more (fun b (hb : b < hi) => by have := (of_ W hW).size; simp at this; omega))).mono fun e w' ⟨he, hb⟩ => (⟨he, hKn _ _ hW hb⟩ : e = _ ∧ K w'))
          have KZ := Lib.hid (fun W (hW : K W) => kz.next ((of_ W hW).mono (by simp)))
          have HCell : Hid (∀ W, K W → (W.cell? ⟨w.heap.size, 0, none⟩ = some (.slice A0 n0 c0) ∧ W.cell? ⟨w.heap.size, 1, none⟩ = some (.slice (some ad) s.funs.length c)) ∧ W.cell? ⟨wr.heap.size, 1, none⟩ = some (.slice A4 n4 c4) ∧ W.cell? ⟨wr.heap.size, 2, none⟩ = some (.int .i64 body.kind) ∧ W.cell? ⟨wr.heap.size, 3, none⟩ = some (.int .i64 body.num) ∧ W.cell? ⟨wr.heap.size, 4, none⟩ = some (.slice A5 n5 c5)) := Lib.hid (fun W hW => by
            have a := (kz.next ((of_ W hW).mono (by simp))).b
            have b := hBX.below (of_ W hW) (by omega)
            exact ⟨⟨a.cell 0, a.cell 1⟩, b.cell 1, b.cell 2, b.cell 3, b.cell 4⟩)
          have HKD : Hid (∀ W, K W → K W.drew) := Lib.hid fun W h => hKn W _ h (Below.refl _ _).drew
          cases hok : bodyB ⟨s.syms, s.sorts, sort.args⟩ body with
          | true =>
            have HS := Lib.hid (hsucc hok)
            rw [hok] at HB
            clear hx hel hsu hsu' hbv hbv' hsucc hfin hok bz kz hsz hbz kr hBX hK hKn of_
            go_wp2_with fail
            have k1 := HKD.out _ k0
            go_region_held3 (fun W => (W.cell? ⟨w.heap.size, 0, none⟩ = some (.slice A0 n0 c0) ∧ W.cell? ⟨w.heap.size, 1, none⟩ = some (.slice (some ad) s.funs.length c)) ∧ W.cell? ⟨wr.heap.size, 1, none⟩ = some (.slice A4 n4 c4) ∧ W.cell? ⟨wr.heap.size, 2, none⟩ = some (.int .i64 body.kind) ∧ W.cell? ⟨wr.heap.size, 3, none⟩ = some (.int .i64 body.num) ∧ W.cell? ⟨wr.heap.size, 4, none⟩ = some (.slice A5 n5 c5))
              (first | go_keep | assumption | exact HCell.out _ (by assumption))
              (first
                | (go_at_call 44; ((with_reducible refine (HP.out _ (by assumption)).mono ?_); rintro e W1 ⟨vf, rfl, HPL, K1⟩; have C1 := HCell.out _ K1))
                | (go_at_call 92; ((with_reducible refine (HB.out _ (by assumption) _ HPL).mono ?_); rintro e W2 ⟨rfl, K2⟩; have C2 := HCell.out _ K2)))
            all_goals
              go_wp2_with fail
              go_roundw
              case rel => exact ⟨k + 1, by omega, by go_num, HS, KZ.out _ K2⟩
              case measure => simp [intOf]; omega
          | false =>
            have HS := Lib.hid (hfin hok)
            rw [hok] at HB
            clear hx hel hsu hsu' hbv hbv' hsucc hfin hok bz kz hsz hbz kr hBX hK hKn of_
            go_wp2_with fail
            have k1 := HKD.out _ k0
            go_region_held3 (fun W => (W.cell? ⟨w.heap.size, 0, none⟩ = some (.slice A0 n0 c0) ∧ W.cell? ⟨w.heap.size, 1, none⟩ = some (.slice (some ad) s.funs.length c)) ∧ W.cell? ⟨wr.heap.size, 1, none⟩ = some (.slice A4 n4 c4) ∧ W.cell? ⟨wr.heap.size, 2, none⟩ = some (.int .i64 body.kind) ∧ W.cell? ⟨wr.heap.size, 3, none⟩ = some (.int .i64 body.num) ∧ W.cell? ⟨wr.heap.size, 4, none⟩ = some (.slice A5 n5 c5))
              (first | go_keep | assumption | exact HCell.out _ (by assumption))
              (first
                | (go_at_call 44; ((with_reducible refine (HP.out _ (by assumption)).mono ?_); rintro e W1 ⟨vf, rfl, HPL, K1⟩; have C1 := HCell.out _ K1))
                | (go_at_call 92; ((with_reducible refine (HB.out _ (by assumption) _ HPL).mono ?_); rintro e W2 ⟨rfl, K2⟩; have C2 := HCell.out _ K2)))
            all_goals
              go_wp2_with fail
              go_ret
              exact ⟨ret_int (by rw [HF.out, HS.out]; rfl), (KZ.out _ K2).bel⟩
        · have hll2 : s.funs.take k = s.funs := List.take_of_length_le (by omega)
          rw [hll2] at hf
          clear hll2
          go_wp2_with fail
          go_ret
          exact ⟨ret_int (by rw [HF.out, hf.out]; rfl), kr.bel⟩
end Go.Proofs.YtbbejhhohppdhaaGreatDoor
