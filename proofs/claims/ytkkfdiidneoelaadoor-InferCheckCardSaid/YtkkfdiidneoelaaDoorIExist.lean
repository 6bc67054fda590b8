/-
  Reference 04: exist, a contract.
-/
import Derived.Test.YtkkfdiidneoelaaDoorICheck
namespace Go.Proofs.YtkkfdiidneoelaaDoor
open Go.RowKit

theorem T.existL_succ {a b c : Nat} {l : List T} {k : Nat} {x : T} (hx : l[k]? = some x) : T.existL a b c (l.take (k + 1)) = (T.existL a b c (l.take k) && x.exist a b c) := by
  induction l generalizing k with
  | nil => simp at hx
  | cons y r ih =>
    cases k with
    | zero => simp at hx; subst hx; simp [T.existL]
    | succ k => simp at hx; simp [T.existL, ih hx, Bool.and_assoc]
theorem T.existL_no {a b c : Nat} {l : List T} {k : Nat} {x : T} (hx : l[k]? = some x) (h : x.exist a b c = false) : T.existL a b c l = false := by
  induction l generalizing k with
  | nil => simp at hx
  | cons y r ih =>
    cases k with
    | zero => simp at hx; subst hx; simp [T.existL, h]
    | succ k => simp at hx; simp [T.existL, ih hx]

set_option maxRecDepth 100000 in
set_option maxHeartbeats 1600000 in
theorem refExist_any (a b c : Nat) (ha : a ≤ 1000000) (hb : b ≤ 1000000) (hc : c ≤ 1000000) (K : Nat) : ∀ (t : T) (v : Value) (w : World) (P : Nat → Prop), t.count ≤ K → t.In w P v → Old P w →
    Calls Tryd.prog 33 #[.agg #[.int .i64 t.kind, .int .i64 t.num, v], .int .i64 (a : Int), .int .i64 (b : Int), .int .i64 (c : Int)] w fun e w' => e = .returned (.bool (t.exist a b c)) ∧ Below w.heap.size w w' := by
  induction K with
  | zero => intro t; have := t.count_pos; omega
  | succ K ih =>
    intro t v w P hK hin hold
    obtain ⟨kd, nm, l⟩ := t
    simp only [T.In] at hin
    obtain ⟨A, _, cc, us, rfl, rfl, hnc, hcc, hrd, hrow⟩ := hin
    simp only [T.kind, T.num]
    have HIH := Lib.hid ih
    clear ih
    have hw1 : Below w.heap.size w (w.alloc (.cells #[.int .i64 kd, .int .i64 nm, .slice A l.length cc] 44)) := (Below.refl _ _).alloc (Nat.le_refl _) _
    have hbk := Blk.new w 44 #[.int .i64 kd, .int .i64 nm, .slice A l.length cc]
    have x0 := hbk.cell 0
    have x1 := hbk.cell 1
    have x2 := hbk.cell 2
    simp at x0 x1 x2
    have HEX : Hid ((T.mk kd nm l).exist a b c = (headIn a b c kd nm && T.existL a b c l)) := Lib.hid rfl
    obtain ⟨most, hmost, hmle⟩ : ∃ m : Nat, (if kd = 0 then a else if kd = 1 then b else if kd = 2 then c else 0 : Nat) = m ∧ m ≤ 1000000 := ⟨_, rfl, by (repeat' split) <;> omega⟩
    have HHD : Hid (headIn a b c kd nm = (decide (0 ≤ nm) && decide (nm < (most : Int)))) := Lib.hid (by unfold headIn; rw [hmost])
    have hcases : (kd = 0 ∧ a = most) ∨ (kd = 1 ∧ b = most) ∨ (kd = 2 ∧ c = most) ∨ (¬ kd = 0 ∧ ¬ kd = 1 ∧ ¬ kd = 2 ∧ 0 = most) := by
      by_cases k0 : kd = 0
      · simp [k0] at hmost; exact .inl ⟨k0, hmost⟩
      · by_cases k1 : kd = 1
        · simp [k1] at hmost; exact .inr (.inl ⟨k1, hmost⟩)
        · by_cases k2 : kd = 2
          · simp [k2] at hmost; exact .inr (.inr (.inl ⟨k2, hmost⟩))
          · simp [k0, k1, k2] at hmost; exact .inr (.inr (.inr ⟨k0, k1, k2, hmost⟩))
    clear hmost
    by_cases hbad : nm < 0 ∨ (most : Int) ≤ nm
    · have HF : Hid ((T.mk kd nm l).exist a b c = false) := Lib.hid (by rw [HEX.out, HHD.out]; rcases hbad with h | h <;> simp <;> omega)
      rcases hcases with ⟨rfl, rfl⟩ | ⟨rfl, rfl⟩ | ⟨rfl, rfl⟩ | ⟨k0, k1, k2, rfl⟩
      all_goals
        by_cases hn : nm < 0
        all_goals
          first
            | (have g1 : decide (nm < 0) = true := decide_eq_true hn
               clear hbad
               go_enter Tryd.func33, Tryd.ntmps33
               go_wp2_with fail
               go_ret
               exact ⟨ret_bool HF.out.symm, hw1⟩)
            | (have g1 : decide (nm < 0) = false := decide_eq_false hn
               have g2 := hbad.resolve_left hn
               clear hbad
               go_enter Tryd.func33, Tryd.ntmps33
               go_wp2_with fail
               go_ret
               exact ⟨ret_bool HF.out.symm, hw1⟩)
    · have g0 : ¬ nm < 0 := fun h => hbad (.inl h)
      have g1 : decide (nm < 0) = false := decide_eq_false g0
      have HHB : Hid (headIn a b c kd nm = true) := Lib.hid (by rw [HHD.out]; simp; omega)
      have gm : ¬ (most : Int) ≤ nm := fun h => hbad (.inr h)
      have HIN : Hid ((T.mk kd nm l).exist a b c = T.existL a b c l) := Lib.hid (by rw [HEX.out, HHB.out, Bool.true_and])
      have hbw := hbk.lt
      clear hbad hmle HHD HHB HEX
      rcases hcases with ⟨rfl, rfl⟩ | ⟨rfl, rfl⟩ | ⟨rfl, rfl⟩ | ⟨k0, k1, k2, rfl⟩
      all_goals
        first
          | (exfalso; omega)
          | (have H0 : Hid (T.existL a b c (l.take 0) = true ∧ Below w.heap.size w (w.alloc (.cells #[.int .i64 _, .int .i64 nm, .slice A l.length cc] 44))) := Lib.hid ⟨by simp [T.existL], hw1⟩
             go_enter Tryd.func33, Tryd.ntmps33
             go_wp2_with fail
             clear x0 x1 x2
             go_loopw [35] (fun i wr => ∃ k : Nat, k ≤ l.length ∧ i = .int .i64 k ∧ Hid (T.existL a b c (l.take k) = true) ∧ Below w.heap.size w wr) (fun i _ => l.length - (intOf i).toNat)
             case atStart => exact ⟨0, Nat.zero_le _, rfl, Lib.hid H0.out.1, H0.out.2⟩
             case round =>
               clear H0
               obtain ⟨k, hk, rfl, hf, hbel⟩ := hrel
               have hzr := hbel.size
               by_cases hlt : k < l.length
               · have hx : l[k]? = some l[k] := List.getElem?_eq_getElem hlt
                 have hcl := T.count_lt (a := 0) (b := 0) hx
                 obtain ⟨ad, u, rfl, hPa, hel, hinx⟩ := T.In.el hrd hrow hx
                 obtain ⟨r0, r1, r2⟩ := hel.keep (hbel.block _ (hold _ hPa))
                 have hw2 : Below wr.heap.size wr (wr.alloc (.cells #[.int .i64 l[k].kind, .int .i64 l[k].num, u] 44)) := (Below.refl _ _).alloc (Nat.le_refl _) _
                 have hct := HIH.out l[k] u _ P (by simp only [T.count] at hK hcl; omega) ((hinx.below hbel hold).below hw2 (fun b hb => by have := hold b hb; omega)) ((hold.bel hbel).bel hw2)
                 have hsucc := T.existL_succ (a := a) (b := b) (c := c) hx
                 have hno := T.existL_no (a := a) (b := b) (c := c) hx
                 rw [hf.out, Bool.true_and] at hsucc
                 generalize l[k] = x at *
                 obtain ⟨A', n', c', rfl⟩ := hinx.form
                 cases hxe : x.exist a b c with
                 | true =>
                   rw [hxe] at hct
                   have HC := Lib.hid hct
                   have HS := Lib.hid (hsucc.trans hxe)
                   clear hx hel hct hsucc hno hxe
                   go_wp2_with fail
                   refine HC.out.mono ?_
                   rintro e w2 ⟨rfl, hb2⟩
                   go_wp2_with fail
                   go_roundw
                   case rel => exact ⟨k + 1, by omega, by go_num, HS, hbel.trans ((hw2.trans (hb2.mono (by simp))).mono hzr)⟩
                   case measure => simp [intOf]; omega
                 | false =>
                   rw [hxe] at hct
                   have HC := Lib.hid hct
                   have HS := Lib.hid (HIN.out.trans (hno hxe))
                   clear hx hel hct hsucc hno hxe
                   go_wp2_with fail
                   refine HC.out.mono ?_
                   rintro e w2 ⟨rfl, hb2⟩
                   go_wp2_with fail
                   go_ret
                   exact ⟨ret_bool HS.out.symm, hbel.trans ((hw2.trans (hb2.mono (by simp))).mono hzr)⟩
               · have hll : l.take k = l := List.take_of_length_le (by omega)
                 rw [hll] at hf
                 have HS := Lib.hid (HIN.out.trans hf.out)
                 clear hll
                 go_wp2_with fail
                 go_ret
                 exact ⟨ret_bool HS.out.symm, hbel⟩)
end Go.Proofs.YtkkfdiidneoelaaDoor
