/-
  nest.visit at terms: whoever visits a term, node by node.
-/
import Derived.Test.YtkkfdiidneoelaaDoorTRef
namespace Go.Proofs.YtkkfdiidneoelaaDoor
open Go.RowKit

section
variable {σ : Type} (step : σ → T → Nat → Bool × σ)
mutual
def visitT : σ → Nat → T → Bool × σ
  | st, lvl, .mk k n l => if (step st (.mk k n l) lvl).1 then visitTL (step st (.mk k n l) lvl).2 (lvl + 1) l else (false, (step st (.mk k n l) lvl).2)
def visitTL : σ → Nat → List T → Bool × σ
  | st, _, [] => (true, st)
  | st, lvl, x :: r => if (visitT st lvl x).1 then visitTL (visitT st lvl x).2 lvl r else (false, (visitT st lvl x).2)
end
theorem visitTL_succ (lvl : Nat) (l : List T) : ∀ (st : σ) (k : Nat) (x : T), l[k]? = some x → (visitTL step st lvl (l.take k)).1 = true →
    visitTL step st lvl (l.take (k + 1)) = visitT step (visitTL step st lvl (l.take k)).2 lvl x := by
  induction l with
  | nil => intro st k x h; simp at h
  | cons a r ih =>
    intro st k x h ht
    cases k with
    | zero =>
      simp at h; subst h
      simp only [List.take_succ_cons, List.take_zero, visitTL]
      split
      · rename_i hb; rw [Prod.ext_iff]; simp [hb]
      · rename_i hb; rw [Prod.ext_iff]; simp at hb; simp [hb]
    | succ k =>
      simp at h
      simp only [List.take_succ_cons, visitTL] at ht ⊢
      split at ht
      · rename_i hb; rw [if_pos hb]; rw [ih _ k x h ht]; simp [hb]
      · cases ht
theorem visitTL_false (lvl : Nat) (l : List T) : ∀ (st : σ) (k : Nat), (visitTL step st lvl (l.take k)).1 = false → visitTL step st lvl l = visitTL step st lvl (l.take k) := by
  induction l with
  | nil => intro st k h; simp
  | cons a r ih =>
    intro st k h
    cases k with
    | zero => simp [visitTL] at h
    | succ k =>
      simp only [List.take_succ_cons, visitTL] at h ⊢
      split at h
      · rename_i hb; rw [if_pos hb, if_pos hb]; exact ih _ k h
      · rename_i hb; rw [if_neg hb, if_neg hb]

theorem partsT_any (k n : Int) (v : Value) (A : Option Addr) (m c : Nat) (hv : v = .slice A m c) (w : World) :
    Calls Tryd.prog 82 #[.agg #[.int .i64 k, .int .i64 n, v]] w fun e w' => e = .returned v ∧ Below w.heap.size w w' := by
  subst hv
  go_enter Tryd.func82, Tryd.ntmps82
  go_wp2_with fail
  go_ret
  exact ⟨rfl, (Below.refl _ _).alloc (Nat.le_refl _) _⟩

variable {step}
set_option maxHeartbeats 400000 in
theorem visitT_any {I : σ → World → Prop} {M : Nat → Prop} {ok : σ → T → Nat → Prop} {F : Nat} {cap : Array Value} {P : Nat → Prop}
    (hI : ∀ st w w', I st w → Below w.heap.size w w' → I st w')
    (hM : ∀ w k st, I st w → M k → k < w.heap.size)
    (hF : ∀ args w, (callFunc F args).run Tryd.prog w = .ok (.enter F args) w)
    (hMh : ∀ k, P k → ¬ M k)
    (hok : ∀ st k n l lvl, ok st (.mk k n l) lvl → lvl ≤ 1000000 ∧ ((step st (.mk k n l) lvl).1 = true → ∀ j x, l[j]? = some x → (visitTL step (step st (.mk k n l) lvl).2 (lvl + 1) (l.take j)).1 = true →
      ok (visitTL step (step st (.mk k n l) lvl).2 (lvl + 1) (l.take j)).2 x (lvl + 1)))
    (hstep : ∀ st x v lvl w, ok st x lvl → I st w → x.In w P v → Old P w → Calls Tryd.prog F (#[.agg #[.int .i64 x.kind, .int .i64 x.num, v], .int .i64 (lvl : Int)] ++ cap) w fun e w' =>
      e = .returned (.bool (step st x lvl).1) ∧ I (step st x lvl).2 w' ∧ Saves M w w')
    (K : Nat) : ∀ (s : T) (v : Value) (lvl : Nat) (w : World) (st : σ), s.count ≤ K → ok st s lvl → I st w → s.In w P v → Old P w →
    Calls Tryd.prog 83 #[.agg #[.int .i64 s.kind, .int .i64 s.num, v], .int .i64 (lvl : Int), .func (.func 82) #[] #[], .func (.func F) #[] cap] w fun e w' =>
      e = .returned (.bool (visitT step st lvl s).1) ∧ I (visitT step st lvl s).2 w' ∧ Saves M w w' := by
  induction K with
  | zero => intro s; have := s.count_pos; omega
  | succ K ih =>
    intro s v lvl w st hK hoks hIs hin hold
    obtain ⟨kd, nm, l⟩ := s
    have hin0 := hin
    simp only [T.In] at hin
    obtain ⟨A, _, c, us, rfl, rfl, hnc, hc, hrd, hrow⟩ := hin
    have hw1 : Below w.heap.size w (w.alloc (.cells #[.int .i64 kd, .int .i64 nm, .slice A l.length c] 44)) := (Below.refl _ _).alloc (Nat.le_refl _) _
    have hbk := Blk.new w 44 #[.int .i64 kd, .int .i64 nm, .slice A l.length c]
    have hS := hstep st (.mk kd nm l) _ lvl _ hoks (hI _ _ _ hIs hw1) (hin0.old hold hw1) (hold.bel hw1)
    obtain ⟨hlv, hdown⟩ := hok st kd nm l lvl hoks
    have hnM : ¬ M w.heap.size := fun h => by have := hM w _ st hIs h; omega
    simp only [T.kind, T.num] at hS ⊢
    cases hb : (step st (.mk kd nm l) lvl).1 with
    | false =>
      have hv : visitT step st lvl (.mk kd nm l) = (false, (step st (.mk kd nm l) lvl).2) := by simp [visitT, hb]
      rw [hv]
      rw [hb] at hS
      have HS := Lib.hid hS
      clear hS hok hstep hM hI hMh ih hdown hb hv
      go_enter Tryd.func83, Tryd.ntmps83
      go_wp2_with fail
      refine HS.out.mono ?_
      rintro e w1 ⟨rfl, hI1, hs1⟩
      go_wp2_with fail
      go_ret
      exact ⟨rfl, hI1, (Saves.of_below hw1).trans hs1⟩
    | true =>
      have hv : visitT step st lvl (.mk kd nm l) = visitTL step (step st (.mk kd nm l) lvl).2 (lvl + 1) l := by simp [visitT, hb]
      rw [hv]
      rw [hb] at hS
      replace hdown := hdown hb
      generalize (step st (.mk kd nm l) lvl).2 = st1 at *
      have hsucc := visitTL_succ step (lvl + 1) l st1
      have hfalse := visitTL_false step (lvl + 1) l st1
      have HS := Lib.hid hS
      have HD := Lib.hid hdown
      have Hih := Lib.hid ih
      have HI := Lib.hid hI
      have Hsucc := Lib.hid hsucc
      have Hfalse := Lib.hid hfalse
      have HMh := Lib.hid hMh
      clear hS hok hstep hM hI hMh ih hdown hb hv hsucc hfalse
      go_enter Tryd.func83, Tryd.ntmps83
      go_wp2_with fail
      refine HS.out.mono ?_
      rintro e w1 ⟨rfl, hI1, hs1⟩
      have hbk1 := hbk.saves hs1 hnM
      have hc0 := hbk1.cell 0
      have hc1 := hbk1.cell 1
      have hc2 := hbk1.cell 2
      have hz1 := hs1.size
      simp only [World.size_alloc] at hz1
      go_wp2_with fail
      refine (partsT_any kd nm _ A l.length c rfl _).mono ?_
      rintro e w1b ⟨rfl, hb1b⟩
      replace hs1 := hs1.trans (Saves.of_below hb1b)
      replace hI1 := HI.out _ _ _ hI1 hb1b
      have hz1b := hb1b.size
      clear hc0 hc1 hc2
      go_wp2_with fail
      go_loopw [20] (fun i wr => ∃ k : Nat, k ≤ l.length ∧ i = .int .i64 k ∧ Hid ((visitTL step st1 (lvl + 1) (l.take k)).1 = true) ∧ I (visitTL step st1 (lvl + 1) (l.take k)).2 wr ∧ Saves M w wr) (fun i _ => l.length - (intOf i).toNat)
      case atStart => exact ⟨0, Nat.zero_le _, rfl, Lib.hid (by simp [visitTL]), by simpa [visitTL] using hI1, (Saves.of_below hw1).trans hs1⟩
      case round =>
        obtain ⟨k, hk, rfl, hf, hIk, hsk⟩ := hrel
        have hzk := hsk.size
        by_cases hlt : k < l.length
        · have hx : l[k]? = some l[k] := List.getElem?_eq_getElem hlt
          have hcl := T.count_lt (a := kd) (b := nm) hx
          obtain ⟨ad, u, rfl, hP, hel, hinx⟩ := T.In.el hrd hrow hx
          obtain ⟨r0, r1, r2⟩ := hel.keep (hsk.block _ (hold _ hP) (HMh.out _ hP))
          obtain ⟨A', n', c', rfl⟩ := hinx.form
          have hw2 : Below wr.heap.size wr (wr.alloc (.cells #[.int .i64 l[k].kind, .int .i64 l[k].num, .slice A' n' c'] 44)) := (Below.refl _ _).alloc (Nat.le_refl _) _
          have hinr := (hinx.saves hsk (fun b hb => ⟨hold b hb, HMh.out b hb⟩)).old (hold.le hzk) hw2
          have hokx := HD.out k _ hx hf.out
          have hs := Hsucc.out k _ hx hf.out
          have hct := Hih.out l[k] _ (lvl + 1) _ _ (by omega) hokx (HI.out _ _ _ hIk hw2) hinr ((hold.le hzk).bel hw2)
          rw [← hs] at hct
          generalize l[k] = x at *
          cases hb2 : (visitTL step st1 (lvl + 1) (l.take (k + 1))).1 with
          | true =>
            rw [hb2] at hct
            have HC := Lib.hid hct
            have HB2 := Lib.hid hb2
            clear hx hel hs hokx hct hb2
            go_wp2_with fail
            refine HC.out.mono ?_
            rintro e w2 ⟨rfl, hI2, hs2⟩
            go_wp2_with fail
            go_roundw
            case rel => exact ⟨k + 1, by omega, by go_num, HB2, hI2, hsk.trans ((Saves.of_below hw2).trans hs2)⟩
            case measure => simp [intOf]; omega
          | false =>
            have hfin := Hfalse.out (k + 1) hb2
            rw [hb2] at hct
            have HC := Lib.hid hct
            have HF := Lib.hid hfin
            have HB2 := Lib.hid hb2
            clear hx hel hs hokx hct hb2 hfin
            go_wp2_with fail
            refine HC.out.mono ?_
            rintro e w2 ⟨rfl, hI2, hs2⟩
            go_wp2_with fail
            go_ret
            rw [HF.out, HB2.out]
            exact ⟨rfl, hI2, hsk.trans ((Saves.of_below hw2).trans hs2)⟩
        · have hll : l.take k = l := List.take_of_length_le (by omega)
          rw [hll] at hIk hf
          clear hll
          go_wp2_with fail
          go_ret
          rw [hf.out]
          exact ⟨rfl, hIk, hsk⟩
end
end Go.Proofs.YtkkfdiidneoelaaDoor
