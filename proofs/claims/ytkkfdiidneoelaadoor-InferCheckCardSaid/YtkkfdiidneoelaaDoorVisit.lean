/-
  nest.visit at sorts: whoever visits a sort, node by node.
-/
import Derived.Test.YtkkfdiidneoelaaDoorRef
namespace Go.Proofs.YtkkfdiidneoelaaDoor
open Go.RowKit

section
variable {σ : Type} (step : σ → S → Nat → Bool × σ)
mutual
def visit : σ → Nat → S → Bool × σ
  | st, lvl, .mk l => if (step st (.mk l) lvl).1 then visitL (step st (.mk l) lvl).2 (lvl + 1) l else (false, (step st (.mk l) lvl).2)
def visitL : σ → Nat → List S → Bool × σ
  | st, _, [] => (true, st)
  | st, lvl, x :: r => if (visit st lvl x).1 then visitL (visit st lvl x).2 lvl r else (false, (visit st lvl x).2)
end
theorem visitL_succ (lvl : Nat) (l : List S) : ∀ (st : σ) (k : Nat) (x : S), l[k]? = some x → (visitL step st lvl (l.take k)).1 = true →
    visitL step st lvl (l.take (k + 1)) = visit step (visitL step st lvl (l.take k)).2 lvl x := by
  induction l with
  | nil => intro st k x h; simp at h
  | cons a r ih =>
    intro st k x h ht
    cases k with
    | zero =>
      simp at h; subst h
      simp only [List.take_succ_cons, List.take_zero, visitL]
      split
      · rename_i hb; rw [Prod.ext_iff]; simp [hb]
      · rename_i hb; rw [Prod.ext_iff]; simp at hb; simp [hb]
    | succ k =>
      simp at h
      simp only [List.take_succ_cons, visitL] at ht ⊢
      split at ht
      · rename_i hb; rw [if_pos hb]; rw [ih _ k x h ht]; simp [hb]
      · cases ht
theorem visitL_false (lvl : Nat) (l : List S) : ∀ (st : σ) (k : Nat), (visitL step st lvl (l.take k)).1 = false → visitL step st lvl l = visitL step st lvl (l.take k) := by
  induction l with
  | nil => intro st k h; simp
  | cons a r ih =>
    intro st k h
    cases k with
    | zero => simp [visitL] at h
    | succ k =>
      simp only [List.take_succ_cons, visitL] at h ⊢
      split at h
      · rename_i hb; rw [if_pos hb, if_pos hb]; exact ih _ k h
      · rename_i hb; rw [if_neg hb, if_neg hb]

theorem parts_any (v : Value) (A : Option Addr) (n c : Nat) (hv : v = .slice A n c) (w : World) :
    Calls Tryd.prog 91 #[.agg #[v]] w fun e w' => e = .returned v ∧ Below w.heap.size w w' := by
  subst hv
  go_enter Tryd.func91, Tryd.ntmps91
  go_wp2_with fail
  go_ret
  exact ⟨rfl, (Below.refl _ _).alloc (Nat.le_refl _) _⟩

variable {step}
set_option maxHeartbeats 400000 in
theorem visit_any {I : σ → World → Prop} {M : Nat → Prop} {ok : σ → S → Nat → Prop} {F : Nat} {cap : Array Value} {lo hi : Nat}
    (hI : ∀ st w w', I st w → Below w.heap.size w w' → I st w')
    (hM : ∀ w k st, I st w → M k → k < w.heap.size)
    (hF : ∀ args w, (callFunc F args).run Tryd.prog w = .ok (.enter F args) w)
    (hMh : ∀ k, k < hi → ¬ M k)
    (hok : ∀ st l lvl, ok st (.mk l) lvl → lvl ≤ 1000 ∧ ((step st (.mk l) lvl).1 = true → ∀ k x, l[k]? = some x → (visitL step (step st (.mk l) lvl).2 (lvl + 1) (l.take k)).1 = true →
      ok (visitL step (step st (.mk l) lvl).2 (lvl + 1) (l.take k)).2 x (lvl + 1)))
    (hstep : ∀ st x v lvl w, ok st x lvl → I st w → x.In w lo hi v → hi ≤ w.heap.size → Calls Tryd.prog F (#[.agg #[v], .int .i64 (lvl : Int)] ++ cap) w fun e w' =>
      e = .returned (.bool (step st x lvl).1) ∧ I (step st x lvl).2 w' ∧ Saves M w w')
    (K : Nat) : ∀ (s : S) (v : Value) (lvl : Nat) (w : World) (st : σ), s.count ≤ K → ok st s lvl → I st w → s.In w lo hi v → hi ≤ w.heap.size →
    Calls Tryd.prog 103 #[.agg #[v], .int .i64 (lvl : Int), .func (.func 91) #[] #[], .func (.func F) #[] cap] w fun e w' =>
      e = .returned (.bool (visit step st lvl s).1) ∧ I (visit step st lvl s).2 w' ∧ Saves M w w' := by
  induction K with
  | zero => intro s; have := s.count_pos; omega
  | succ K ih =>
    intro s v lvl w st hK hoks hIs hin hhi
    obtain ⟨l⟩ := s
    have hin0 := hin
    simp only [S.In] at hin
    obtain ⟨A, _, c, rfl, rfl, hnc, hc, hall⟩ := hin
    have hw1 : Below w.heap.size w (w.alloc (.cells #[.slice A l.length c] 41)) := (Below.refl _ _).alloc (Nat.le_refl _) _
    have hbk := Blk.new w 41 #[.slice A l.length c]
    have hS := hstep st (.mk l) _ lvl _ hoks (hI _ _ _ hIs hw1) (hin0.below hw1 hhi) (by simp; omega)
    obtain ⟨hlv, hdown⟩ := hok st l lvl hoks
    have hnM : ¬ M w.heap.size := fun h => by have := hM w _ st hIs h; omega
    cases hb : (step st (.mk l) lvl).1 with
    | false =>
      have hv : visit step st lvl (.mk l) = (false, (step st (.mk l) lvl).2) := by simp [visit, hb]
      rw [hv]
      rw [hb] at hS
      have HS := Lib.hid hS
      clear hS hok hstep hM hI hMh ih hdown hb hv
      go_enter Tryd.func103, Tryd.ntmps103
      go_wp2_with fail
      refine HS.out.mono ?_
      rintro e w1 ⟨rfl, hI1, hs1⟩
      go_wp2_with fail
      go_ret
      exact ⟨rfl, hI1, (Saves.of_below hw1).trans hs1⟩
    | true =>
      have hv : visit step st lvl (.mk l) = visitL step (step st (.mk l) lvl).2 (lvl + 1) l := by simp [visit, hb]
      rw [hv]
      rw [hb] at hS
      replace hdown := hdown hb
      generalize (step st (.mk l) lvl).2 = st1 at *
      have hsucc := visitL_succ step (lvl + 1) l st1
      have hfalse := visitL_false step (lvl + 1) l st1
      have HS := Lib.hid hS
      have HD := Lib.hid hdown
      have Hih := Lib.hid ih
      have HI := Lib.hid hI
      have Hsucc := Lib.hid hsucc
      have Hfalse := Lib.hid hfalse
      have HMh := Lib.hid hMh
      clear hS hok hstep hM hI hMh ih hdown hb hv hsucc hfalse
      go_enter Tryd.func103, Tryd.ntmps103
      go_wp2_with fail
      refine HS.out.mono ?_
      rintro e w1 ⟨rfl, hI1, hs1⟩
      have hbk1 := hbk.saves hs1 hnM
      have hc1 := hbk1.cell 0
      have hz1 := hs1.size
      simp only [World.size_alloc] at hz1
      go_wp2_with fail
      refine (parts_any _ A l.length c rfl _).mono ?_
      rintro e w1b ⟨rfl, hb1b⟩
      replace hs1 := hs1.trans (Saves.of_below hb1b)
      replace hI1 := HI.out _ _ _ hI1 hb1b
      have hz1b := hb1b.size
      clear hc1
      go_wp2_with fail
      go_loopw [20] (fun i wr => ∃ k : Nat, k ≤ l.length ∧ i = .int .i64 k ∧ Hid ((visitL step st1 (lvl + 1) (l.take k)).1 = true) ∧ I (visitL step st1 (lvl + 1) (l.take k)).2 wr ∧ Saves M w wr) (fun i _ => l.length - (intOf i).toNat)
      case atStart => exact ⟨0, Nat.zero_le _, rfl, Lib.hid (by simp [visitL]), by simpa [visitL] using hI1, (Saves.of_below hw1).trans hs1⟩
      case round =>
        obtain ⟨k, hk, rfl, hf, hIk, hsk⟩ := hrel
        have hzk := hsk.size
        by_cases hlt : k < l.length
        · have hx : l[k]? = some l[k] := List.getElem?_eq_getElem hlt
          have hcl := S.count_lt hx
          obtain ⟨ad, u, rfl, _, hadb, hcell, hinx⟩ := hall.at_ hx
          rw [Nat.zero_add] at hcell
          have hcellr : wr.cell? (ad.add k) = some u := (World.cell?_of_block (hsk.block _ (by rw [block_of_add]; omega) (by rw [block_of_add]; exact HMh.out _ hadb))).trans hcell
          obtain ⟨A', n', c', rfl⟩ := hinx.form
          have hw2 : Below wr.heap.size wr (wr.alloc (.cells #[.slice A' n' c'] 41)) := (Below.refl _ _).alloc (Nat.le_refl _) _
          have hinr := (hinx.saves hsk hhi (fun k _ h => HMh.out k h)).below hw2 (by omega)
          have hokx := HD.out k _ hx hf.out
          have hs := Hsucc.out k _ hx hf.out
          have hct := Hih.out l[k] _ (lvl + 1) _ _ (by omega) hokx (HI.out _ _ _ hIk hw2) hinr (by simp; omega)
          rw [← hs] at hct
          generalize l[k] = x at *
          cases hb2 : (visitL step st1 (lvl + 1) (l.take (k + 1))).1 with
          | true =>
            rw [hb2] at hct
            have HC := Lib.hid hct
            have HB2 := Lib.hid hb2
            clear hx hcell hs hokx hct hb2
            go_wp2_with fail
            refine HC.out.mono ?_
            rintro e w2 ⟨rfl, hI2, hs2⟩
            go_wp2_with fail
            go_roundw
            case rel => exact ⟨k + 1, by omega, by go_num, HB2, hI2, hsk.trans ((Saves.of_below hw2).trans hs2)⟩
            case measure => simp [intOf]; omega
          | false =>
            have hfin := Hfalse.out (k + 1) hb2
            rw [hb2] at hct
            have HC := Lib.hid hct
            have HF := Lib.hid hfin
            have HB2 := Lib.hid hb2
            clear hx hcell hs hokx hct hb2 hfin
            go_wp2_with fail
            refine HC.out.mono ?_
            rintro e w2 ⟨rfl, hI2, hs2⟩
            go_wp2_with fail
            go_ret
            rw [HF.out, HB2.out]
            exact ⟨rfl, hI2, hsk.trans ((Saves.of_below hw2).trans hs2)⟩
        · have hll : l.take k = l := List.take_of_length_le (by omega)
          rw [hll] at hIk hf
          clear hll
          go_wp2_with fail
          go_ret
          rw [hf.out]
          exact ⟨rfl, hIk, hsk⟩
end
end Go.Proofs.YtkkfdiidneoelaaDoor
