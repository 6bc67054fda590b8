/-
  The reference's Count: how often a variable occurs.
-/
import Derived.Test.YtmggccgjhjknpaaTRef
namespace Go.Proofs.Ytmggccgjhjknpaa
open Go.RowKit

mutual
/-- How often variable z occurs. -/
def T.occ (z : Int) : T → Nat
  | .mk k n l => (if k = 0 ∧ n = z then 1 else 0) + T.occL z l
def T.occL (z : Int) : List T → Nat
  | [] => 0
  | t :: r => t.occ z + T.occL z r
end
theorem T.occL_take_succ (z : Int) (l : List T) (k : Nat) (x : T) (h : l[k]? = some x) : T.occL z (l.take (k + 1)) = T.occL z (l.take k) + x.occ z := by
  induction l generalizing k with
  | nil => simp at h
  | cons y r ih =>
    cases k with
    | zero => simp at h; subst h; simp [T.occL]
    | succ k => have := ih k (by simpa using h); simp only [List.take_succ_cons, T.occL]; omega
mutual
theorem T.occ_le (z : Int) : ∀ t : T, t.occ z ≤ t.count
  | .mk k n l => by have := T.occL_le z l; simp only [T.occ, T.count]; split <;> omega
theorem T.occL_le (z : Int) : ∀ l : List T, T.occL z l ≤ T.countL l
  | [] => Nat.le_refl _
  | t :: r => by have := T.occ_le z t; have := T.occL_le z r; simp only [T.occL, T.countL]; omega
end

set_option maxHeartbeats 1600000 in
theorem countT_any (K : Nat) : ∀ (t : T) (v : Value) (z : Int) (w : World) (P : Nat → Prop), t.count ≤ K → t.count ≤ 1000000 → t.In w P v → Old P w →
    Calls Try.prog 35 #[.agg #[.int .i64 t.kind, .int .i64 t.num, v], .int .i64 z] w fun e w' => e = .returned (.int .i64 (t.occ z : Int)) ∧ Below w.heap.size w w' := by
  induction K with
  | zero => intro t; have := t.count_pos; omega
  | succ K ih =>
    intro t v z w P hK hm hin hold
    obtain ⟨kd, nm, l⟩ := t
    simp only [T.In] at hin
    obtain ⟨A, _, c, us, rfl, rfl, hnc, hc, hrd, hrow⟩ := hin
    simp only [T.kind, T.num]
    by_cases h0 : kd = 0
    · by_cases h1 : nm = z
      · replace h1 := h1.symm
        subst h0 h1
        go_enter Try.func35, Try.ntmps35
        go_wp2_with fail
        go_loopw [5, 20] (fun n i wr => ∃ k : Nat, k ≤ l.length ∧ i = .int .i64 k ∧ n = .int .i64 ((1 + T.occL z (l.take k) : Nat) : Int) ∧ Below w.heap.size w wr) (fun _ i _ => l.length - (intOf i).toNat)
        case atStart => exact ⟨0, Nat.zero_le _, rfl, by simp [T.occL], (Below.refl _ _).alloc (Nat.le_refl _) _⟩
        case round =>
          obtain ⟨k, hk, rfl, rfl, hbel⟩ := hrel
          by_cases hlt : k < l.length
          · have hx : l[k]? = some l[k] := List.getElem?_eq_getElem hlt
            have hcs := T.occL_take_succ z l k _ hx
            have hcl := T.count_lt (a := 0) (b := z) hx
            have hle := T.occL_le z (l.take (k + 1))
            have hle2 := T.countL_take_le l (k + 1)
            have hcc : (T.mk 0 z l).count = 1 + T.countL l := rfl
            obtain ⟨ad, u, rfl, hP, hel, hinx⟩ := T.In.el hrd hrow hx
            obtain ⟨r0, r1, r2⟩ := hel.keep (hbel.block _ (hold _ hP))
            have hinr := hinx.old hold hbel
            obtain ⟨A', n', c', rfl⟩ := hinr.form
            generalize l[k] = x at *
            have hw1 : Below wr.heap.size wr (wr.alloc (.cells #[.int .i64 x.kind, .int .i64 x.num, .slice A' n' c'] 35)) := (Below.refl _ _).alloc (Nat.le_refl _) _
            have HC := Lib.hid (ih x _ z _ P (by omega) (by omega) (hinr.old (hold.bel hbel) hw1) ((hold.bel hbel).bel hw1))
            have HS := Lib.hid hcs
            have hsz := hbel.size
            have hol : x.occ z ≤ 1000000 ∧ T.occL z (l.take k) ≤ 1000000 := by omega
            generalize T.occL z (l.take k) = o at *
            generalize x.occ z = y at *
            clear hcs hx hel hinx hcl hle hle2
            go_wp2_with fail
            refine HC.out.mono ?_
            rintro e w1 ⟨rfl, hb1⟩
            go_wp2_with fail
            go_roundw
            case rel => exact ⟨k + 1, by omega, by go_num, congrArg (Value.int .i64) (by have h2 := HS.out; omega), (hbel.trans (hw1.mono (by omega))).trans (hb1.mono (by simp; omega))⟩
            case measure => simp [intOf]; omega
          · have hfin : ((1 + T.occL z (l.take k) : Nat) : Int) = ((T.mk 0 z l).occ z : Int) := by rw [List.take_of_length_le (by omega)]; simp [T.occ]
            have HF := Lib.hid hfin
            generalize T.occL z (l.take k) = o at *
            clear hfin
            go_wp2_with fail
            go_ret
            exact ⟨ret_int HF.out, hbel⟩
      · subst h0
        have g1 : (nm == z) = false := by simp [h1]
        go_enter Try.func35, Try.ntmps35
        go_wp2_with fail
        go_loopw [5, 20] (fun n i wr => ∃ k : Nat, k ≤ l.length ∧ i = .int .i64 k ∧ n = .int .i64 ((0 + T.occL z (l.take k) : Nat) : Int) ∧ Below w.heap.size w wr) (fun _ i _ => l.length - (intOf i).toNat)
        case atStart => exact ⟨0, Nat.zero_le _, rfl, by simp [T.occL], (Below.refl _ _).alloc (Nat.le_refl _) _⟩
        case round =>
          obtain ⟨k, hk, rfl, rfl, hbel⟩ := hrel
          by_cases hlt : k < l.length
          · have hx : l[k]? = some l[k] := List.getElem?_eq_getElem hlt
            have hcs := T.occL_take_succ z l k _ hx
            have hcl := T.count_lt (a := 0) (b := nm) hx
            have hle := T.occL_le z (l.take (k + 1))
            have hle2 := T.countL_take_le l (k + 1)
            have hcc : (T.mk 0 nm l).count = 1 + T.countL l := rfl
            obtain ⟨ad, u, rfl, hP, hel, hinx⟩ := T.In.el hrd hrow hx
            obtain ⟨r0, r1, r2⟩ := hel.keep (hbel.block _ (hold _ hP))
            have hinr := hinx.old hold hbel
            obtain ⟨A', n', c', rfl⟩ := hinr.form
            generalize l[k] = x at *
            have hw1 : Below wr.heap.size wr (wr.alloc (.cells #[.int .i64 x.kind, .int .i64 x.num, .slice A' n' c'] 35)) := (Below.refl _ _).alloc (Nat.le_refl _) _
            have HC := Lib.hid (ih x _ z _ P (by omega) (by omega) (hinr.old (hold.bel hbel) hw1) ((hold.bel hbel).bel hw1))
            have HS := Lib.hid hcs
            have hsz := hbel.size
            have hol : x.occ z ≤ 1000000 ∧ T.occL z (l.take k) ≤ 1000000 := by omega
            generalize T.occL z (l.take k) = o at *
            generalize x.occ z = y at *
            clear hcs hx hel hinx hcl hle hle2
            go_wp2_with fail
            refine HC.out.mono ?_
            rintro e w1 ⟨rfl, hb1⟩
            go_wp2_with fail
            go_roundw
            case rel => exact ⟨k + 1, by omega, by go_num, congrArg (Value.int .i64) (by have h2 := HS.out; omega), (hbel.trans (hw1.mono (by omega))).trans (hb1.mono (by simp; omega))⟩
            case measure => simp [intOf]; omega
          · have hfin : ((0 + T.occL z (l.take k) : Nat) : Int) = ((T.mk 0 nm l).occ z : Int) := by rw [List.take_of_length_le (by omega)]; simp [T.occ, h1]
            have HF := Lib.hid hfin
            generalize T.occL z (l.take k) = o at *
            clear hfin
            go_wp2_with fail
            go_ret
            exact ⟨ret_int HF.out, hbel⟩
    · have hd : ¬ (kd = 0 ∧ nm = z) := fun h => h0 h.1
      have g0 : decide (kd = 0) = false := by simp [h0]
      go_enter Try.func35, Try.ntmps35
      go_wp2_with fail
      go_loopw [5, 20] (fun n i wr => ∃ k : Nat, k ≤ l.length ∧ i = .int .i64 k ∧ n = .int .i64 ((0 + T.occL z (l.take k) : Nat) : Int) ∧ Below w.heap.size w wr) (fun _ i _ => l.length - (intOf i).toNat)
      case atStart => exact ⟨0, Nat.zero_le _, rfl, by simp [T.occL], (Below.refl _ _).alloc (Nat.le_refl _) _⟩
      case round =>
        obtain ⟨k, hk, rfl, rfl, hbel⟩ := hrel
        by_cases hlt : k < l.length
        · have hx : l[k]? = some l[k] := List.getElem?_eq_getElem hlt
          have hcs := T.occL_take_succ z l k _ hx
          have hcl := T.count_lt (a := kd) (b := nm) hx
          have hle := T.occL_le z (l.take (k + 1))
          have hle2 := T.countL_take_le l (k + 1)
          have hcc : (T.mk kd nm l).count = 1 + T.countL l := rfl
          obtain ⟨ad, u, rfl, hP, hel, hinx⟩ := T.In.el hrd hrow hx
          obtain ⟨r0, r1, r2⟩ := hel.keep (hbel.block _ (hold _ hP))
          have hinr := hinx.old hold hbel
          obtain ⟨A', n', c', rfl⟩ := hinr.form
          generalize l[k] = x at *
          have hw1 : Below wr.heap.size wr (wr.alloc (.cells #[.int .i64 x.kind, .int .i64 x.num, .slice A' n' c'] 35)) := (Below.refl _ _).alloc (Nat.le_refl _) _
          have HC := Lib.hid (ih x _ z _ P (by omega) (by omega) (hinr.old (hold.bel hbel) hw1) ((hold.bel hbel).bel hw1))
          have HS := Lib.hid hcs
          have hsz := hbel.size
          have hol : x.occ z ≤ 1000000 ∧ T.occL z (l.take k) ≤ 1000000 := by omega
          generalize T.occL z (l.take k) = o at *
          generalize x.occ z = y at *
          clear hcs hx hel hinx hcl hle hle2
          go_wp2_with fail
          refine HC.out.mono ?_
          rintro e w1 ⟨rfl, hb1⟩
          go_wp2_with fail
          go_roundw
          case rel => exact ⟨k + 1, by omega, by go_num, congrArg (Value.int .i64) (by have h2 := HS.out; omega), (hbel.trans (hw1.mono (by omega))).trans (hb1.mono (by simp; omega))⟩
          case measure => simp [intOf]; omega
        · have hfin : ((0 + T.occL z (l.take k) : Nat) : Int) = ((T.mk kd nm l).occ z : Int) := by rw [List.take_of_length_le (by omega)]; simp [T.occ, hd]
          have HF := Lib.hid hfin
          generalize T.occL z (l.take k) = o at *
          clear hfin
          go_wp2_with fail
          go_ret
          exact ⟨ret_int HF.out, hbel⟩
end Go.Proofs.Ytmggccgjhjknpaa
