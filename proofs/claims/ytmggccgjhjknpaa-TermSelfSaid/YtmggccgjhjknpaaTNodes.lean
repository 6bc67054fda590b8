/-
  The nodes behind a substitution: they are those of the term, and for each variable that occurs those of its arg, less 1.
-/
import Derived.Test.YtmggccgjhjknpaaTSubst
import Derived.Test.YtmggccgjhjknpaaTCount
namespace Go.Proofs.Ytmggccgjhjknpaa
open Go.RowKit

/-- What the first j args add. -/
def ws (gs : List T) (o : Nat → Nat) : Nat → Nat
  | 0 => 0
  | j + 1 => ws gs o j + o j * ((gs.getD j default).count - 1)
theorem ws_add (gs : List T) (o o' : Nat → Nat) : ∀ j, ws gs (fun i => o i + o' i) j = ws gs o j + ws gs o' j
  | 0 => rfl
  | j + 1 => by simp only [ws, ws_add gs o o' j, Nat.add_mul]; omega
theorem ws_zero (gs : List T) (o : Nat → Nat) : ∀ j, (∀ i, i < j → o i = 0) → ws gs o j = 0
  | 0, _ => rfl
  | j + 1, h => by simp only [ws, ws_zero gs o j (fun i hi => h i (by omega)), h j (by omega), Nat.zero_mul]
theorem ws_one (gs : List T) (o : Nat → Nat) (a : Nat) (ho : ∀ i, o i = if i = a then 1 else 0) : ∀ j, ws gs o j = if a < j then (gs.getD a default).count - 1 else 0
  | 0 => by simp [ws]
  | j + 1 => by
    simp only [ws, ws_one gs o a ho j, ho j]
    by_cases h1 : j = a
    · subst h1
      simp
    · by_cases h2 : a < j
      · rw [if_pos h2, if_neg h1, if_pos (by omega)]; omega
      · rw [if_neg h2, if_neg h1, if_neg (by omega)]; omega
mutual
theorem count_ws (gs : List T) : ∀ t : T, t.cov gs.length = true → (t.sub gs).count = t.count + ws gs (fun i => t.occ i) gs.length
  | .mk k n l, h => by
    simp only [T.cov, Bool.and_eq_true] at h
    have h1 := countL_ws gs l h.2
    rw [T.count_sub, h1]
    have e : (fun i : Nat => (T.mk k n l).occ (i : Int)) = fun i : Nat => (if k = 0 ∧ n = (i : Int) then 1 else 0) + T.occL (i : Int) l := by
      funext i; simp only [T.occ]
    rw [e, ws_add]
    have hc : (T.mk k n l).count = 1 + T.countL l := rfl
    rw [hc]
    by_cases hk : k = 0
    · subst hk
      have hcov := h.1
      simp only [cov1, Bool.or_eq_true, Bool.and_eq_true, decide_eq_true_eq] at hcov
      have hn : 0 ≤ n ∧ n < (gs.length : Int) := by
        rcases hcov with h' | h'
        · exact absurd rfl h'
        · exact h'
      have hone := ws_one gs (fun i : Nat => if (0 : Int) = 0 ∧ n = (i : Int) then 1 else 0) n.toNat (fun i => by
        by_cases hi : i = n.toNat
        · rw [if_pos hi, if_pos ⟨rfl, by omega⟩]
        · rw [if_neg hi, if_neg (fun hh => hi (by omega))]) gs.length
      rw [hone, if_pos (by omega)]
      have hh : T.head gs 0 n = gs.getD n.toNat default := by simp [T.head]
      have hp := (gs.getD n.toNat default).count_pos
      rw [hh]
      omega
    · have hz := ws_zero gs (fun i : Nat => if k = 0 ∧ n = (i : Int) then 1 else 0) gs.length (fun i _ => by simp [hk])
      rw [hz, T.head_not hk]
      simp only [T.count, T.countL]
      omega
theorem countL_ws (gs : List T) : ∀ l : List T, T.covL gs.length l = true → T.countL (T.subL gs l) = T.countL l + ws gs (fun i => T.occL i l) gs.length
  | [], _ => by
    have := ws_zero gs (fun i : Nat => T.occL (i : Int) []) gs.length (fun i _ => rfl)
    simp only [T.subL, T.countL]
    omega
  | t :: r, h => by
    simp only [T.covL, Bool.and_eq_true] at h
    have h1 := count_ws gs t h.1
    have h2 := countL_ws gs r h.2
    have e : (fun i : Nat => T.occL (i : Int) (t :: r)) = fun i : Nat => t.occ (i : Int) + T.occL (i : Int) r := by
      funext i; simp only [T.occL]
    rw [e, ws_add]
    simp only [T.subL, T.countL]
    omega
end
theorem ws_le (gs : List T) (o : Nat → Nat) (m : Nat) : ∀ j, j ≤ m → ws gs o j ≤ ws gs o m
  | j, h => by
    induction m with
    | zero => have : j = 0 := by omega
              subst this; exact Nat.le_refl _
    | succ m ih =>
      rcases Nat.lt_or_ge m j with h' | h'
      · have : j = m + 1 := by omega
        subst this; exact Nat.le_refl _
      · have := ih h'
        simp only [ws]
        omega
end Go.Proofs.Ytmggccgjhjknpaa
