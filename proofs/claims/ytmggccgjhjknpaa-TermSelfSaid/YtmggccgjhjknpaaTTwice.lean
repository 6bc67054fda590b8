/-
  One substitution after another one, and the one of the args in which the other ones have been substituted; the substitution of the variables themselves.
-/
import Derived.Test.YtmggccgjhjknpaaTSubst
namespace Go.Proofs.Ytmggccgjhjknpaa

theorem T.subL_append (gs : List T) (l m : List T) : T.subL gs (l ++ m) = T.subL gs l ++ T.subL gs m := by
  simp [T.subL_map]
mutual
theorem sub_sub (gs hs : List T) : ∀ t : T, t.cov gs.length = true → (t.sub gs).sub hs = t.sub (gs.map (T.sub hs))
  | .mk k n l, h => by
    simp only [T.cov, Bool.and_eq_true] at h
    have ih := subL_subL gs hs l h.2
    have hl : (T.mk k n l).sub gs = .mk (T.head gs k n).kind (T.head gs k n).num ((T.head gs k n).args ++ T.subL gs l) := rfl
    have hr : (T.mk k n l).sub (gs.map (T.sub hs)) = .mk (T.head (gs.map (T.sub hs)) k n).kind (T.head (gs.map (T.sub hs)) k n).num ((T.head (gs.map (T.sub hs)) k n).args ++ T.subL (gs.map (T.sub hs)) l) := rfl
    rw [hl, hr]
    have hH : T.head (gs.map (T.sub hs)) k n = (T.head gs k n).sub hs := by
      by_cases hk : k = 0
      · subst hk
        have hcov := h.1
        simp only [cov1, Bool.or_eq_true, Bool.and_eq_true, decide_eq_true_eq] at hcov
        have hn : 0 ≤ n ∧ n < (gs.length : Int) := by
          rcases hcov with h' | h'
          · exact absurd rfl h'
          · exact h'
        have hlt : n.toNat < gs.length := by omega
        simp [T.head, List.getD, List.getElem?_map, List.getElem?_eq_getElem hlt]
      · rw [T.head_not hk, T.head_not hk]
        simp only [T.sub, T.head_not hk, T.subL, T.kind, T.num, T.args, List.append_nil]
    rw [hH, ← ih]
    generalize T.head gs k n = H
    obtain ⟨hk', hn', hl'⟩ := H
    simp only [T.sub, T.kind, T.num, T.args, T.subL_append, List.append_assoc]
theorem subL_subL (gs hs : List T) : ∀ l : List T, T.covL gs.length l = true → T.subL hs (T.subL gs l) = T.subL (gs.map (T.sub hs)) l
  | [], _ => rfl
  | t :: r, h => by
    simp only [T.covL, Bool.and_eq_true] at h
    simp only [T.subL, sub_sub gs hs t h.1, subL_subL gs hs r h.2]
end
mutual
/-- The variables 0, 1, .. stand for themselves. -/
theorem sub_self (gs : List T) (hg : ∀ (i : Nat) (x : T), gs[i]? = some x → x = .mk 0 i []) : ∀ t : T, t.cov gs.length = true → t.sub gs = t
  | .mk k n l, h => by
    simp only [T.cov, Bool.and_eq_true] at h
    have ih := subL_self gs hg l h.2
    have hl : (T.mk k n l).sub gs = .mk (T.head gs k n).kind (T.head gs k n).num ((T.head gs k n).args ++ T.subL gs l) := rfl
    have hH : T.head gs k n = .mk k n [] := by
      by_cases hk : k = 0
      · subst hk
        have hcov := h.1
        simp only [cov1, Bool.or_eq_true, Bool.and_eq_true, decide_eq_true_eq] at hcov
        have hn : 0 ≤ n ∧ n < (gs.length : Int) := by
          rcases hcov with h' | h'
          · exact absurd rfl h'
          · exact h'
        have hlt : n.toNat < gs.length := by omega
        have hx : gs[n.toNat]? = some gs[n.toNat] := List.getElem?_eq_getElem hlt
        have := hg _ _ hx
        have hn2 : ((n.toNat : Nat) : Int) = n := by omega
        rw [hn2] at this
        simp [T.head, List.getD, hx, this]
      · exact T.head_not hk
    rw [hl, hH, ih]
    rfl
theorem subL_self (gs : List T) (hg : ∀ (i : Nat) (x : T), gs[i]? = some x → x = .mk 0 i []) : ∀ l : List T, T.covL gs.length l = true → T.subL gs l = l
  | [], _ => rfl
  | t :: r, h => by
    simp only [T.covL, Bool.and_eq_true] at h
    simp only [T.subL, sub_self gs hg t h.1, subL_self gs hg r h.2]
end
end Go.Proofs.Ytmggccgjhjknpaa
