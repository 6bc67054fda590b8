/-
  Layer 5, the plain part: terms in which variables occur, and substitution.
-/
import Derived.Test.YtbbejhhohppdhaaGreatDoorGC
namespace Go.Proofs.YtbbejhhohppdhaaGreatDoor
open Go.RowKit

mutual
/-- Variables occur. -/
def T.opn : T → Bool
  | .mk k _ l => decide (k = 0) || T.opnL l
def T.opnL : List T → Bool
  | [] => false
  | x :: r => x.opn || T.opnL r
end
mutual
theorem T.sub_shut (gs : List T) : ∀ t : T, t.opn = false → t.sub gs = t
  | .mk k n l, h => by
    simp only [T.opn, Bool.or_eq_false_iff, decide_eq_false_iff_not] at h
    simp only [T.sub, T.head_not h.1, T.subL_shut gs l h.2, T.kind, T.num, T.args, List.nil_append]
theorem T.subL_shut (gs : List T) : ∀ l : List T, T.opnL l = false → T.subL gs l = l
  | [], _ => rfl
  | x :: r, h => by
    simp only [T.opnL, Bool.or_eq_false_iff] at h
    simp only [T.subL, T.sub_shut gs x h.1, T.subL_shut gs r h.2]
end
theorem T.opnL_append : ∀ l m : List T, T.opnL (l ++ m) = (T.opnL l || T.opnL m)
  | [], m => by simp [T.opnL]
  | x :: r, m => by simp [T.opnL, T.opnL_append r m, Bool.or_assoc]
theorem T.opnL_mem : ∀ {l : List T}, T.opnL l = false → ∀ x ∈ l, x.opn = false
  | [], _, x, hx => by simp at hx
  | y :: r, h, x, hx => by
    simp only [T.opnL, Bool.or_eq_false_iff] at h
    rcases List.mem_cons.1 hx with rfl | hx
    · exact h.1
    · exact T.opnL_mem h.2 x hx
mutual
theorem T.opn_sub {gs : List T} (hg : T.opnL gs = false) : ∀ t : T, t.cov gs.length = true → (t.sub gs).opn = false
  | .mk k n l, h => by
    simp only [T.cov, Bool.and_eq_true, cov1, Bool.or_eq_true, decide_eq_true_eq] at h
    obtain ⟨h1, h2⟩ := h
    have hr := T.opnL_sub hg l h2
    by_cases hk : k = 0
    · have h3 : n.toNat < gs.length := by rcases h1 with h1 | h1 <;> omega
      have hx : gs.getD n.toNat default ∈ gs := by
        rw [List.getD_eq_getElem?_getD, List.getElem?_eq_getElem h3]
        exact List.getElem_mem h3
      have h4 := T.opnL_mem hg _ hx
      simp only [T.sub, T.head, if_pos hk]
      generalize gs.getD n.toNat default = y at *
      obtain ⟨k', n', l'⟩ := y
      simp only [T.opn, Bool.or_eq_false_iff] at h4
      simp only [T.opn, T.kind, T.args, T.opnL_append, h4.2, hr, Bool.or_false]
      exact h4.1
    · simp only [T.sub, T.head, if_neg hk, T.opn, T.kind, T.args, List.nil_append, hr, Bool.or_false, decide_eq_false_iff_not]
      exact hk
theorem T.opnL_sub {gs : List T} (hg : T.opnL gs = false) : ∀ l : List T, T.covL gs.length l = true → T.opnL (T.subL gs l) = false
  | [], _ => rfl
  | x :: r, h => by
    simp only [T.covL, Bool.and_eq_true] at h
    simp only [T.subL, T.opnL, T.opn_sub hg x h.1, T.opnL_sub hg r h.2, Bool.or_false]
end
mutual
/-- How many nodes there may be behind a substitution. -/
theorem T.count_sub_le {gs : List T} {m : Nat} (h1 : 1 ≤ m) (hg : ∀ x ∈ gs, x.count ≤ m) : ∀ t : T, t.cov gs.length = true → (t.sub gs).count ≤ t.count * m
  | .mk k n l, h => by
    rw [T.count_sub]
    simp only [T.cov, Bool.and_eq_true, cov1, Bool.or_eq_true, decide_eq_true_eq] at h
    obtain ⟨h0, h2⟩ := h
    have hr := T.countL_sub_le h1 hg l h2
    have hh : (T.head gs k n).count ≤ m := by
      by_cases hk : k = 0
      · have h3 : n.toNat < gs.length := by rcases h0 with h0 | h0 <;> omega
        simp only [T.head, if_pos hk]
        refine hg _ ?_
        rw [List.getD_eq_getElem?_getD, List.getElem?_eq_getElem h3]
        exact List.getElem_mem h3
      · simp only [T.head, if_neg hk, T.count, T.countL]; omega
    simp only [T.count, Nat.add_mul, Nat.one_mul]
    omega
theorem T.countL_sub_le {gs : List T} {m : Nat} (h1 : 1 ≤ m) (hg : ∀ x ∈ gs, x.count ≤ m) : ∀ l : List T, T.covL gs.length l = true → T.countL (T.subL gs l) ≤ T.countL l * m
  | [], _ => by simp [T.subL, T.countL]
  | x :: r, h => by
    simp only [T.covL, Bool.and_eq_true] at h
    have a := T.count_sub_le h1 hg x h.1
    have b := T.countL_sub_le h1 hg r h.2
    simp only [T.subL, T.countL, Nat.add_mul]
    omega
end
end Go.Proofs.YtbbejhhohppdhaaGreatDoor
