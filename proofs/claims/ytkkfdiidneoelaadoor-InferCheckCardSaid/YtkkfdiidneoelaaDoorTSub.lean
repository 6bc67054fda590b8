/-
  Substitution on plain terms.
-/
import Derived.Test.YtkkfdiidneoelaaDoorTEq
namespace Go.Proofs.YtkkfdiidneoelaaDoor

/-- The head that stands in the place of a head: an arg for a variable. -/
def T.head (gs : List T) (k n : Int) : T := if k = 0 then gs.getD n.toNat default else .mk k n []
mutual
def T.sub (gs : List T) : T → T
  | .mk k n l => .mk (T.head gs k n).kind (T.head gs k n).num ((T.head gs k n).args ++ T.subL gs l)
def T.subL (gs : List T) : List T → List T
  | [] => []
  | x :: r => x.sub gs :: T.subL gs r
end
/-- A head that is no variable, or the number of one of m args. -/
def cov1 (m : Nat) (k n : Int) : Bool := decide (k ≠ 0) || (decide (0 ≤ n) && decide (n < (m : Int)))
mutual
/-- All variables are numbers of m args. -/
def T.cov (m : Nat) : T → Bool
  | .mk k n l => cov1 m k n && T.covL m l
def T.covL (m : Nat) : List T → Bool
  | [] => true
  | x :: r => x.cov m && T.covL m r
end
theorem T.subL_map (gs : List T) : ∀ l : List T, T.subL gs l = l.map (T.sub gs)
  | [] => by simp [T.subL]
  | x :: r => by simp [T.subL, T.subL_map gs r]
theorem T.countL_append (l m : List T) : T.countL (l ++ m) = T.countL l + T.countL m := by
  induction l with
  | nil => simp [T.countL]
  | cons x r ih => simp [T.countL, ih]; omega
theorem T.count_eta (t : T) : t.count = 1 + T.countL t.args := by cases t; simp [T.count, T.args]
theorem T.eta (t : T) : T.mk t.kind t.num t.args = t := by cases t; rfl
theorem T.count_sub (gs : List T) (k n : Int) (l : List T) : ((T.mk k n l).sub gs).count = (T.head gs k n).count + T.countL (T.subL gs l) := by
  simp only [T.sub, T.count, T.countL_append]
  rw [T.count_eta (T.head gs k n)]
  omega
theorem T.covL_at {m : Nat} : ∀ {l : List T}, T.covL m l = true → ∀ {j : Nat} {x : T}, l[j]? = some x → x.cov m = true
  | [], _, j, x, h => by simp at h
  | a :: r, hc, j, x, h => by
    simp only [T.covL, Bool.and_eq_true] at hc
    cases j with
    | zero => simp at h; subst h; exact hc.1
    | succ j => simp at h; exact T.covL_at hc.2 h
theorem T.covL_mem {m : Nat} {l : List T} (h : T.covL m l = true) {x : T} (hx : x ∈ l) : x.cov m = true := by
  obtain ⟨j, hj⟩ := List.getElem?_of_mem hx
  exact T.covL_at h hj
theorem T.count_mem {l : List T} {x : T} (hx : x ∈ l) : x.count ≤ T.countL l := by
  obtain ⟨k, hk⟩ := List.getElem?_of_mem hx
  have := T.count_lt (a := 0) (b := 0) hk
  simp only [T.count] at this; omega
theorem T.subL_mem (gs : List T) {l : List T} {x : T} (hx : x ∈ l) : (x.sub gs).count ≤ T.countL (T.subL gs l) := by
  rw [T.subL_map]
  exact T.count_mem (List.mem_map_of_mem hx)
theorem T.head_var {gs : List T} {n : Int} {j : Nat} (hn : n = j) {a : T} (ha : gs[j]? = some a) : T.head gs 0 n = a := by
  subst hn
  simp [T.head, ha]
theorem T.head_not {gs : List T} {k n : Int} (hk : k ≠ 0) : T.head gs k n = .mk k n [] := by simp [T.head, hk]
end Go.Proofs.YtkkfdiidneoelaaDoor
