/-
  The variables of a plain term, in increasing order.
-/
import Derived.Test.YthgkgjbjiiedaaaGreatDoorGC
namespace Go.Proofs.YthgkgjbjiiedaaaGreatDoor

/-- A number put into a list in increasing order, unless it is there. -/
def insZ (n : Int) : List Int → List Int
  | [] => [n]
  | x :: r => if x < n then x :: insZ n r else if x = n then x :: r else n :: x :: r
mutual
/-- The numbers of the variables, as they occur. -/
def T.vrs : T → List Int
  | .mk k n a => (if k = 0 then [n] else []) ++ T.vrsL a
def T.vrsL : List T → List Int
  | [] => []
  | x :: r => x.vrs ++ T.vrsL r
end
/-- The numbers of the variables put into a list. -/
def T.vars (t : T) (l : List Int) : List Int := t.vrs.foldl (fun l n => insZ n l) l
def T.varsL (ts : List T) (l : List Int) : List Int := (T.vrsL ts).foldl (fun l n => insZ n l) l

theorem mem_insZ {n x : Int} : ∀ {l : List Int}, x ∈ insZ n l ↔ x = n ∨ x ∈ l
  | [] => by simp [insZ]
  | a :: r => by
    unfold insZ
    by_cases h1 : a < n
    · rw [if_pos h1, List.mem_cons, List.mem_cons, mem_insZ]
      constructor
      · rintro (h | h | h)
        · exact .inr (.inl h)
        · exact .inl h
        · exact .inr (.inr h)
      · rintro (h | h | h)
        · exact .inr (.inl h)
        · exact .inl h
        · exact .inr (.inr h)
    · rw [if_neg h1]
      by_cases h2 : a = n
      · rw [if_pos h2]
        subst h2
        simp
      · rw [if_neg h2]
        simp
theorem insZ_up {n : Int} : ∀ {l : List Int}, l.Pairwise (· < ·) → (insZ n l).Pairwise (· < ·)
  | [], _ => by simp [insZ]
  | a :: r, h => by
    have ha : ∀ b ∈ r, a < b := fun b hb => List.rel_of_pairwise_cons h hb
    have hr := List.Pairwise.of_cons h
    unfold insZ
    by_cases h1 : a < n
    · rw [if_pos h1]
      refine List.Pairwise.cons ?_ (insZ_up hr)
      intro b hb
      rcases mem_insZ.1 hb with rfl | hb
      · exact h1
      · exact ha _ hb
    · rw [if_neg h1]
      by_cases h2 : a = n
      · rw [if_pos h2]; exact h
      · rw [if_neg h2]
        refine List.Pairwise.cons ?_ h
        intro b hb
        rcases List.mem_cons.1 hb with rfl | hb
        · omega
        · have := ha _ hb; omega
theorem insZ_length (n : Int) : ∀ l : List Int, (insZ n l).length ≤ l.length + 1
  | [] => by simp [insZ]
  | a :: r => by
    have := insZ_length n r
    unfold insZ
    split
    · simp; omega
    · split <;> simp
theorem fold_up : ∀ (o l : List Int), l.Pairwise (· < ·) → (o.foldl (fun l n => insZ n l) l).Pairwise (· < ·)
  | [], _, h => h
  | _ :: r, _, h => fold_up r _ (insZ_up h)
theorem fold_mem {x : Int} : ∀ (o l : List Int), x ∈ o.foldl (fun l n => insZ n l) l ↔ x ∈ o ∨ x ∈ l
  | [], l => by simp
  | a :: r, l => by
    rw [List.foldl_cons, fold_mem r, mem_insZ, List.mem_cons]
    constructor
    · rintro (h | h | h)
      · exact .inl (.inr h)
      · exact .inl (.inl h)
      · exact .inr h
    · rintro ((h | h) | h)
      · exact .inr (.inl h)
      · exact .inl h
      · exact .inr (.inr h)
theorem fold_length : ∀ (o l : List Int), (o.foldl (fun l n => insZ n l) l).length ≤ l.length + o.length
  | [], l => by simp
  | a :: r, l => by
    have h1 := fold_length r (insZ a l)
    have h2 := insZ_length a l
    simp only [List.foldl_cons, List.length_cons]
    omega
theorem T.vars_up (t : T) : (t.vars []).Pairwise (· < ·) := fold_up _ _ List.Pairwise.nil
theorem T.mem_vars {t : T} {x : Int} : x ∈ t.vars [] ↔ x ∈ t.vrs := by unfold T.vars; rw [fold_mem]; simp
theorem T.vars_mk (k n : Int) (a : List T) (l : List Int) : (T.mk k n a).vars l = T.varsL a (if k = 0 then insZ n l else l) := by
  unfold T.vars T.varsL
  simp only [T.vrs, List.foldl_append]
  by_cases h : k = 0
  · simp [h]
  · simp [h]
theorem T.varsL_nil (l : List Int) : T.varsL [] l = l := by simp [T.varsL, T.vrsL]
theorem T.vrsL_append : ∀ (a b : List T), T.vrsL (a ++ b) = T.vrsL a ++ T.vrsL b
  | [], b => by simp [T.vrsL]
  | x :: r, b => by simp [T.vrsL, T.vrsL_append r b]
theorem T.varsL_snoc (a : List T) (x : T) (l : List Int) : T.varsL (a ++ [x]) l = x.vars (T.varsL a l) := by
  unfold T.varsL T.vars
  rw [T.vrsL_append, List.foldl_append]
  simp [T.vrsL]
theorem T.varsL_take {a : List T} {k : Nat} {x : T} (h : a[k]? = some x) (l : List Int) : T.varsL (a.take (k + 1)) l = x.vars (T.varsL (a.take k) l) := by
  rw [List.take_add_one, h]
  exact T.varsL_snoc _ _ _
mutual
theorem T.vrs_length : ∀ t : T, t.vrs.length ≤ t.count
  | .mk k n a => by
    have := T.vrsL_length a
    simp only [T.vrs, T.count, List.length_append]
    split <;> simp <;> omega
theorem T.vrsL_length : ∀ l : List T, (T.vrsL l).length ≤ T.countL l
  | [] => by simp [T.vrsL]
  | x :: r => by
    have := T.vrs_length x
    have := T.vrsL_length r
    simp only [T.vrsL, T.countL, List.length_append]
    omega
end
theorem T.vars_length (t : T) (l : List Int) : (t.vars l).length ≤ l.length + t.count := by
  have h1 := fold_length t.vrs l
  have h2 := t.vrs_length
  unfold T.vars; omega
theorem T.varsL_length (a : List T) (l : List Int) : (T.varsL a l).length ≤ l.length + T.countL a := by
  have h1 := fold_length (T.vrsL a) l
  have h2 := T.vrsL_length a
  unfold T.varsL; omega
mutual
theorem T.cov_vrs {m : Nat} : ∀ t : T, t.cov m = true ↔ ∀ x ∈ t.vrs, 0 ≤ x ∧ x < (m : Int)
  | .mk k n a => by
    simp only [T.cov, T.vrs, Bool.and_eq_true, T.covL_vrs a, List.mem_append]
    constructor
    · rintro ⟨h1, h2⟩ x (hx | hx)
      · by_cases hk : k = 0
        · simp [hk] at hx
          subst hx
          simpa [cov1, hk] using h1
        · simp [hk] at hx
      · exact h2 x hx
    · intro h
      refine ⟨?_, fun x hx => h x (.inr hx)⟩
      by_cases hk : k = 0
      · have := h n (.inl (by simp [hk]))
        simp [cov1, this.1, this.2]
      · simp [cov1, hk]
theorem T.covL_vrs {m : Nat} : ∀ l : List T, T.covL m l = true ↔ ∀ x ∈ T.vrsL l, 0 ≤ x ∧ x < (m : Int)
  | [] => by simp [T.covL, T.vrsL]
  | x :: r => by
    simp only [T.covL, T.vrsL, Bool.and_eq_true, T.cov_vrs x, T.covL_vrs r, List.mem_append]
    constructor
    · rintro ⟨h1, h2⟩ y (hy | hy)
      · exact h1 y hy
      · exact h2 y hy
    · intro h
      exact ⟨fun y hy => h y (.inl hy), fun y hy => h y (.inr hy)⟩
end
/-- All variables are numbers of m args, asked of the list of the numbers. -/
theorem T.cov_vars {m : Nat} (t : T) : t.cov m = (t.vars []).all fun x => decide (0 ≤ x) && decide (x < (m : Int)) := by
  rw [Bool.eq_iff_iff, T.cov_vrs, List.all_eq_true]
  constructor
  · intro h x hx
    have := h x (T.mem_vars.1 hx)
    simp [this.1, this.2]
  · intro h x hx
    have := h x (T.mem_vars.2 hx)
    simpa using this
/-- Two increasing lists with the same members are one. -/
theorem up_ext : ∀ {l m : List Int}, l.Pairwise (· < ·) → m.Pairwise (· < ·) → (∀ x, x ∈ l ↔ x ∈ m) → l = m
  | [], [], _, _, _ => rfl
  | [], b :: s, _, _, h => by have := (h b).2 (by simp); simp at this
  | a :: r, [], _, _, h => by have := (h a).1 (by simp); simp at this
  | a :: r, b :: s, h1, h2, h => by
    have ha : ∀ x ∈ r, a < x := fun x hx => List.rel_of_pairwise_cons h1 hx
    have hb : ∀ x ∈ s, b < x := fun x hx => List.rel_of_pairwise_cons h2 hx
    have e : a = b := by
      rcases List.mem_cons.1 ((h a).1 (by simp)) with e | e
      · exact e
      · rcases List.mem_cons.1 ((h b).2 (by simp)) with e' | e'
        · exact e'.symm
        · have := ha _ e'
          have := hb _ e
          omega
    subst e
    refine congrArg (a :: ·) (up_ext (List.Pairwise.of_cons h1) (List.Pairwise.of_cons h2) (fun x => ⟨fun hx => ?_, fun hx => ?_⟩))
    · rcases List.mem_cons.1 ((h x).1 (List.mem_cons_of_mem _ hx)) with e | e
      · have := ha _ hx; omega
      · exact e
    · rcases List.mem_cons.1 ((h x).2 (List.mem_cons_of_mem _ hx)) with e | e
      · have := hb _ hx; omega
      · exact e
end Go.Proofs.YthgkgjbjiiedaaaGreatDoor
