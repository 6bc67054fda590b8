/-
  What Subst's visits find, on plain terms.
-/
import Derived.Test.YtmggccgjhjknpaaTSub
namespace Go.Proofs.Ytmggccgjhjknpaa

def stepCov (m : Nat) (_ : Unit) (x : T) (_ : Nat) : Bool × Unit := (cov1 m x.kind x.num, ())
mutual
theorem visitT_cov (m : Nat) : ∀ (t : T) (st : Unit) (lvl : Nat), (visitT (stepCov m) st lvl t).1 = t.cov m
  | .mk k n l, st, lvl => by
    have h := visitTL_cov m l () (lvl + 1)
    by_cases hc : cov1 m k n = true
    · have hv : visitT (stepCov m) st lvl (.mk k n l) = visitTL (stepCov m) () (lvl + 1) l := by simp [visitT, stepCov, T.kind, T.num, hc]
      rw [hv, h]; simp [T.cov, hc]
    · have hv : visitT (stepCov m) st lvl (.mk k n l) = (false, ()) := by simp [visitT, stepCov, T.kind, T.num, hc]
      rw [hv]; simp [T.cov, hc]
theorem visitTL_cov (m : Nat) : ∀ (l : List T) (st : Unit) (lvl : Nat), (visitTL (stepCov m) st lvl l).1 = T.covL m l
  | [], st, lvl => by simp [visitTL, T.covL]
  | x :: r, st, lvl => by
    have h := visitT_cov m x st lvl
    have hr := visitTL_cov m r (visitT (stepCov m) st lvl x).2 lvl
    simp only [visitTL, T.covL]
    by_cases hc : (visitT (stepCov m) st lvl x).1 = true
    · rw [if_pos hc, hr, ← h, hc, Bool.true_and]
    · have hc' := Bool.eq_false_iff.2 hc
      rw [if_neg hc, ← h, hc', Bool.false_and]
end

/-- The nodes that a head comes to. -/
def T.hsz (gs : List T) (x : T) : Nat := (T.head gs x.kind x.num).count
def stepFit (gs : List T) (st : Nat) (x : T) (_ : Nat) : Bool × Nat := (decide (st + T.hsz gs x ≤ 100000), st + T.hsz gs x)
mutual
theorem visitT_fit (gs : List T) : ∀ (t : T) (st : Nat) (lvl : Nat), (visitT (stepFit gs) st lvl t).1 = decide (st + (t.sub gs).count ≤ 100000) ∧
    ((visitT (stepFit gs) st lvl t).1 = true → (visitT (stepFit gs) st lvl t).2 = st + (t.sub gs).count)
  | .mk k n l, st, lvl => by
    have hz : T.hsz gs (.mk k n l) = (T.head gs k n).count := rfl
    rw [T.count_sub]
    by_cases hc : st + T.hsz gs (.mk k n l) ≤ 100000
    · have h := visitTL_fit gs l (st + T.hsz gs (.mk k n l)) (lvl + 1) hc
      have hv : visitT (stepFit gs) st lvl (.mk k n l) = visitTL (stepFit gs) (st + T.hsz gs (.mk k n l)) (lvl + 1) l := by simp [visitT, stepFit, hc]
      rw [hv]
      refine ⟨h.1.trans (decide_eq_decide.2 (by omega)), fun ht => ?_⟩
      rw [h.2 ht]; omega
    · have hv : visitT (stepFit gs) st lvl (.mk k n l) = (false, st + T.hsz gs (.mk k n l)) := by simp [visitT, stepFit, hc]
      rw [hv]
      refine ⟨?_, fun ht => by cases ht⟩
      have : ¬ st + ((T.head gs k n).count + T.countL (T.subL gs l)) ≤ 100000 := by omega
      simp [this]
theorem visitTL_fit (gs : List T) : ∀ (l : List T) (st : Nat) (lvl : Nat), st ≤ 100000 → (visitTL (stepFit gs) st lvl l).1 = decide (st + T.countL (T.subL gs l) ≤ 100000) ∧
    ((visitTL (stepFit gs) st lvl l).1 = true → (visitTL (stepFit gs) st lvl l).2 = st + T.countL (T.subL gs l))
  | [], st, lvl, h1 => by
    simp only [visitTL, T.subL, T.countL]
    exact ⟨by simp [h1], fun _ => by omega⟩
  | x :: r, st, lvl, h1 => by
    have h := visitT_fit gs x st lvl
    by_cases hb : (visitT (stepFit gs) st lvl x).1 = true
    · have hs := h.2 hb
      have hb0 := hb
      rw [h.1] at hb
      have hb' : st + (x.sub gs).count ≤ 100000 := by simpa using hb
      have hr := visitTL_fit gs r (st + (x.sub gs).count) lvl hb'
      have hv : visitTL (stepFit gs) st lvl (x :: r) = visitTL (stepFit gs) (st + (x.sub gs).count) lvl r := by
        simp only [visitTL]; rw [if_pos hb0, hs]
      rw [hv]
      refine ⟨hr.1.trans (decide_eq_decide.2 (by simp only [T.subL, T.countL]; omega)), fun ht => ?_⟩
      rw [hr.2 ht]
      simp only [T.subL, T.countL]; omega
    · have hb2 : (visitT (stepFit gs) st lvl x).1 = false := by simpa using hb
      have hv : visitTL (stepFit gs) st lvl (x :: r) = (false, (visitT (stepFit gs) st lvl x).2) := by simp [visitTL, hb2]
      rw [hv]
      rw [h.1] at hb2
      have hb' : ¬ st + (x.sub gs).count ≤ 100000 := by simpa using hb2
      refine ⟨?_, fun ht => by cases ht⟩
      have : ¬ st + T.countL (T.subL gs (x :: r)) ≤ 100000 := by simp only [T.subL, T.countL]; omega
      simp [this]
end
theorem fitOk (gs : List T) (st : Nat) (k n : Int) (l : List T) (lvl : Nat) (h : st ≤ 100000 ∧ (T.mk k n l).cov gs.length = true ∧ lvl + (T.mk k n l).deep ≤ 1000000) :
    lvl ≤ 1000000 ∧ ((stepFit gs st (.mk k n l) lvl).1 = true → ∀ j x, l[j]? = some x → (visitTL (stepFit gs) (stepFit gs st (.mk k n l) lvl).2 (lvl + 1) (l.take j)).1 = true →
      (visitTL (stepFit gs) (stepFit gs st (.mk k n l) lvl).2 (lvl + 1) (l.take j)).2 ≤ 100000 ∧ x.cov gs.length = true ∧ lvl + 1 + x.deep ≤ 1000000) := by
  obtain ⟨h1, h2, h3⟩ := h
  simp only [T.deep] at h3
  simp only [T.cov, Bool.and_eq_true] at h2
  refine ⟨by omega, fun hs j x hx ht => ?_⟩
  have hs' : (stepFit gs st (.mk k n l) lvl).2 ≤ 100000 := by simpa [stepFit] using hs
  have hr := visitTL_fit gs (l.take j) (stepFit gs st (.mk k n l) lvl).2 (lvl + 1) hs'
  have hr1 := hr.1
  rw [ht] at hr1
  rw [hr.2 ht]
  have hd1 := T.deepL_take_succ l j x hx
  have hd2 := T.deepL_take_le l (j + 1)
  exact ⟨by simpa using hr1.symm, T.covL_at h2.2 hx, by omega⟩
end Go.Proofs.Ytmggccgjhjknpaa
