/-
  Layer 5, the plain part: closed terms of the sort o, the term behind a step, a run.
-/
import Derived.Test.YtbbejhhohppdhaaGreatDoorJOpn
import Derived.Test.YtbbejhhohppdhaaGreatDoorGL
namespace Go.Proofs.YtbbejhhohppdhaaGreatDoor
open Go.RowKit

theorem pickH_some {l0 l1 l2 : List S} {k n : Int} {s : S} (h : pickH l0 l1 l2 k n = some s) : 0 ≤ n ∧ ((k = 0 ∧ l0[n.toNat]? = some s) ∨ (k = 1 ∧ l1[n.toNat]? = some s) ∨ (k = 2 ∧ l2[n.toNat]? = some s)) := by
  unfold pickH at h
  split at h
  · cases h
  · refine ⟨by omega, ?_⟩
    split at h
    · exact .inl ⟨by assumption, h⟩
    · split at h
      · exact .inr (.inl ⟨by assumption, h⟩)
      · split at h
        · exact .inr (.inr ⟨by assumption, h⟩)
        · cases h
theorem pickH_not {l0 l0' l1 l2 : List S} {k n : Int} (h : k ≠ 0) : pickH l0 l1 l2 k n = pickH l0' l1 l2 k n := by
  unfold pickH
  rw [if_neg h, if_neg h]
theorem pickH_nil {l1 l2 : List S} {n : Int} : pickH [] l1 l2 0 n = none := by
  unfold pickH
  split <;> simp
theorem T.ty_some {pick : Int → Int → Option S} {k n : Int} {l : List T} {x : S} (h : (T.mk k n l).ty pick = some x) : ∃ s, pick k n = some s ∧ T.tyL pick l s.args = true ∧ x = .mk (s.args.drop l.length) := by
  simp only [T.ty] at h
  split at h
  · cases h
  · rename_i s hs
    split at h
    · rename_i h2
      cases h
      exact ⟨s, hs, h2, rfl⟩
    · cases h
theorem T.tyL_cons {pick : Int → Int → Option S} {x : T} {r : List T} {q : List S} (h : T.tyL pick (x :: r) q = true) : ∃ a q', q = a :: q' ∧ x.ty pick = some a ∧ T.tyL pick r q' = true := by
  cases q with
  | nil => simp [T.tyL] at h
  | cons a q' =>
    simp only [T.tyL, Bool.and_eq_true] at h
    obtain ⟨h1, h2⟩ := h
    refine ⟨a, q', rfl, ?_, h2⟩
    cases hx : x.ty pick with
    | none => rw [hx] at h1; simp at h1
    | some y => rw [hx] at h1; simp only at h1; rw [(S.eqb_iff y a).1 h1]
theorem T.tyL_mk {pick : Int → Int → Option S} {x : T} {r : List T} {a : S} {q : List S} (h1 : x.ty pick = some a) (h2 : T.tyL pick r q = true) : T.tyL pick (x :: r) (a :: q) = true := by
  simp only [T.tyL, h1, h2, Bool.and_true]
  exact (S.eqb_iff a a).2 rfl
theorem T.tyL_append {pick : Int → Int → Option S} {b : List T} : ∀ {a : List T} {q : List S}, T.tyL pick a q = true → T.tyL pick b (q.drop a.length) = true → T.tyL pick (a ++ b) q = true
  | [], q, _, h => by simpa using h
  | x :: r, q, h, h2 => by
    obtain ⟨c, q', rfl, h3, h4⟩ := T.tyL_cons h
    exact T.tyL_mk h3 (T.tyL_append h4 (by simpa using h2))
theorem T.tyL_get {pick : Int → Int → Option S} : ∀ {l : List T} {q : List S} {j : Nat} {s : S}, T.tyL pick l q = true → l.length = q.length → q[j]? = some s → ∃ x, l[j]? = some x ∧ x.ty pick = some s
  | [], [], j, s, _, _, hs => by simp at hs
  | [], a :: q, j, s, _, hl, hs => by simp at hl
  | x :: r, q, j, s, h, hl, hs => by
    obtain ⟨a, q', rfl, h3, h4⟩ := T.tyL_cons h
    cases j with
    | zero => simp at hs; subst hs; exact ⟨x, rfl, h3⟩
    | succ j => exact T.tyL_get (j := j) h4 (by simpa using hl) (by simpa using hs)
mutual
/-- A substitution keeps sorts. -/
theorem T.ty_sub {ps l1 l2 : List S} {gs : List T} (hg : T.tyL (pickH [] l1 l2) gs ps = true) (hl : gs.length = ps.length) : ∀ (t : T) (x : S), t.ty (pickH ps l1 l2) = some x → (t.sub gs).ty (pickH [] l1 l2) = some x
  | .mk k n l, x, h => by
    obtain ⟨s, h1, h2, rfl⟩ := T.ty_some h
    have hr := T.tyL_sub hg hl l s.args h2
    have hlen : (T.subL gs l).length = l.length := by rw [T.subL_map]; simp
    by_cases hk : k = 0
    · subst hk
      obtain ⟨hn, h3⟩ := pickH_some h1
      have h3 : ps[n.toNat]? = some s := by rcases h3 with h3 | h3 | h3 <;> first | exact h3.2 | omega
      obtain ⟨y, hy, hty⟩ := T.tyL_get hg hl h3
      have hh : T.head gs 0 n = y := T.head_var (j := n.toNat) (by omega) hy
      simp only [T.sub, hh]
      obtain ⟨k', n', l'⟩ := y
      obtain ⟨s', g1, g2, rfl⟩ := T.ty_some hty
      simp only [T.kind, T.num, T.args]
      simp only [T.ty, g1]
      rw [if_pos (T.tyL_append g2 (by simpa [S.args] using hr))]
      simp [S.args, hlen, List.drop_drop]
    · simp only [T.sub, T.head_not hk, T.kind, T.num, T.args, List.nil_append, T.ty, pickH_not (l0' := ps) hk, h1, hr, hlen, if_true]
theorem T.tyL_sub {ps l1 l2 : List S} {gs : List T} (hg : T.tyL (pickH [] l1 l2) gs ps = true) (hl : gs.length = ps.length) : ∀ (l : List T) (q : List S), T.tyL (pickH ps l1 l2) l q = true → T.tyL (pickH [] l1 l2) (T.subL gs l) q = true
  | [], _, _ => rfl
  | x :: r, q, h => by
    obtain ⟨a, q', rfl, h3, h4⟩ := T.tyL_cons h
    exact T.tyL_mk (T.ty_sub hg hl x a h3) (T.tyL_sub hg hl r q' h4)
end
mutual
theorem T.ty_shut {l1 l2 : List S} : ∀ (t : T) (x : S), t.ty (pickH [] l1 l2) = some x → t.opn = false
  | .mk k n l, x, h => by
    obtain ⟨s, h1, h2, _⟩ := T.ty_some h
    have hr := T.tyL_shut l s.args h2
    by_cases hk : k = 0
    · subst hk; rw [pickH_nil] at h1; cases h1
    · simp [T.opn, hk, hr]
theorem T.tyL_shut {l1 l2 : List S} : ∀ (l : List T) (q : List S), T.tyL (pickH [] l1 l2) l q = true → T.opnL l = false
  | [], _, _ => rfl
  | x :: r, q, h => by
    obtain ⟨a, q', rfl, h3, h4⟩ := T.tyL_cons h
    simp [T.opnL, T.ty_shut x a h3, T.tyL_shut r q' h4]
end
mutual
theorem T.ty_cov {ps l1 l2 : List S} : ∀ (t : T) (x : S), t.ty (pickH ps l1 l2) = some x → t.cov ps.length = true
  | .mk k n l, x, h => by
    obtain ⟨s, h1, h2, _⟩ := T.ty_some h
    have hr := T.tyL_cov l s.args h2
    obtain ⟨hn, h3⟩ := pickH_some h1
    simp only [T.cov, hr, Bool.and_true, cov1, Bool.or_eq_true, Bool.and_eq_true, decide_eq_true_eq]
    rcases h3 with ⟨_, h3⟩ | ⟨rfl, _⟩ | ⟨rfl, _⟩
    · have := (List.getElem?_eq_some_iff.1 h3).1
      exact .inr ⟨hn, by omega⟩
    · exact .inl (by decide)
    · exact .inl (by decide)
theorem T.tyL_cov {ps l1 l2 : List S} : ∀ (l : List T) (q : List S), T.tyL (pickH ps l1 l2) l q = true → T.covL ps.length l = true
  | [], _, _ => rfl
  | x :: r, q, h => by
    obtain ⟨a, q', rfl, h3, h4⟩ := T.tyL_cons h
    simp [T.covL, T.ty_cov x a h3, T.tyL_cov r q' h4]
end

/-- The place of closed terms. -/
def Sc.pl0 (s : Sc) : Pl := ⟨s.syms, s.sorts, []⟩
/-- A closed term of the sort o. -/
def Sc.closed (s : Sc) (t : T) : Bool := match t.ty s.pl0.pick with | some x => x.args.isEmpty | none => false
def Sc.body (s : Sc) (n : Int) : T := ((s.funs[n.toNat]?).map Fn.body).getD (.mk 0 0 [])
/-- The term behind a step. -/
def Sc.next (s : Sc) (t : T) : T := (s.body t.num).sub t.args
theorem Sc.pick0 (s : Sc) : s.pl0.pick = pickH [] s.sorts (s.syms.map symS) := rfl
theorem Sc.pickF (s : Sc) (f : Fn) : (s.pl f).pick = pickH f.sort.args s.sorts (s.syms.map symS) := rfl
theorem Sc.closed_ty {s : Sc} {t : T} (h : s.closed t = true) : t.ty s.pl0.pick = some (.mk []) := by
  unfold Sc.closed at h
  split at h
  · rename_i x hx
    obtain ⟨l⟩ := x
    rw [hx]
    simp only [S.args, List.isEmpty_iff] at h
    rw [h]
  · cases h
theorem Sc.ty_closed {s : Sc} {t : T} (h : t.ty s.pl0.pick = some (.mk [])) : s.closed t = true := by
  unfold Sc.closed
  rw [h]
  rfl
theorem Sc.typed_ty {s : Sc} {f : Fn} (h : s.typed f = true) : f.body.ty (s.pl f).pick = some (.mk []) := by
  unfold Sc.typed at h
  split at h
  · rename_i x hx
    obtain ⟨l⟩ := x
    rw [hx]
    simp only [S.args, List.isEmpty_iff] at h
    rw [h]
  · cases h
theorem Sc.ok_fn {s : Sc} (h : s.ok = true) {f : Fn} (hf : f ∈ s.funs) : f.sort.ok = true ∧ f.body.count ≤ 400 ∧ f.body.deep ≤ 30 ∧ s.typed f = true := by
  rw [← sayOk_ok] at h
  simp only [Sc.sayOk, Bool.and_eq_true, decide_eq_true_eq, goodFrom_iff, List.all_eq_true] at h
  obtain ⟨_, _, _, ⟨_, h5⟩, _, h7⟩ := h
  exact ⟨(h5 f hf).1, (h5 f hf).2.1, (h5 f hf).2.2, h7 f hf⟩
theorem Sc.ok_size {s : Sc} (h : s.ok = true) : 1 ≤ s.funs.length ∧ s.funs.length ≤ 64 := by
  simp only [Sc.ok, Bool.and_eq_true, decide_eq_true_eq] at h
  exact ⟨h.1, h.2.1⟩
theorem Sc.ok_pl0 {s : Sc} (h : s.ok = true) : s.pl0.ok = true := by
  have hn := (Sc.ok_size h).2
  have ho := fun f hf => (Sc.ok_fn h (f := f) hf).1
  rw [← sayOk_ok] at h
  simp only [Sc.sayOk, Bool.and_eq_true] at h
  simp only [Pl.ok, Sc.pl0, Bool.and_eq_true]
  refine ⟨h.1, ?_, by simp [sortsB]⟩
  simp only [sortsB, Sc.sorts, List.length_map, Bool.and_eq_true, decide_eq_true_eq, List.all_eq_true, List.mem_map]
  exact ⟨hn, fun x ⟨g, hg, e⟩ => e ▸ ho g hg⟩
/-- What is known of a closed term: a symbol's, or a function's with all of its arguments. -/
theorem Sc.closed_head {s : Sc} {t : T} (h : s.closed t = true) : t.opn = false ∧ 0 ≤ t.num ∧
    ((t.kind = 2 ∧ t.num.toNat < s.syms.length) ∨ (t.kind = 1 ∧ ∃ f, s.funs[t.num.toNat]? = some f ∧ t.args.length = f.sort.args.length ∧ T.tyL s.pl0.pick t.args f.sort.args = true)) := by
  have hty := Sc.closed_ty h
  rw [Sc.pick0] at hty ⊢
  refine ⟨T.ty_shut t _ hty, ?_⟩
  obtain ⟨k, n, l⟩ := t
  obtain ⟨x, h1, h2, h3⟩ := T.ty_some hty
  obtain ⟨hn, h4⟩ := pickH_some h1
  simp only [T.kind, T.num, T.args]
  refine ⟨hn, ?_⟩
  rcases h4 with ⟨_, h4⟩ | ⟨rfl, h4⟩ | ⟨rfl, h4⟩
  · simp at h4
  · right
    refine ⟨rfl, ?_⟩
    simp only [Sc.sorts, List.getElem?_map] at h4
    cases hf : s.funs[n.toNat]? with
    | none => rw [hf] at h4; simp at h4
    | some f =>
      rw [hf] at h4
      simp at h4
      subst h4
      refine ⟨f, rfl, ?_, h2⟩
      have h5 : List.drop l.length f.sort.args = [] := by injection h3 with h3; exact h3.symm
      have h6 := T.tyL_len h2
      have h7 : f.sort.args.length ≤ l.length := by
        have := congrArg List.length h5
        simp at this; omega
      omega
  · left
    refine ⟨rfl, ?_⟩
    have := (List.getElem?_eq_some_iff.1 h4).1
    simpa using this
theorem Sc.body_at {s : Sc} {n : Int} {f : Fn} (h : s.funs[n.toNat]? = some f) : s.body n = f.body := by simp [Sc.body, h]
/-- What a step needs, and that behind it the term is closed again. -/
theorem Sc.step_facts {s : Sc} (hs : s.ok = true) {t : T} (h : s.closed t = true) (hk : t.kind = 1) :
    ∃ f, s.funs[t.num.toNat]? = some f ∧ s.body t.num = f.body ∧ (s.body t.num).count ≤ 400 ∧ (s.body t.num).cov t.args.length = true ∧ T.opnL t.args = false ∧ s.closed (s.next t) = true := by
  obtain ⟨_, _, h3⟩ := Sc.closed_head h
  rcases h3 with ⟨h3, _⟩ | ⟨_, f, hf, hl, hty⟩
  · omega
  · have hmem : f ∈ s.funs := List.mem_of_getElem? hf
    obtain ⟨_, hc, _, ht⟩ := Sc.ok_fn hs hmem
    have hb := Sc.body_at hf
    have hbt := Sc.typed_ty ht
    rw [Sc.pickF] at hbt
    rw [Sc.pick0] at hty
    refine ⟨f, hf, hb, by rw [hb]; exact hc, by rw [hb, hl]; exact T.ty_cov _ _ hbt, T.tyL_shut _ _ hty, ?_⟩
    refine Sc.ty_closed ?_
    rw [Sc.next, hb, Sc.pick0]
    exact T.ty_sub hty hl _ _ hbt
theorem Sc.done_iff {s : Sc} {t : T} (h : s.closed t = true) : t.kind = 2 ↔ t.kind ≠ 1 := by
  obtain ⟨_, _, h3⟩ := Sc.closed_head h
  rcases h3 with ⟨h3, _⟩ | ⟨h3, _⟩ <;> omega

/-- What Check returns. -/
def Sc.chk (s : Sc) (t : T) : Int := if s.ok = true then (if t.large = true then 3 else if s.closed t = true then 0 else 6) else 7
theorem Sc.chk_ok {s : Sc} {t : T} : s.chk t = 0 ↔ s.ok = true ∧ t.count ≤ 100000 ∧ s.closed t = true := by
  unfold Sc.chk T.large
  constructor
  · intro h
    split at h
    · split at h
      · cases h
      · split at h
        · rename_i h1 h2 h3
          exact ⟨h1, by simpa using h2, h3⟩
        · cases h
    · cases h
  · rintro ⟨h1, h2, h3⟩
    rw [if_pos h1, if_neg (by simpa using h2), if_pos h3]
/-- What Step returns for a term that Check accepts. -/
def Sc.stE (s : Sc) (t : T) : Int := if t.kind = 1 ∧ 100000 < (s.next t).count then 3 else 0
def Sc.stB (s : Sc) (t : T) : Bool := decide (t.kind = 1) && decide ((s.next t).count ≤ 100000)
def Sc.stT (s : Sc) (t : T) : T := if t.kind = 1 then (if (s.next t).count ≤ 100000 then s.next t else .mk 0 0 []) else t
/-- A run with fuel: the functions that are replaced, the last term, the error. -/
def Sc.go (s : Sc) : Nat → T → List Int × T × Int
  | 0, t => ([], t, if t.kind = 1 then 8 else 0)
  | n + 1, t => if t.kind = 1 then (if (s.next t).count ≤ 100000 then (t.num :: (s.go n (s.next t)).1, (s.go n (s.next t)).2) else ([], t, 3)) else ([], t, 0)
/-- Valid, and small. -/
def Sc.fine (s : Sc) (t : T) : Prop := s.closed t = true ∧ t.count ≤ 100000
theorem Sc.fine_next {s : Sc} (hs : s.ok = true) {t : T} (h : s.fine t) (hk : t.kind = 1) (hc : (s.next t).count ≤ 100000) : s.fine (s.next t) := by
  obtain ⟨f, _, _, _, _, _, h2⟩ := Sc.step_facts hs h.1 hk
  exact ⟨h2, hc⟩
theorem Sc.go_fine {s : Sc} (hs : s.ok = true) : ∀ (n : Nat) (t : T), s.fine t → s.fine (s.go n t).2.1 ∧ (s.go n t).1.length ≤ n ∧ ((s.go n t).2.2 = 0 → (s.go n t).2.1.kind = 2) ∧ ((s.go n t).2.2 = 0 ∨ (s.go n t).2.2 = 3 ∨ ((s.go n t).2.2 = 8 ∧ (s.go n t).1.length = n))
  | 0, t, h => by
    simp only [Sc.go]
    refine ⟨h, Nat.le_refl _, ?_, ?_⟩
    · intro e
      split at e
      · cases e
      · exact (Sc.done_iff h.1).2 (by assumption)
    · split
      · exact .inr (.inr ⟨rfl, rfl⟩)
      · exact .inl rfl
  | n + 1, t, h => by
    rw [Sc.go]
    split
    · rename_i hk
      split
      · rename_i hc
        obtain ⟨h1, h2, h3, h4⟩ := Sc.go_fine hs n _ (Sc.fine_next hs h hk hc)
        refine ⟨h1, by simpa using h2, h3, ?_⟩
        rcases h4 with h4 | h4 | h4
        · exact .inl h4
        · exact .inr (.inl h4)
        · exact .inr (.inr ⟨h4.1, by simpa using h4.2⟩)
      · exact ⟨h, by simp, by simp, .inr (.inl rfl)⟩
    · rename_i hk
      exact ⟨h, by simp, fun _ => (Sc.done_iff h.1).2 hk, .inl rfl⟩
/-- One more step at the end of a run. -/
theorem Sc.go_snoc {s : Sc} : ∀ (n : Nat) (t : T), s.go (n + 1) t = (if (s.go n t).2.2 = 8 then (if (s.next (s.go n t).2.1).count ≤ 100000 then ((s.go n t).1 ++ [(s.go n t).2.1.num], s.next (s.go n t).2.1, if (s.next (s.go n t).2.1).kind = 1 then 8 else 0) else ((s.go n t).1, (s.go n t).2.1, 3)) else s.go n t)
  | 0, t => by
    by_cases hk : t.kind = 1
    · simp [Sc.go, hk]
    · simp [Sc.go, hk]
  | n + 1, t => by
    rw [Sc.go]
    by_cases hk : t.kind = 1
    · by_cases hc : (s.next t).count ≤ 100000
      · rw [if_pos hk, if_pos hc, Sc.go_snoc n (s.next t)]
        have e : s.go (n + 1) t = (t.num :: (s.go n (s.next t)).1, (s.go n (s.next t)).2) := by rw [Sc.go, if_pos hk, if_pos hc]
        rw [e]
        simp only
        by_cases h8 : (s.go n (s.next t)).2.2 = 8
        · rw [if_pos h8, if_pos h8]
          by_cases h9 : (s.next (s.go n (s.next t)).2.1).count ≤ 100000
          · rw [if_pos h9, if_pos h9]; rfl
          · rw [if_neg h9, if_neg h9]
        · rw [if_neg h8, if_neg h8]
      · have e : s.go (n + 1) t = ([], t, 3) := by rw [Sc.go, if_pos hk, if_neg hc]
        rw [if_pos hk, if_neg hc, e]
        simp
    · have e : s.go (n + 1) t = ([], t, 0) := by rw [Sc.go, if_neg hk]
      rw [if_neg hk, e]
      simp
theorem Sc.go_kind {s : Sc} : ∀ (n : Nat) (t : T), (s.go n t).2.2 = 8 → (s.go n t).2.1.kind = 1
  | 0, t, h => by
    simp only [Sc.go] at h ⊢
    split at h
    · assumption
    · cases h
  | n + 1, t, h => by
    rw [Sc.go] at h ⊢
    by_cases hk : t.kind = 1
    · by_cases hc : (s.next t).count ≤ 100000
      · rw [if_pos hk, if_pos hc] at h ⊢
        exact Sc.go_kind n _ h
      · rw [if_pos hk, if_neg hc] at h
        cases h
    · rw [if_neg hk] at h
      cases h
end Go.Proofs.YtbbejhhohppdhaaGreatDoor
