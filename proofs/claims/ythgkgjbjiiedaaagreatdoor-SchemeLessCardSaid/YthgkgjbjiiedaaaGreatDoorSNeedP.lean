/-
  What is needed, on plain data: the visit in depth, and what it comes to.
-/
import Derived.Test.YthgkgjbjiiedaaaGreatDoorSVisit
import Derived.Test.YthgkgjbjiiedaaaGreatDoorGG
namespace Go.Proofs.YthgkgjbjiiedaaaGreatDoor
open Go.RowKit

def needStep (rec : Int → List Int → List Int) (st : List Int) (x : T) : List Int := if x.kind = 1 then rec x.num st else st
/-- The functions that are noted behind a call of need: a visit in depth, of so many functions at most. -/
def needF (s : Sc) : Nat → Int → List Int → List Int
  | 0, _, st => st
  | f + 1, n, st => if n ∈ st then st else match s.funs[n.toNat]? with
    | some g => (visitT (onStep (needStep (needF s f))) (st ++ [n]) 1 g.body).2
    | none => st ++ [n]
mutual
/-- The functions in a term, as they occur. -/
def T.callsIn : T → List Int
  | .mk k n l => (if k = 1 then [n] else []) ++ T.callsL l
def T.callsL : List T → List Int
  | [] => []
  | x :: r => x.callsIn ++ T.callsL r
end
def callAll (rec : Int → List Int → List Int) (st : List Int) (l : List Int) : List Int := l.foldl (fun a m => rec m a) st
mutual
theorem visit_calls (rec : Int → List Int → List Int) : ∀ (t : T) (st : List Int) (lvl : Nat), visitT (onStep (needStep rec)) st lvl t = (true, callAll rec st t.callsIn)
  | .mk k n l, st, lvl => by
    have h := visitL_calls rec l (needStep rec st (.mk k n l)) (lvl + 1)
    have hv : visitT (onStep (needStep rec)) st lvl (.mk k n l) = visitTL (onStep (needStep rec)) (needStep rec st (.mk k n l)) (lvl + 1) l := by simp [visitT, onStep]
    rw [hv, h]
    by_cases hk : k = 1
    · simp [needStep, T.kind, T.num, hk, T.callsIn, callAll]
    · simp [needStep, T.kind, hk, T.callsIn]
theorem visitL_calls (rec : Int → List Int → List Int) : ∀ (l : List T) (st : List Int) (lvl : Nat), visitTL (onStep (needStep rec)) st lvl l = (true, callAll rec st (T.callsL l))
  | [], st, lvl => by simp [visitTL, T.callsL, callAll]
  | x :: r, st, lvl => by
    have h := visit_calls rec x st lvl
    have hr := visitL_calls rec r (callAll rec st x.callsIn) lvl
    simp only [visitTL, h, if_true, hr]
    simp [T.callsL, callAll, List.foldl_append]
end
theorem needF_succ (s : Sc) (f : Nat) (n : Int) (st : List Int) : needF s (f + 1) n st = if n ∈ st then st else match s.funs[n.toNat]? with
    | some g => callAll (needF s f) (st ++ [n]) g.body.callsIn
    | none => st ++ [n] := by
  rw [needF]
  split
  · rfl
  · cases s.funs[n.toNat]? with
    | none => rfl
    | some g => simp only [visit_calls]
/-- Numbers of functions, each once. -/
def Rng (s : Sc) (st : List Int) : Prop := st.Nodup ∧ ∀ m ∈ st, 0 ≤ m ∧ m < (s.funs.length : Int)
theorem nodup_len : ∀ (N : Nat) (l : List Int), l.Nodup → (∀ m ∈ l, 0 ≤ m ∧ m < (N : Int)) → l.length ≤ N
  | 0, l, _, h => by
    cases l with
    | nil => simp
    | cons a r => have := h a (by simp); omega
  | N + 1, l, hn, h => by
    by_cases hm : (N : Int) ∈ l
    · have h1 := nodup_len N (l.erase (N : Int)) (hn.erase _) (fun m hme => by
        have h2 := (hn.mem_erase_iff).1 hme
        have h3 := h m h2.2
        have h4 := h2.1
        omega)
      have h2 := List.length_erase_of_mem hm
      omega
    · have := nodup_len N l hn (fun m hml => by
        have h3 := h m hml
        have h4 : m ≠ (N : Int) := fun e => hm (e ▸ hml)
        omega)
      omega
theorem Rng.snoc {s : Sc} {st : List Int} (h : Rng s st) {n : Int} (hn : n ∉ st) (h0 : 0 ≤ n) (h1 : n < (s.funs.length : Int)) : Rng s (st ++ [n]) := by
  refine ⟨List.nodup_append.2 ⟨h.1, by simp, fun a ha b hb e => ?_⟩, fun m hm => ?_⟩
  · rw [List.mem_singleton.1 hb] at e
    exact hn (e ▸ ha)
  · rcases List.mem_append.1 hm with hm | hm
    · exact h.2 m hm
    · rw [List.mem_singleton.1 hm]; exact ⟨h0, h1⟩
/-- What is called is there. -/
def Calls_ok (s : Sc) : Prop := ∀ g ∈ s.funs, ∀ m ∈ g.body.callsIn, 0 ≤ m ∧ m < (s.funs.length : Int)
theorem callAll_good {s : Sc} {rec : Int → List Int → List Int} (hrec : ∀ n st, Rng s st → 0 ≤ n → n < (s.funs.length : Int) → Rng s (rec n st) ∧ ∃ u, rec n st = st ++ u) :
    ∀ (l st : List Int), (∀ m ∈ l, 0 ≤ m ∧ m < (s.funs.length : Int)) → Rng s st → Rng s (callAll rec st l) ∧ ∃ u, callAll rec st l = st ++ u
  | [], st, _, h => ⟨h, [], by simp [callAll]⟩
  | c :: l, st, hl, h => by
    obtain ⟨h1, u1, e1⟩ := hrec c st h (hl c (by simp)).1 (hl c (by simp)).2
    obtain ⟨h2, u2, e2⟩ := callAll_good hrec l (rec c st) (fun m hm => hl m (by simp [hm])) h1
    have e : callAll rec st (c :: l) = callAll rec (rec c st) l := rfl
    rw [e]
    exact ⟨h2, u1 ++ u2, by rw [e2, e1, List.append_assoc]⟩
theorem needF_good {s : Sc} (hc : Calls_ok s) : ∀ (f : Nat) (n : Int) (st : List Int), Rng s st → 0 ≤ n → n < (s.funs.length : Int) → Rng s (needF s f n st) ∧ ∃ u, needF s f n st = st ++ u
  | 0, n, st, h, _, _ => ⟨h, [], by simp [needF]⟩
  | f + 1, n, st, h, h0, h1 => by
    rw [needF_succ]
    by_cases hn : n ∈ st
    · rw [if_pos hn]
      exact ⟨h, [], by simp⟩
    · rw [if_neg hn]
      have hx : s.funs[n.toNat]? = some (s.funs[n.toNat]'(by omega)) := List.getElem?_eq_getElem (by omega)
      rw [hx]
      simp only
      obtain ⟨g1, u, g2⟩ := callAll_good (needF_good hc f) _ _ (hc _ (List.getElem_mem (by omega : n.toNat < s.funs.length))) (h.snoc hn h0 h1)
      exact ⟨g1, [n] ++ u, by rw [g2, List.append_assoc]⟩
/-- Each of these has what it calls among them. -/
def ShutBut (s : Sc) (st R : List Int) : Prop := ∀ m ∈ R, m ∈ st ∨ ∀ g, s.funs[m.toNat]? = some g → ∀ c ∈ g.body.callsIn, c ∈ R
theorem callAll_shut {s : Sc} {rec : Int → List Int → List Int} (hrec : ∀ n st, Rng s st → 0 ≤ n → n < (s.funs.length : Int) → Rng s (rec n st) ∧ ∃ u, rec n st = st ++ u) {B : Nat}
    (hshut : ∀ n st, Rng s st → 0 ≤ n → n < (s.funs.length : Int) → B ≤ st.length → n ∈ rec n st ∧ ShutBut s st (rec n st)) :
    ∀ (l st : List Int), (∀ m ∈ l, 0 ≤ m ∧ m < (s.funs.length : Int)) → Rng s st → B ≤ st.length → (∀ c ∈ l, c ∈ callAll rec st l) ∧ ShutBut s st (callAll rec st l)
  | [], st, _, _, _ => ⟨by simp, fun m hm => .inl hm⟩
  | c :: l, st, hl, h, hB => by
    obtain ⟨h1, u1, e1⟩ := hrec c st h (hl c (by simp)).1 (hl c (by simp)).2
    obtain ⟨k1, k2⟩ := hshut c st h (hl c (by simp)).1 (hl c (by simp)).2 hB
    have hl' : ∀ m ∈ l, 0 ≤ m ∧ m < (s.funs.length : Int) := fun m hm => hl m (by simp [hm])
    obtain ⟨h2, u2, e2⟩ := callAll_good hrec l (rec c st) hl' h1
    obtain ⟨j1, j2⟩ := callAll_shut hrec hshut l (rec c st) hl' h1 (by rw [e1, List.length_append]; omega)
    have e : callAll rec st (c :: l) = callAll rec (rec c st) l := rfl
    rw [e]
    have hsub : ∀ m ∈ rec c st, m ∈ callAll rec (rec c st) l := fun m hm => by rw [e2]; exact List.mem_append_left _ hm
    refine ⟨fun d hd => ?_, fun m hm => ?_⟩
    · rcases List.mem_cons.1 hd with rfl | hd
      · exact hsub _ k1
      · exact j1 d hd
    · rcases j2 m hm with g1 | g1
      · rcases k2 m g1 with g2 | g2
        · exact .inl g2
        · exact .inr (fun g hg d hd => hsub _ (g2 g hg d hd))
      · exact .inr g1
theorem needF_shut {s : Sc} (hc : Calls_ok s) : ∀ (f : Nat) (n : Int) (st : List Int), Rng s st → 0 ≤ n → n < (s.funs.length : Int) → s.funs.length < f + st.length → n ∈ needF s f n st ∧ ShutBut s st (needF s f n st)
  | 0, n, st, h, h0, h1, hf => by
    have := nodup_len _ _ h.1 h.2
    omega
  | f + 1, n, st, h, h0, h1, hf => by
    rw [needF_succ]
    by_cases hn : n ∈ st
    · rw [if_pos hn]
      exact ⟨hn, fun m hm => .inl hm⟩
    · rw [if_neg hn]
      have hx : s.funs[n.toNat]? = some (s.funs[n.toNat]'(by omega)) := List.getElem?_eq_getElem (by omega)
      rw [hx]
      simp only
      have hr := h.snoc hn h0 h1
      have hcs := hc _ (List.getElem_mem (by omega : n.toNat < s.funs.length))
      obtain ⟨g1, u, g2⟩ := callAll_good (needF_good hc f) _ _ hcs hr
      obtain ⟨k1, k2⟩ := callAll_shut (B := st.length + 1) (needF_good hc f) (fun m st' a b c d => needF_shut hc f m st' a b c (by omega)) _ _ hcs hr (by simp)
      refine ⟨by rw [g2]; simp, fun m hm => ?_⟩
      rcases k2 m hm with j | j
      · rcases List.mem_append.1 j with j | j
        · exact .inl j
        · right
          rw [List.mem_singleton.1 j]
          intro g hg c hcc
          rw [hx] at hg
          cases hg
          exact k1 c hcc
      · exact .inr j
theorem callAll_least {X : Int → Prop} {rec : Int → List Int → List Int} (hrec : ∀ n st, X n → (∀ m ∈ st, X m) → ∀ m ∈ rec n st, X m) : ∀ (l st : List Int), (∀ m ∈ l, X m) → (∀ m ∈ st, X m) → ∀ m ∈ callAll rec st l, X m
  | [], _, _, h => h
  | c :: l, st, hl, h => callAll_least hrec l (rec c st) (fun m hm => hl m (by simp [hm])) (hrec c st (hl c (by simp)) h)
theorem needF_least {s : Sc} {X : Int → Prop} (hX : ∀ m, X m → ∀ g, s.funs[m.toNat]? = some g → ∀ c ∈ g.body.callsIn, X c) : ∀ (f : Nat) (n : Int) (st : List Int), X n → (∀ m ∈ st, X m) → ∀ m ∈ needF s f n st, X m
  | 0, _, _, _, h => h
  | f + 1, n, st, hn, h => by
    rw [needF_succ]
    have h1 : ∀ m ∈ st ++ [n], X m := fun m hm => by
      rcases List.mem_append.1 hm with hm | hm
      · exact h m hm
      · rw [List.mem_singleton.1 hm]; exact hn
    split
    · exact h
    · cases hg : s.funs[n.toNat]? with
      | none => exact h1
      | some g => exact callAll_least (needF_least hX f) _ _ (hX n hn g hg) h1
/-- The functions that are needed. -/
def Sc.need (s : Sc) : List Int := needF s (s.funs.length + 1) 0 []
/-- Their numbers, in increasing order. -/
def Sc.reachL (s : Sc) : List Int := ((List.range s.funs.length).filter fun i : Nat => decide ((i : Int) ∈ s.need)).map fun i : Nat => (i : Int)
theorem reachL_up (s : Sc) : s.reachL.Pairwise (· < ·) := by
  unfold Sc.reachL
  rw [List.pairwise_map]
  exact (List.pairwise_lt_range.filter _).imp (fun h => by omega)
theorem reachL_mem {s : Sc} (hc : Calls_ok s) (h1 : 1 ≤ s.funs.length) (x : Int) : x ∈ s.reachL ↔ x ∈ s.need := by
  have hg := (needF_good hc (s.funs.length + 1) 0 [] ⟨by simp, by simp⟩ (by omega) (by omega)).1
  unfold Sc.reachL
  simp only [List.mem_map, List.mem_filter, List.mem_range, decide_eq_true_eq]
  constructor
  · rintro ⟨i, ⟨_, h2⟩, rfl⟩; exact h2
  · intro hx
    obtain ⟨h2, h3⟩ := hg.2 x hx
    exact ⟨x.toNat, ⟨by omega, by rw [Int.toNat_of_nonneg h2]; exact hx⟩, Int.toNat_of_nonneg h2⟩
theorem need_start {s : Sc} (hc : Calls_ok s) (h1 : 1 ≤ s.funs.length) : (0 : Int) ∈ s.need ∧ ∀ m ∈ s.need, ∀ g, s.funs[m.toNat]? = some g → ∀ c ∈ g.body.callsIn, c ∈ s.need := by
  obtain ⟨h2, h3⟩ := needF_shut hc (s.funs.length + 1) 0 [] ⟨by simp, by simp⟩ (by omega) (by omega) (by simp)
  refine ⟨h2, fun m hm => ?_⟩
  rcases h3 m hm with h | h
  · cases h
  · exact h
theorem need_least {s : Sc} {X : Int → Prop} (h0 : X 0) (hX : ∀ m, X m → ∀ g, s.funs[m.toNat]? = some g → ∀ c ∈ g.body.callsIn, X c) : ∀ m ∈ s.need, X m := needF_least hX _ _ _ h0 (by simp)
mutual
theorem T.calls_heads {a b c : Nat} : ∀ (t : T), t.heads a b c = true → ∀ m ∈ t.callsIn, 0 ≤ m ∧ m < (b : Int)
  | .mk k n l, h, m, hm => by
    simp only [T.heads, Bool.and_eq_true] at h
    simp only [T.callsIn, List.mem_append] at hm
    rcases hm with hm | hm
    · by_cases hk : k = 1
      · rw [if_pos hk, List.mem_singleton] at hm
        subst hm
        have h1 := h.1
        simp only [headOk, Bool.and_eq_true, Bool.or_eq_true, decide_eq_true_eq] at h1
        omega
      · rw [if_neg hk] at hm; cases hm
    · exact T.callsL_heads l h.2 m hm
theorem T.callsL_heads {a b c : Nat} : ∀ (l : List T), T.headsL a b c l = true → ∀ m ∈ T.callsL l, 0 ≤ m ∧ m < (b : Int)
  | [], _, m, hm => by simp [T.callsL] at hm
  | x :: r, h, m, hm => by
    simp only [T.headsL, Bool.and_eq_true] at h
    simp only [T.callsL, List.mem_append] at hm
    rcases hm with hm | hm
    · exact T.calls_heads x h.1 m hm
    · exact T.callsL_heads r h.2 m hm
end
end Go.Proofs.YthgkgjbjiiedaaaGreatDoor
