/-
  A scheme without the functions that are not needed, on plain data.
-/
import Derived.Test.YthgkgjbjiiedaaaGreatDoorSReach
import Derived.Test.YthgkgjbjiiedaaaGreatDoorGL
namespace Go.Proofs.YthgkgjbjiiedaaaGreatDoor
open Go.RowKit

mutual
/-- A term with other numbers of functions. -/
def T.ren (tq : Int → Int) : T → T
  | .mk k n l => .mk k (if k = 1 then tq n else n) (T.renL tq l)
def T.renL (tq : Int → Int) : List T → List T
  | [] => []
  | x :: r => x.ren tq :: T.renL tq r
end
mutual
theorem T.ren_sizes (tq : Int → Int) : ∀ t : T, (t.ren tq).count = t.count ∧ (t.ren tq).deep = t.deep ∧ (t.ren tq).callsIn = t.callsIn.map tq
  | .mk k n l => by
    obtain ⟨h1, h2, h3⟩ := T.renL_sizes tq l
    simp only [T.ren, T.count, T.deep, T.callsIn, h1, h2, h3, List.map_append, true_and]
    by_cases hk : k = 1
    · simp [hk]
    · simp [hk]
theorem T.renL_sizes (tq : Int → Int) : ∀ l : List T, T.countL (T.renL tq l) = T.countL l ∧ T.deepL (T.renL tq l) = T.deepL l ∧ T.callsL (T.renL tq l) = (T.callsL l).map tq
  | [] => by simp [T.renL, T.countL, T.deepL, T.callsL]
  | x :: r => by
    obtain ⟨h1, h2, h3⟩ := T.ren_sizes tq x
    obtain ⟨g1, g2, g3⟩ := T.renL_sizes tq r
    simp [T.renL, T.countL, T.deepL, T.callsL, h1, h2, h3, g1, g2, g3]
end
theorem T.renL_length (tq : Int → Int) : ∀ l : List T, (T.renL tq l).length = l.length
  | [] => rfl
  | x :: r => by simp [T.renL, T.renL_length tq r]
mutual
theorem T.ren_ty {tq : Int → Int} {pick pick' : Int → Int → Option S} (h0 : ∀ k n, k ≠ 1 → pick' k n = pick k n) : ∀ t : T, (∀ m ∈ t.callsIn, pick' 1 (tq m) = pick 1 m) → (t.ren tq).ty pick' = t.ty pick
  | .mk k n l, h => by
    simp only [T.callsIn, List.mem_append] at h
    have hp : pick' k (if k = 1 then tq n else n) = pick k n := by
      by_cases hk : k = 1
      · subst hk
        simp only [if_true]
        exact h n (.inl (by simp))
      · rw [if_neg hk]
        exact h0 k n hk
    simp only [T.ren, T.ty, hp]
    cases pick k n with
    | none => rfl
    | some s =>
      simp only [T.renL_ty h0 l s.args (fun m hm => h m (.inr hm)), T.renL_length]
theorem T.renL_ty {tq : Int → Int} {pick pick' : Int → Int → Option S} (h0 : ∀ k n, k ≠ 1 → pick' k n = pick k n) : ∀ (l : List T) (q : List S), (∀ m ∈ T.callsL l, pick' 1 (tq m) = pick 1 m) → T.tyL pick' (T.renL tq l) q = T.tyL pick l q
  | [], q, _ => by simp [T.renL, T.tyL]
  | x :: r, [], _ => by simp [T.renL, T.tyL]
  | x :: r, a :: q, h => by
    simp only [T.callsL, List.mem_append] at h
    simp only [T.renL, T.tyL, T.ren_ty h0 x (fun m hm => h m (.inl hm)), T.renL_ty h0 r q (fun m hm => h m (.inr hm))]
end

/-- All of these are names, each once. -/
theorem diffFrom_iff : ∀ (l seen : List (List UInt8)), diffFrom seen l = true ↔ (∀ x ∈ l, nameB x = true) ∧ l.Nodup ∧ ∀ x ∈ l, x ∉ seen
  | [], seen => by simp [diffFrom]
  | x :: r, seen => by
    simp only [diffFrom, Bool.and_eq_true, diffFrom_iff r, Bool.not_eq_true', List.contains_eq_mem, decide_eq_false_iff_not, List.mem_append, List.mem_cons, List.not_mem_nil, or_false, not_or, List.nodup_cons, forall_eq_or_imp]
    constructor
    · rintro ⟨h1, h2, h3, h4, h5⟩
      exact ⟨⟨h1, h3⟩, ⟨fun h => (h5 x h).2 rfl, h4⟩, h2, fun y hy => (h5 y hy).1⟩
    · rintro ⟨⟨h1, h3⟩, ⟨h6, h4⟩, h2, h5⟩
      exact ⟨h1, h2, h3, h4, fun y hy => ⟨h5 y hy, fun e => h6 (e ▸ hy)⟩⟩

/-- The function of number n, with other numbers of functions. -/
def Sc.lessF (s : Sc) (tq : Int → Int) (n : Int) : Fn := match s.funs[n.toNat]? with
  | some f => ⟨f.name, f.sort, f.body.ren tq⟩
  | none => ⟨⟨#[]⟩, .mk [], .mk 0 0 []⟩
/-- The scheme without the functions that are not needed. -/
def Sc.less (s : Sc) (tq : Int → Int) : Sc := ⟨s.syms, s.reachL.map (s.lessF tq)⟩

/-- What the numbers of the needed functions are. -/
structure Kept (s : Sc) (tq : Int → Int) : Prop where
  g : s.Good
  to_ : ∀ (i : Nat) (n : Int), s.reachL[i]? = some n → tq n = (i : Int)
section
variable {s : Sc} {tq : Int → Int}
theorem Kept.mem (h : Kept s tq) {n : Int} (hn : n ∈ s.reachL) : ∃ f, s.funs[n.toNat]? = some f ∧ f ∈ s.funs ∧ s.lessF tq n = ⟨f.name, f.sort, f.body.ren tq⟩ ∧ 0 ≤ n ∧ n < (s.funs.length : Int) ∧ ∀ c ∈ f.body.callsIn, c ∈ s.reachL := by
  have h1 := (reachL_mem h.g.calls h.g.n1 n).1 hn
  obtain ⟨_, hcl⟩ := need_start h.g.calls h.g.n1
  have hrg := (needF_good h.g.calls (s.funs.length + 1) 0 [] ⟨by simp, by simp⟩ (by omega) (by have := h.g.n1; omega)).1.2 n h1
  have hx : s.funs[n.toNat]? = some (s.funs[n.toNat]'(by omega)) := List.getElem?_eq_getElem (by omega)
  exact ⟨_, hx, List.getElem_mem (by omega), by simp [Sc.lessF, hx], hrg.1, hrg.2, fun c hc => (reachL_mem h.g.calls h.g.n1 c).2 (hcl n h1 _ hx c hc)⟩
theorem Kept.zero (h : Kept s tq) : s.reachL[0]? = some 0 := by
  have h0 := (reachL_mem h.g.calls h.g.n1 0).2 (need_start h.g.calls h.g.n1).1
  have hu := reachL_up s
  have hm := fun n hn => (h.mem (n := n) hn)
  cases hl : s.reachL with
  | nil => rw [hl] at h0; cases h0
  | cons a r =>
    rw [hl] at h0 hu
    have ha := (hm a (by rw [hl]; simp)).choose_spec.2.2.2.1
    rcases List.mem_cons.1 h0 with e | hr
    · simp [e]
    · have := (List.pairwise_cons.1 hu).1 0 hr
      omega
theorem Kept.at_ (h : Kept s tq) {n : Int} (hn : n ∈ s.reachL) : ∃ i : Nat, s.reachL[i]? = some n ∧ tq n = (i : Int) := by
  obtain ⟨i, hi⟩ := List.getElem?_of_mem hn
  exact ⟨i, hi, h.to_ i n hi⟩
theorem Kept.pick (h : Kept s tq) {f g : Fn} (_ : g.sort = f.sort) {n : Int} (hn : n ∈ s.reachL) : ((s.less tq).pl g).pick 1 (tq n) = (s.pl f).pick 1 n := by
  obtain ⟨i, hi, e⟩ := h.at_ hn
  obtain ⟨f0, hx, _, hlf, h0, _, _⟩ := h.mem hn
  have h1 : ¬ (i : Int) < 0 := by omega
  have h2 : ¬ n < 0 := by omega
  rw [e]
  simp only [Pl.pick, pickH, Sc.pl, Sc.sorts, Sc.less, h1, h2, if_false, if_true, Int.toNat_natCast, List.getElem?_map, hi, Option.map_some, hlf, hx]
  simp
theorem Kept.ok (h : Kept s tq) : (s.less tq).ok = true := by
  rw [← sayOk_ok]
  have hs := sayOk_ok s
  have hlen : (s.less tq).funs.length = s.reachL.length := by simp [Sc.less]
  have hz := h.zero
  have hpos : 1 ≤ s.reachL.length := by
    cases hl : s.reachL with
    | nil => rw [hl] at hz; cases hz
    | cons a r => simp
  have hle := reachL_len s
  have hn64 := h.g.n64
  have hall : ∀ g ∈ (s.less tq).funs, ∃ n f, n ∈ s.reachL ∧ f ∈ s.funs ∧ s.funs[n.toNat]? = some f ∧ g = ⟨f.name, f.sort, f.body.ren tq⟩ ∧ 0 ≤ n ∧ ∀ c ∈ f.body.callsIn, c ∈ s.reachL := by
    intro g hg
    obtain ⟨n, hn, rfl⟩ := List.mem_map.1 hg
    obtain ⟨f, hx, hf, e, h0, _, hc⟩ := h.mem hn
    exact ⟨n, f, hn, hf, hx, e, h0, hc⟩
  have hb : ∀ f ∈ s.funs, f.body.count ≤ 400 ∧ f.body.deep ≤ 30 ∧ f.body.ty (s.pl f).pick = some (.mk []) := fun f hf => (body_ty (h.g.bd f hf)).2
  simp only [Sc.sayOk, Bool.and_eq_true, decide_eq_true_eq, goodFrom_iff, List.all_eq_true]
  refine ⟨h.g.sy, by omega, by omega, ⟨?_, fun g hg => ?_⟩, ?_, fun g hg => ?_⟩
  · rw [diffFrom_iff]
    have hd := (diffFrom_iff _ _).1 h.g.df
    refine ⟨fun x hx => ?_, ?_, by simp⟩
    · obtain ⟨g, hg, rfl⟩ := List.mem_map.1 hx
      obtain ⟨n, f, _, hf, _, rfl, _⟩ := hall g hg
      exact hd.1 _ (List.mem_map.2 ⟨f, hf, rfl⟩)
    · simp only [Sc.less, List.map_map]
      refine List.pairwise_map.2 ((reachL_up s).imp_of_mem ?_)
      intro a b ha hb hab
      obtain ⟨f, hx, _, e, h0, h1, _⟩ := h.mem ha
      obtain ⟨g, hy, _, e', h0', h1', _⟩ := h.mem hb
      simp only [Function.comp, e, e', fnm]
      intro heq
      have hnd := hd.2.1
      have hi : (s.funs.map fnm)[a.toNat]? = some (fnm f) := by rw [List.getElem?_map, hx]; rfl
      have hj : (s.funs.map fnm)[b.toNat]? = some (fnm g) := by rw [List.getElem?_map, hy]; rfl
      have heq' : fnm f = fnm g := heq
      rw [← heq'] at hj
      have := (List.getElem?_inj (by rw [List.length_map]; omega) hnd).1 (hi.trans hj.symm)
      omega
  · obtain ⟨n, f, _, hf, _, rfl, _⟩ := hall g hg
    obtain ⟨h1, h2, _⟩ := T.ren_sizes tq f.body
    exact ⟨h.g.so f hf, by rw [h1]; exact (hb f hf).1, by rw [h2]; exact (hb f hf).2.1⟩
  · have hst := h.g.st
    obtain ⟨f, hx, hf, e, _⟩ := h.mem (List.mem_of_getElem? hz)
    unfold Sc.start at hst ⊢
    unfold Sc.less
    cases hl : s.reachL with
    | nil => rw [hl] at hz; cases hz
    | cons a r =>
      rw [hl] at hz
      simp at hz
      subst hz
      simp only [List.map_cons, e]
      cases hfs : s.funs with
      | nil => rw [hfs] at hx; simp at hx
      | cons f0 fr =>
        rw [hfs] at hst hx
        simp at hx
        subst hx
        exact hst
  · obtain ⟨n, f, hn, hf, _, rfl, _, hc⟩ := hall g hg
    have ht : (f.body.ren tq).ty ((s.less tq).pl ⟨f.name, f.sort, f.body.ren tq⟩).pick = f.body.ty (s.pl f).pick :=
      T.ren_ty (fun k n hk => by simp [Pl.pick, pickH, Sc.pl, Sc.less, hk]) _ (fun m hm => h.pick rfl (hc m hm))
    unfold Sc.typed
    simp only [ht, (hb f hf).2.2]
    rfl
theorem Kept.order (h : Kept s tq) : ordF (s.less tq).funs ≤ ordF s.funs := by
  have key : ∀ (l m : List Fn), (∀ g ∈ l, ∃ f ∈ m, g.sort.ord ≤ f.sort.ord) → ordF l ≤ ordF m := by
    intro l m hm
    have h2 : ∀ f ∈ m, f.sort.ord ≤ ordF m := by
      intro f hf
      clear hm
      induction m with
      | nil => cases hf
      | cons a r ih =>
        rcases List.mem_cons.1 hf with rfl | hf
        · simp only [ordF]; omega
        · have := ih hf
          simp only [ordF]; omega
    induction l with
    | nil => simp [ordF]
    | cons a r ih =>
      obtain ⟨f, hf, h3⟩ := hm a (by simp)
      have := ih (fun g hg => hm g (by simp [hg]))
      have := h2 f hf
      simp only [ordF]; omega
  refine key _ _ (fun g hg => ?_)
  obtain ⟨n, hn, rfl⟩ := List.mem_map.1 hg
  obtain ⟨f, _, hf, e, _⟩ := h.mem hn
  exact ⟨f, hf, by rw [e]; exact Nat.le_refl _⟩
theorem Kept.all (h : Kept s tq) : (s.less tq).reachL.length = s.reachL.length := by
  have hg' := Sc.good h.ok
  have hlen : (s.less tq).funs.length = s.reachL.length := by simp [Sc.less]
  obtain ⟨h0, hcl⟩ := need_start hg'.calls hg'.n1
  have hX : ∀ m ∈ s.need, m ∈ s.reachL ∧ tq m ∈ (s.less tq).need := by
    refine need_least ⟨List.mem_of_getElem? h.zero, by rw [h.to_ 0 0 h.zero]; exact h0⟩ ?_
    rintro m ⟨hm, hmn⟩ g hgg c hc
    obtain ⟨f, hx, _, e, _, _, hcc⟩ := h.mem hm
    rw [hx] at hgg
    cases hgg
    obtain ⟨i, hi, ei⟩ := h.at_ hm
    refine ⟨hcc c hc, ?_⟩
    rw [ei] at hmn
    refine hcl _ hmn (s.lessF tq m) (by simp [Sc.less, List.getElem?_map, hi]) (tq c) ?_
    rw [e]
    rw [(T.ren_sizes tq g.body).2.2]
    exact List.mem_map.2 ⟨c, hc, rfl⟩
  have hrange : ∀ i ∈ List.range (s.less tq).funs.length, decide ((i : Int) ∈ (s.less tq).need) = true := by
    intro i hi
    rw [List.mem_range, hlen] at hi
    have hx : s.reachL[i]? = some s.reachL[i] := List.getElem?_eq_getElem hi
    have h1 := (hX _ ((reachL_mem h.g.calls h.g.n1 _).1 (List.getElem_mem hi))).2
    rw [h.to_ i _ hx] at h1
    exact decide_eq_true h1
  have : (s.less tq).reachL.length = (s.less tq).funs.length := by
    unfold Sc.reachL
    rw [List.length_map, List.filter_eq_self.2 hrange, List.length_range]
  omega
end
end Go.Proofs.YthgkgjbjiiedaaaGreatDoor
