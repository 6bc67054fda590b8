/-
  A valid scheme's functions without their sorts have the scheme's sorts as an assignment: what is found is at most these.
  InferFinds: what the walk takes of the plain part, for a scheme that the reference calls valid.
  Functions with the sorts that are found are a valid scheme.
-/
import Derived.Test.YtkkfdiidneoelaaGreatDoorGR
import Derived.Test.YtkkfdiidneoelaaGreatDoorGJ
import Derived.Test.YtkkfdiidneoelaaGreatDoorGH
import Derived.Test.YtkkfdiidneoelaaGreatDoorGS
namespace Go.Proofs.YtkkfdiidneoelaaGreatDoor
open Go.RowKit

def lzOf (f : Fn) : Lz := ⟨f.name, (f.sort.args.length : Int), f.body⟩
mutual
theorem ty_exist {l0 l1 l2 : List S} : ∀ {t : T} {s : S}, t.ty (pickH l0 l1 l2) = some s → t.exist l0.length l1.length l2.length = true
  | .mk k n l, s, h => by
    simp only [T.ty] at h
    simp only [T.exist, Bool.and_eq_true]
    cases hp : pickH l0 l1 l2 k n with
    | none => rw [hp] at h; cases h
    | some x =>
      rw [hp] at h
      by_cases ht : T.tyL (pickH l0 l1 l2) l x.args = true
      · refine ⟨?_, tyL_exist ht⟩
        unfold pickH at hp
        unfold headIn
        simp only [Bool.and_eq_true, decide_eq_true_eq]
        by_cases hn : n < 0
        · rw [if_pos hn] at hp; cases hp
        · rw [if_neg hn] at hp
          refine ⟨by omega, ?_⟩
          by_cases h0 : k = 0
          · rw [if_pos h0] at hp ⊢
            have := (List.getElem?_eq_some_iff.1 hp).1
            omega
          · rw [if_neg h0] at hp ⊢
            by_cases h1 : k = 1
            · rw [if_pos h1] at hp ⊢
              have := (List.getElem?_eq_some_iff.1 hp).1
              omega
            · rw [if_neg h1] at hp ⊢
              by_cases h2 : k = 2
              · rw [if_pos h2] at hp ⊢
                have := (List.getElem?_eq_some_iff.1 hp).1
                omega
              · rw [if_neg h2] at hp; cases hp
      · simp [ht] at h
theorem tyL_exist {l0 l1 l2 : List S} : ∀ {l : List T} {q : List S}, T.tyL (pickH l0 l1 l2) l q = true → T.existL l0.length l1.length l2.length l = true
  | [], _, _ => by simp [T.existL]
  | x :: r, [], h => by simp [T.tyL] at h
  | x :: r, a :: q, h => by
    simp only [T.tyL, Bool.and_eq_true] at h
    simp only [T.existL, Bool.and_eq_true]
    refine ⟨?_, tyL_exist h.2⟩
    cases hx : x.ty (pickH l0 l1 l2) with
    | none => rw [hx] at h; cases h.1
    | some y => exact ty_exist hx
end
theorem finds_asg {syms : List Sy} {fs : List Fn} (ht : ∀ f ∈ fs, f.body.ty (pickH f.sort.args (fs.map Fn.sort) (syms.map symS)) = some (.mk [])) :
    Asg ((fs.map lzOf).map Lz.lo) (ranksOf syms) (fs.map Fn.sort) := by
  refine ⟨by simp, fun j l s hl hs => ?_⟩
  simp only [List.getElem?_map] at hl hs
  cases hf : fs[j]? with
  | none => rw [hf] at hs; cases hs
  | some f =>
    rw [hf] at hl hs
    simp only [Option.map_some, Option.some.injEq] at hl hs
    subst hl hs
    refine ⟨by simp [lzOf, Lz.lo], ?_⟩
    rw [ranks_symS]
    exact ht f (List.mem_of_getElem? hf)
theorem finds_check {syms : List Sy} {fs : List Fn} (hs : symsB syms = true) (h64 : fs.length ≤ 64) (hd : diffFrom [] (fs.map fnm) = true) (hst : ∃ f r, fs = f :: r ∧ f.sort.args = [])
    (hg : ∀ f ∈ fs, f.sort.ok = true ∧ f.body.count ≤ 400 ∧ f.body.deep ≤ 30) (ht : ∀ f ∈ fs, f.body.ty (pickH f.sort.args (fs.map Fn.sort) (syms.map symS)) = some (.mk [])) : checkI syms (fs.map lzOf) = 0 := by
  have hok : lzOk syms (fs.map lzOf) = true := by
    unfold lzOk
    simp only [Bool.and_eq_true, decide_eq_true_eq, List.length_map, List.map_map, List.all_eq_true, List.mem_map]
    refine ⟨h64, ?_, ?_, ?_⟩
    · exact hd
    · obtain ⟨f, r, rfl, h⟩ := hst
      simp [lzStart, lzOf, h]
    · rintro x ⟨f, hf, rfl⟩
      obtain ⟨h1, h2, h3⟩ := hg f hf
      have h8 : f.sort.args.length ≤ 8 := by
        generalize f.sort = z at h1
        obtain ⟨l⟩ := z
        simp only [S.ok, S.few, Bool.and_eq_true, decide_eq_true_eq] at h1
        exact h1.2.2
      have he := ty_exist (ht f hf)
      simp only [List.length_map] at he
      simp only [Lz.fits, lzOf, bodyIn, Bool.and_eq_true]
      exact ⟨decide_eq_true (by omega), decide_eq_true (by omega), decide_eq_true h2, decide_eq_true h3, by simpa using he⟩
  simp [checkI, hs, hok]
theorem finds_pure {syms : List Sy} {fs : List Fn} (hs : symsB syms = true) (h64 : fs.length ≤ 64) (hd : diffFrom [] (fs.map fnm) = true) (hst : ∃ f r, fs = f :: r ∧ f.sort.args = [])
    (hg : ∀ f ∈ fs, f.sort.ok = true ∧ f.body.count ≤ 400 ∧ f.body.deep ≤ 30) (ht : ∀ f ∈ fs, f.body.ty (pickH f.sort.args (fs.map Fn.sort) (syms.map symS)) = some (.mk []))
    {E : Int} {lst : List S} (ha : Ans syms (fs.map lzOf) E lst) :
    E = 0 ∧ lst.length = fs.length ∧ ∀ (j : Nat) (x : S) (f : Fn), lst[j]? = some x → fs[j]? = some f → x.ok = true ∧ x.args.length = f.sort.args.length ∧ x.ord ≤ f.sort.ord ∧ x.count ≤ f.sort.count := by
  rcases ha with ⟨h0, _⟩ | ⟨_, o, ho, hE, hl⟩
  · exact (h0 (finds_check hs h64 hd hst hg ht)).elim
  have hA := finds_asg ht
  cases o with
  | none => exact (ho _ hA).elim
  | some a =>
    obtain ⟨h1, h2⟩ := ho
    have hle : ∀ (j : Nat) (x : S) (f : Fn), a[j]? = some x → fs[j]? = some f → x.emb.le f.sort.emb := fun j x f hx hf => h2 _ hA j x f.sort hx (by simp [hf])
    have hlen : a.length = fs.length := by simpa using h1.1
    have hall : a.all S.ok = true := by
      rw [List.all_eq_true]
      intro x hx
      obtain ⟨j, hj⟩ := List.getElem?_of_mem hx
      have hjl := (List.getElem?_eq_some_iff.1 hj).1
      have hf : fs[j]? = some (fs[j]'(by omega)) := List.getElem?_eq_getElem _
      exact S.le_ok (hle j x _ hj hf) (hg _ (List.mem_of_getElem? hf)).1
    have hz : ansE (some a) = 0 := by simp only [ansE, hall, if_true]
    rw [hz] at hE
    rw [if_pos hz] at hl
    subst hl
    refine ⟨hE, hlen, fun j x f hx hf => ⟨?_, ?_, S.le_ord (hle j x f hx hf), S.le_count (hle j x f hx hf)⟩⟩
    · exact S.le_ok (hle j x f hx hf) (hg _ (List.mem_of_getElem? hf)).1
    · have := (h1.2 j (lzOf f).lo x (by simp [hf]) hx).1
      simpa [lzOf, Lz.lo] using this
end Go.Proofs.YtkkfdiidneoelaaGreatDoor

namespace Go.Proofs.YtkkfdiidneoelaaGreatDoor
open Go.RowKit

theorem finds_say {s : Sc} (h : s.sayOk = true) {E : Int} {lst : List S} (ha : Ans s.syms (s.funs.map lzOf) E lst) :
    E = 0 ∧ lst.length = s.funs.length ∧ ∀ (j : Nat) (x : S) (f : Fn), lst[j]? = some x → s.funs[j]? = some f → x.ok = true ∧ x.args.length = f.sort.args.length ∧ x.ord ≤ f.sort.ord ∧ x.count ≤ f.sort.count := by
  simp only [Sc.sayOk, Bool.and_eq_true, decide_eq_true_eq, goodFrom_iff, List.all_eq_true] at h
  obtain ⟨h1, h2, h3, ⟨h4, h5⟩, h6, h7⟩ := h
  refine finds_pure h1 h3 h4 ?_ h5 (fun f hf => ?_) ha
  · unfold Sc.start at h6
    cases hfs : s.funs with
    | nil => rw [hfs] at h2; simp at h2
    | cons f r =>
      rw [hfs] at h6
      exact ⟨f, r, rfl, by simpa using h6⟩
  · have h := h7 f hf
    unfold Sc.typed at h
    have hp : (s.pl f).pick = pickH f.sort.args (s.funs.map Fn.sort) (s.syms.map symS) := by rfl
    rw [hp] at h
    cases hy : f.body.ty (pickH f.sort.args (s.funs.map Fn.sort) (s.syms.map symS)) with
    | none => rw [hy] at h; cases h
    | some x =>
      rw [hy] at h
      obtain ⟨l⟩ := x
      have : l = [] := by simpa [S.args] using h
      rw [this]
/-- The functions' sorts fit in 64 bits, as far as they are looked at. -/
theorem say_fits {s : Sc} (h : s.sayOk = true) : s.funs.length ≤ 64 ∧ ∀ f ∈ s.funs, f.sort.args.length ≤ 8 := by
  simp only [Sc.sayOk, Bool.and_eq_true, decide_eq_true_eq, goodFrom_iff, List.all_eq_true] at h
  obtain ⟨_, _, h3, ⟨_, h5⟩, _, _⟩ := h
  refine ⟨h3, fun f hf => ?_⟩
  have h1 := (h5 f hf).1
  generalize f.sort = z at h1
  obtain ⟨l⟩ := z
  simp only [S.ok, S.few, Bool.and_eq_true, decide_eq_true_eq] at h1
  exact h1.2.2
mutual
theorem exist_fit {a b c : Nat} (ha : a ≤ 1000) (hb : b ≤ 1000) (hc : c ≤ 1000) : ∀ {t : T}, t.exist a b c = true → t.fit
  | .mk k n l, h => by
    simp only [T.exist, headIn, Bool.and_eq_true, decide_eq_true_eq] at h
    obtain ⟨⟨h1, h2⟩, h3⟩ := h
    simp only [T.fit]
    have hk : k = 0 ∨ k = 1 ∨ k = 2 := by
      by_cases h0 : k = 0
      · exact .inl h0
      by_cases h1' : k = 1
      · exact .inr (.inl h1')
      by_cases h2' : k = 2
      · exact .inr (.inr h2')
      rw [if_neg h0, if_neg h1', if_neg h2'] at h2
      omega
    have hn : n < 1000 := by
      split at h2
      · omega
      · split at h2
        · omega
        · split at h2 <;> omega
    exact ⟨by omega, by omega, existL_fit ha hb hc h3⟩
theorem existL_fit {a b c : Nat} (ha : a ≤ 1000) (hb : b ≤ 1000) (hc : c ≤ 1000) : ∀ {l : List T}, T.existL a b c l = true → T.fitL l
  | [], _ => by simp [T.fitL]
  | x :: r, h => by
    simp only [T.existL, Bool.and_eq_true] at h
    simp only [T.fitL]
    exact ⟨exist_fit ha hb hc h.1, existL_fit ha hb hc h.2⟩
end
theorem say_body {s : Sc} (h : s.sayOk = true) : ∀ f ∈ s.funs.map lzOf, f.body.fit ∧ fit64 f.params := by
  intro g hg
  obtain ⟨f, hf, rfl⟩ := List.mem_map.1 hg
  have h8 := (say_fits h).2 f hf
  have h64 := (say_fits h).1
  simp only [Sc.sayOk, Bool.and_eq_true, decide_eq_true_eq, List.all_eq_true] at h
  obtain ⟨h1, _, _, _, _, h7⟩ := h
  have hs : s.syms.length ≤ 24 := by
    simp only [symsB, Bool.and_eq_true, decide_eq_true_eq] at h1
    exact h1.1
  have ht := h7 f hf
  unfold Sc.typed at ht
  have hp : (s.pl f).pick = pickH f.sort.args (s.funs.map Fn.sort) (s.syms.map symS) := by rfl
  rw [hp] at ht
  refine ⟨?_, by simp only [lzOf, fit64]; omega⟩
  cases hy : f.body.ty (pickH f.sort.args (s.funs.map Fn.sort) (s.syms.map symS)) with
  | none => rw [hy] at ht; cases ht
  | some x =>
    have he := ty_exist hy
    simp only [List.length_map] at he
    exact exist_fit (by omega) (by omega) (by omega) he
theorem say_ok {s : Sc} (h : s.sayOk = true) : ∀ f ∈ s.funs, f.sort.ok = true := by
  simp only [Sc.sayOk, Bool.and_eq_true, decide_eq_true_eq, goodFrom_iff, List.all_eq_true] at h
  exact fun f hf => (h.2.2.2.1.2 f hf).1
end Go.Proofs.YtkkfdiidneoelaaGreatDoor

namespace Go.Proofs.YtkkfdiidneoelaaGreatDoor
open Go.RowKit

def lzFn (f : Lz) (s : S) : Fn := ⟨f.name, s, f.body⟩
/-- The functions with these sorts. -/
def fnsOf : List Lz → List S → List Fn
  | f :: r, s :: q => lzFn f s :: fnsOf r q
  | _, _ => []
theorem fnsOf_len : ∀ {l : List Lz} {a : List S}, a.length = l.length → (fnsOf l a).length = l.length
  | [], [], _ => rfl
  | [], _ :: _, h => by simp at h
  | _ :: _, [], h => by simp at h
  | f :: r, s :: q, h => by simp [fnsOf, fnsOf_len (l := r) (a := q) (by simpa using h)]
theorem fnsOf_at : ∀ {l : List Lz} {a : List S} {k : Nat} {f : Lz} {s : S}, l[k]? = some f → a[k]? = some s → (fnsOf l a)[k]? = some (lzFn f s)
  | [], _, _, _, _, h, _ => by simp at h
  | _ :: _, [], _, _, _, _, h => by simp at h
  | g :: r, t :: q, 0, f, s, h, k => by simp at h k; subst h k; rfl
  | g :: r, t :: q, k + 1, f, s, h, hk => by
    simp only [fnsOf, List.getElem?_cons_succ]
    exact fnsOf_at (by simpa using h) (by simpa using hk)
theorem fnsOf_names : ∀ {l : List Lz} {a : List S}, a.length = l.length → (fnsOf l a).map fnm = l.map lznm
  | [], [], _ => rfl
  | [], _ :: _, h => by simp at h
  | _ :: _, [], h => by simp at h
  | f :: r, s :: q, h => by
    simp only [fnsOf, List.map_cons, fnsOf_names (l := r) (a := q) (by simpa using h)]
    rfl
theorem fnsOf_sorts : ∀ {l : List Lz} {a : List S}, a.length = l.length → (fnsOf l a).map Fn.sort = a
  | [], [], _ => rfl
  | [], _ :: _, h => by simp at h
  | _ :: _, [], h => by simp at h
  | f :: r, s :: q, h => by
    simp only [fnsOf, List.map_cons, fnsOf_sorts (l := r) (a := q) (by simpa using h)]
    rfl
theorem fnsOf_mem {l : List Lz} {a : List S} (h : a.length = l.length) {g : Fn} (hg : g ∈ fnsOf l a) : ∃ (j : Nat) (f : Lz) (s : S), l[j]? = some f ∧ a[j]? = some s ∧ g = lzFn f s := by
  obtain ⟨j, hj⟩ := List.getElem?_of_mem hg
  have hjl := (List.getElem?_eq_some_iff.1 hj).1
  rw [fnsOf_len h] at hjl
  have h1 : l[j]? = some l[j] := List.getElem?_eq_getElem hjl
  have h2 : a[j]? = some (a[j]'(by omega)) := List.getElem?_eq_getElem _
  exact ⟨j, _, _, h1, h2, Option.some.inj (hj.symm.trans (fnsOf_at h1 h2))⟩
theorem valid_say {syms : List Sy} {l : List Lz} {a : List S} (hc : checkI syms l = 0) (hs : Solves (l.map Lz.lo) (ranksOf syms) (some a)) (ho : a.all S.ok = true) : (Sc.mk syms (fnsOf l a)).sayOk = true := by
  obtain ⟨⟨hlen, hasg⟩, _⟩ := hs
  have hlen' : a.length = l.length := by simpa using hlen
  unfold checkI at hc
  by_cases h1 : symsB syms = true
  case neg => rw [if_neg h1] at hc; cases hc
  rw [if_pos h1] at hc
  by_cases h2 : lzOk syms l = true
  case neg => rw [if_neg h2] at hc; cases hc
  simp only [lzOk, Bool.and_eq_true, decide_eq_true_eq, List.all_eq_true] at h2
  obtain ⟨g1, g2, g3, g4⟩ := h2
  have hpos : 1 ≤ l.length := by
    cases l with
    | nil => simp [lzStart] at g3
    | cons f r => simp
  have hsort : ∀ (j : Nat) (f : Lz) (s : S), l[j]? = some f → a[j]? = some s → (s.args.length : Int) = f.params ∧ f.body.ty (pickH s.args a (syms.map symS)) = some (.mk []) := by
    intro j f s hf hs
    have h := hasg j f.lo s (by simp [hf]) hs
    rw [ranks_symS] at h
    have hfp := g4 f (List.mem_of_getElem? hf)
    simp only [Lz.fits, Bool.and_eq_true, decide_eq_true_eq] at hfp
    refine ⟨?_, h.2⟩
    have := h.1
    simp only [Lz.lo] at this
    omega
  rw [List.all_eq_true] at ho
  simp only [Sc.sayOk, Bool.and_eq_true, decide_eq_true_eq, goodFrom_iff, List.all_eq_true, fnsOf_len hlen', fnsOf_names hlen']
  refine ⟨h1, hpos, g1, ⟨g2, fun f hf => ?_⟩, ?_, fun f hf => ?_⟩
  · obtain ⟨j, x, s, hx, hs, rfl⟩ := fnsOf_mem hlen' hf
    have hfp := g4 x (List.mem_of_getElem? hx)
    simp only [Lz.fits, bodyIn, Bool.and_eq_true, decide_eq_true_eq] at hfp
    exact ⟨ho s (List.mem_of_getElem? hs), hfp.2.2.1, hfp.2.2.2.1⟩
  · unfold Sc.start
    cases l with
    | nil => simp at hpos
    | cons f r =>
      cases a with
      | nil => simp at hlen'
      | cons s q =>
        have h := (hsort 0 f s rfl rfl).1
        simp only [lzStart, decide_eq_true_eq] at g3
        simp only [fnsOf, lzFn, List.isEmpty_iff]
        exact List.eq_nil_of_length_eq_zero (by omega)
  · obtain ⟨j, x, s, hx, hs, rfl⟩ := fnsOf_mem hlen' hf
    unfold Sc.typed
    have hp : ((Sc.mk syms (fnsOf l a)).pl (lzFn x s)).pick = pickH s.args ((fnsOf l a).map Fn.sort) (syms.map symS) := by rfl
    rw [hp, fnsOf_sorts hlen']
    have h := (hsort j x s hx hs).2
    simp only [lzFn, h]
    rfl
end Go.Proofs.YtkkfdiidneoelaaGreatDoor
