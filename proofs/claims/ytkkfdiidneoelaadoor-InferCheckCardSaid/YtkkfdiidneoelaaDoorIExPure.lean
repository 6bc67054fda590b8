/-
  The chapter's examples, on plain data.
-/
import Derived.Test.YtkkfdiidneoelaaDoorISorts
namespace Go.Proofs.YtkkfdiidneoelaaDoor

def exSy : List Sy := [⟨⟨#[97]⟩, 2⟩, ⟨⟨#[98]⟩, 1⟩, ⟨⟨#[99]⟩, 0⟩]
def exX : T := .mk 0 0 []
def exB : T := .mk 2 0 [exX, .mk 1 1 [.mk 2 1 [exX]]]
def exL1 : List Lz := [⟨⟨#[115]⟩, 0, .mk 1 1 [.mk 2 2 []]⟩, ⟨⟨#[102]⟩, 1, exB⟩]
def exL2 : List Lz := [⟨⟨#[115]⟩, 0, .mk 2 2 []⟩, ⟨⟨#[102]⟩, 1, .mk 0 0 [exX]⟩]
def exL3 : List Lz := [⟨⟨#[115]⟩, 0, .mk 2 2 []⟩, ⟨⟨#[107]⟩, 2, exX⟩]
theorem ex_ck1 : checkI exSy exL1 = 0 := by decide +kernel
theorem ex_ck2 : checkI exSy exL2 = 0 := by decide +kernel
theorem ex_ck3 : checkI exSy exL3 = 0 := by decide +kernel
/-- A sort of so many arguments asks at least that of as many o. -/
theorem rank_le (s : S) : (rankS s.args.length).emb.le s.emb := by
  obtain ⟨l⟩ := s
  simp only [rankS, S.args, S.emb]
  induction l with
  | nil => intro p h; exact h
  | cons x r ih =>
    intro p h
    simp only [List.length_cons, List.replicate_succ, S.embL] at h ⊢
    cases p with
    | nil => rfl
    | cons c q =>
      cases c with
      | false => simp [D.arr, S.emb, S.embL, D.o] at h
      | true => exact ih q h
theorem asg_ranks {ls : List Lo} {rs : List Nat} (h : Asg ls rs (ls.map fun l => rankS l.1)) : Solves ls rs (some (ls.map fun l => rankS l.1)) := by
  refine ⟨h, fun b hb j s t hs ht => ?_⟩
  rw [List.getElem?_map] at hs
  cases hl : ls[j]? with
  | none => rw [hl] at hs; cases hs
  | some l =>
    rw [hl] at hs
    cases hs
    show (rankS l.1).emb.le t.emb
    rw [← (hb.2 j l t hl ht).1]
    exact rank_le t
theorem asg_of {ls : List Lo} {rs : List Nat} (h : (ls.zip (ls.map fun l => rankS l.1)).all (fun p => decide (p.2.args.length = p.1.1) && (match p.1.2.ty (pickH p.2.args (ls.map fun l => rankS l.1) (rs.map rankS)) with | some y => y.eqb (.mk []) | none => false)) = true) :
    Asg ls rs (ls.map fun l => rankS l.1) := by
  refine ⟨by simp, fun j l s hl hs => ?_⟩
  rw [List.all_eq_true] at h
  have hm : (l, s) ∈ ls.zip (ls.map fun l => rankS l.1) := List.mem_of_getElem? (i := j) (by rw [List.getElem?_zip_eq_some]; exact ⟨hl, hs⟩)
  have := h _ hm
  simp only [Bool.and_eq_true, decide_eq_true_eq] at this
  refine ⟨this.1, ?_⟩
  cases hy : l.2.ty (pickH s.args (ls.map fun l => rankS l.1) (rs.map rankS)) with
  | none => rw [hy] at this; cases this.2
  | some y =>
    rw [hy] at this
    rw [(S.eqb_iff _ _).1 this.2]
theorem ex_an1 : Ans exSy exL1 0 [.mk [], .mk [.mk []]] :=
  .inr ⟨ex_ck1, _, asg_ranks (asg_of (by decide +kernel)), by decide +kernel, by rw [if_pos (by decide +kernel)]; rfl⟩
theorem ex_an3 : Ans exSy exL3 0 [.mk [], .mk [.mk [], .mk []]] :=
  .inr ⟨ex_ck3, _, asg_ranks (asg_of (by decide +kernel)), by decide +kernel, by rw [if_pos (by decide +kernel)]; rfl⟩
theorem ex_an2 : Ans exSy exL2 6 [] := by
  refine .inr ⟨ex_ck2, none, ?_, rfl, rfl⟩
  intro a ha
  have h1 : (exL2.map Lz.lo)[1]? = some (1, .mk 0 0 [exX]) := rfl
  have hl : a.length = 2 := ha.1
  have h2 : a[1]? = some (a[1]'(by omega)) := List.getElem?_eq_getElem _
  obtain ⟨h3, h4⟩ := ha.2 1 _ _ h1 h2
  generalize a[1] = s at *
  obtain ⟨q⟩ := s
  match q, h3, h4 with
  | [x], _, h4 =>
    obtain ⟨y⟩ := x
    simp only [T.ty, pickH, S.args, exX] at h4
    simp only [show ¬ ((0 : Int) < 0) from by decide, if_false, if_true, Int.toNat_zero, List.getElem?_cons_zero] at h4
    by_cases h5 : T.tyL (pickH [S.mk y] a (List.map rankS (ranksOf exSy))) [T.mk 0 0 []] y = true
    · cases y with
      | nil => simp [T.tyL] at h5
      | cons z r =>
        simp only [T.tyL, T.ty, pickH, Bool.and_eq_true] at h5
        simp only [show ¬ ((0 : Int) < 0) from by decide, if_false, if_true, Int.toNat_zero, List.getElem?_cons_zero, List.length_nil] at h5
        have := (S.eqb_iff _ _).1 h5.1
        have h6 := congrArg S.count this
        simp only [S.args, S.count, S.countL, List.drop] at h6
        have := z.count_pos
        omega
    · first
        | (rw [if_neg h5] at h4; cases h4)
        | (simp only [h5] at h4; cases h4)
end Go.Proofs.YtkkfdiidneoelaaDoor
