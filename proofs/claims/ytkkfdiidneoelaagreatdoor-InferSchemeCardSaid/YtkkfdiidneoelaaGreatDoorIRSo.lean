/-
  The reference's Sorts: a contract.
-/
import Derived.Test.YtkkfdiidneoelaaGreatDoorIRSt
import Derived.Test.YtkkfdiidneoelaaGreatDoorGX
import Derived.Deep.RegionLaw
namespace Go.Proofs.YtkkfdiidneoelaaGreatDoor
open Go.RowKit

/-- What is known ahead of the bodies. -/
structure P2 (ls : List Lo) (rs fs ss : List Nat) (qss : List (List Nat)) (G : Gr) : Prop where
  bg : Begun ls rs fs ss G
  o0 : 0 < G.length ∧ ∀ v, Sol G v → v 0 = D.o
  len : G.length ≤ 1 + 5 * rs.length + 20 * ls.length
  ql : qss.length = ls.length
  qlt : ∀ (j : Nat) (qs : List Nat), qss[j]? = some qs → ∀ q ∈ qs, q < G.length
  ch : ∀ (j f : Nat) (qs : List Nat) (l : Lo), fs[j]? = some f → qss[j]? = some qs → ls[j]? = some l → qs.length = l.1 ∧ ∀ v, Sol G v → v f = chainD (qs.map v) D.o
theorem P2.start : P2 [] [] [] [] [] [.tree] := by
  have hS : ∀ v, Sol [Nd.tree] v ↔ v 0 = D.o := fun v => by
    have := @Sol.more [] .tree v
    simp only [List.nil_append] at this
    rw [this]
    exact ⟨fun h => h.2, fun h => ⟨Sol.nil, h⟩⟩
  refine ⟨⟨by simpa using Good.nil.more (d := .tree) rfl (fun _ _ e => by cases e), rfl, rfl, fun x h => by simp at h, fun x h => by simp at h, fun v _ j x r h => by simp at h, fun v _ j f l h => by simp at h, fun a _ _ => ⟨fun _ => D.o, (hS _).2 rfl, fun j f s h => by simp at h, fun x _ => D.fin_o⟩⟩,
    ⟨by simp, fun v hv => (hS v).1 hv⟩, by simp, rfl, fun j qs h => by simp at h, fun j f qs l h => by simp at h⟩
theorem P2.sym {ls : List Lo} {rs fs ss : List Nat} {qss : List (List Nat)} {G G' : Gr} {r top : Nat} (h : P2 ls rs fs ss qss G) (hr : r ≤ 4) (hc : Chained G (List.replicate r 0) 0 G' top) (hl : G'.length = G.length + r) : P2 ls (rs ++ [r]) fs (ss ++ [top]) qss G' := by
  have hlen := h.len
  refine ⟨h.bg.sym (hc.sym h.o0.2), ⟨by have := h.o0.1; omega, fun v hv => h.o0.2 v (hc.back v hv).1⟩, by simp; omega, h.ql, fun j qs hj q hq => by have := h.qlt j qs hj q hq; omega, fun j f qs l hf hq hl' => ?_⟩
  obtain ⟨h1, h2⟩ := h.ch j f qs l hf hq hl'
  exact ⟨h1, fun v hv => h2 v (hc.back v hv).1⟩
theorem P2.fn {ls : List Lo} {rs fs ss : List Nat} {qss : List (List Nat)} {G G' : Gr} {l : Lo} {top : Nat} (h : P2 ls rs fs ss qss G) (hr : l.1 ≤ 8) (hc : Chained (opens G l.1) (List.range' G.length l.1) 0 G' top) (hl : G'.length = G.length + 2 * l.1) :
    P2 (ls ++ [l]) rs (fs ++ [top]) ss (qss ++ [List.range' G.length l.1]) G' := by
  have hlen := h.len
  obtain ⟨he, hch⟩ := Chained.fun_ h.bg.good h.o0.1 h.o0.2 hc
  refine ⟨h.bg.fun_ he, ⟨by have := h.o0.1; omega, fun v hv => h.o0.2 v (he.back v hv).1⟩, by simp; omega, by simp [h.ql], fun j qs hj q hq => ?_, fun j f qs l' hf hq hl' => ?_⟩
  · rcases getElem?_snoc hj with hj | ⟨_, rfl⟩
    · have := h.qlt j qs hj q hq; omega
    · have := List.mem_range'_1.1 hq; omega
  · have hlf := h.bg.lf
    have hql := h.ql
    rcases getElem?_snoc hf with hf2 | ⟨h1, rfl⟩
    · have hj := (List.getElem?_eq_some_iff.1 hf2).1
      rw [List.getElem?_append_left (by omega)] at hq hl'
      obtain ⟨g1, g2⟩ := h.ch j f qs l' hf2 hq hl'
      exact ⟨g1, fun v hv => g2 v (he.back v hv).1⟩
    · rw [List.getElem?_append_right (by omega), show j - qss.length = 0 from by omega] at hq
      rw [List.getElem?_append_right (by omega), show j - ls.length = 0 from by omega] at hl'
      simp at hq hl'
      subst hq hl'
      exact ⟨by simp, hch⟩
/-- The symbols' nodes so far. -/
def R1 (syms : List Sy) (w : World) (p B : Nat) (i : Value) (wr : World) : Prop :=
  ∃ (k : Nat) (ss : List Nat) (G : Gr) (gv h2 : Value), k ≤ syms.length ∧ i = .int .i64 (k : Int) ∧ P2 [] (ranksOf (syms.take k)) [] ss [] G ∧ M2 w p B G gv [] ss [] (.slice none 0 0) (.slice none 0 0) h2 (.slice none 0 0) [] wr
theorem check_facts {syms : List Sy} {l : List Lz} (h : checkI syms l = 0) : l.length ≤ 64 ∧ syms.length ≤ 24 ∧ (∀ x ∈ syms, ∃ r : Nat, x.rank = (r : Int) ∧ r ≤ 4) ∧ ∀ f ∈ l, f.body.count ≤ 400 ∧ ∃ n : Nat, f.params = (n : Int) ∧ n ≤ 8 ∧ f.body.exist n l.length syms.length = true := by
  unfold checkI at h
  by_cases g1 : symsB syms = true
  case neg => rw [if_neg g1] at h; cases h
  rw [if_pos g1] at h
  by_cases g2 : lzOk syms l = true
  case neg => rw [if_neg g2] at h; cases h
  simp only [lzOk, Bool.and_eq_true, decide_eq_true_eq, List.all_eq_true] at g2
  simp only [symsB, Bool.and_eq_true, decide_eq_true_eq] at g1
  refine ⟨g2.1, g1.1, fun x hx => ?_, fun f hf => ?_⟩
  · have h2 := g1.2
    rw [syOk_diff] at h2
    simp only [Bool.and_eq_true, List.all_eq_true] at h2
    have := h2.2 x hx
    simp only [rankB, Bool.and_eq_true, decide_eq_true_eq] at this
    exact ⟨x.rank.toNat, by omega, by omega⟩
  · have := g2.2.2.2 f hf
    simp only [Lz.fits, bodyIn, Bool.and_eq_true, decide_eq_true_eq] at this
    exact ⟨this.2.2.1, f.params.toNat, by omega, by omega, this.2.2.2.2⟩
end Go.Proofs.YtkkfdiidneoelaaGreatDoor
