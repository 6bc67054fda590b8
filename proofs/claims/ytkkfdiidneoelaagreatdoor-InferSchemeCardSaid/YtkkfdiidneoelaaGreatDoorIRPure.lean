/-
  The reference's nodes of heads: chains of arrows from nodes that are there.
-/
import Derived.Test.YtkkfdiidneoelaaGreatDoorGP
namespace Go.Proofs.YtkkfdiidneoelaaGreatDoor

/-- New nodes: arrows from some nodes, in order, to another one. -/
def chainN (G : Gr) : List Nat → Nat → Gr × Nat
  | [], to_ => (G, to_)
  | a :: r, to_ => ((chainN G r to_).1 ++ [.arrow a (chainN G r to_).2], (chainN G r to_).1.length)
theorem chainN_len (G : Gr) (to_ : Nat) : ∀ l : List Nat, (chainN G l to_).1.length = G.length + l.length
  | [] => rfl
  | a :: r => by simp [chainN, chainN_len G to_ r]; omega
structure Chained (G : Gr) (l : List Nat) (to_ : Nat) (G' : Gr) (top : Nat) : Prop where
  good : Good G'
  len : G.length ≤ G'.length
  lt : top < G'.length
  back : ∀ v, Sol G' v → Sol G v ∧ v top = chainD (l.map v) (v to_)
  on : ∀ v, Sol G v → ∃ v', On G G' v v' ∧ v' top = chainD (l.map v) (v to_)
theorem chainD_fin {ds : List D} {d : D} (h : ∀ x ∈ ds, x.fin) (hd : d.fin) : (chainD ds d).fin := by
  induction ds with
  | nil => exact hd
  | cons a r ih => exact D.fin_arr (h a (by simp)) (ih fun x hx => h x (by simp [hx]))
theorem chained {G : Gr} (hG : Good G) {to_ : Nat} (ht : to_ < G.length) : ∀ l : List Nat, (∀ x ∈ l, x < G.length) → Chained G l to_ (chainN G l to_).1 (chainN G l to_).2
  | [], _ => ⟨hG, Nat.le_refl _, ht, fun v hv => ⟨hv, rfl⟩, fun v hv => ⟨v, .refl hv, rfl⟩⟩
  | a :: r, hl => by
    have h := chained hG ht r fun x hx => hl x (by simp [hx])
    have ha := hl a (by simp)
    have hlen := h.len
    have hlt := h.lt
    simp only [chainN]
    generalize (chainN G r to_).1 = G1 at *
    generalize (chainN G r to_).2 = t1 at *
    refine ⟨h.good.more rfl (fun p q e => by cases e; omega), by simp; omega, by simp, fun v hv => ?_, fun v hv => ?_⟩
    · obtain ⟨h1, h2⟩ := Sol.more.1 hv
      obtain ⟨h3, h4⟩ := h.back v h1
      have h2' : v G1.length = D.arr (v a) (v t1) := h2
      exact ⟨h3, by rw [h2', h4]; rfl⟩
    · obtain ⟨v1, o1, e1⟩ := h.on v hv
      have e2 : v1 a = v a := o1.old a ha
      have o2 := On.one h.good (d := .arrow a t1) o1.sol (D.arr (v a) (chainD (r.map v) (v to_))) (by
        show (if _ then _ else _) = D.arr (if _ then _ else _) (if _ then _ else _)
        rw [if_pos rfl, if_neg (by omega), if_neg (by omega), e1, e2]) (fun hf => by
          rw [← e2, ← e1]
          exact D.fin_arr (hf a (by omega)) (hf t1 hlt))
      refine ⟨_, o1.trans hlen o2, ?_⟩
      show (if _ then _ else _) = _
      rw [if_pos rfl]
      rfl
/-- Nodes of which nothing is known. -/
def opens (G : Gr) (k : Nat) : Gr := G ++ List.replicate k .open_
theorem opens_succ (G : Gr) (k : Nat) : opens G (k + 1) = opens G k ++ [.open_] := by simp [opens, List.replicate_succ']
theorem opens_len (G : Gr) (k : Nat) : (opens G k).length = G.length + k := by simp [opens]
theorem opens_good {G : Gr} (hG : Good G) : ∀ k, Good (opens G k)
  | 0 => by simpa [opens] using hG
  | k + 1 => by rw [opens_succ]; exact (opens_good hG k).more rfl (fun _ _ e => by cases e)
theorem opens_back {G : Gr} {v : Nat → D} : ∀ {k}, Sol (opens G k) v → Sol G v
  | 0, h => by simpa [opens] using h
  | k + 1, h => by rw [opens_succ] at h; exact opens_back (Sol.more.1 h).1
theorem opens_on {G : Gr} (hG : Good G) {v : Nat → D} (hv : Sol G v) : ∀ (k : Nat) (ds : List D), ds.length = k → (∀ x ∈ ds, x.fin) → ∃ v', On G (opens G k) v v' ∧ (List.range' G.length k).map v' = ds
  | 0, ds, h, _ => by
    have : ds = [] := List.eq_nil_of_length_eq_zero h
    subst this
    exact ⟨v, by simpa [opens] using On.refl hv, rfl⟩
  | k + 1, ds, h, hf => by
    have hne : ds ≠ [] := by intro e; subst e; simp at h
    have hd := List.dropLast_concat_getLast hne
    generalize ds.dropLast = ds0 at *
    generalize ds.getLast hne = d at *
    subst hd
    obtain ⟨v1, o1, e1⟩ := opens_on hG hv k ds0 (by simpa using h) (fun x hx => hf x (by simp [hx]))
    have o2 := On.one (opens_good hG k) (d := .open_) o1.sol d trivial (fun _ => hf d (by simp))
    rw [← opens_succ] at o2
    refine ⟨_, o1.trans (by rw [opens_len]; omega) o2, ?_⟩
    rw [List.range'_1_concat, List.map_append, ← e1]
    congr 1
    · refine List.map_congr_left fun x hx => ?_
      have := List.mem_range'_1.1 hx
      show (if _ then _ else _) = _
      rw [opens_len, if_neg (by omega)]
    · simp [opens_len]
theorem replicate_of {ds : List D} {k : Nat} (hl : ds.length = k) (h : ∀ x ∈ ds, x = D.o) : ds = List.replicate k D.o := by
  subst hl
  exact List.eq_replicate_iff.2 ⟨rfl, h⟩
/-- A symbol's node, where z is o. -/
theorem Chained.sym {G G' : Gr} {z k top : Nat} (hz : ∀ v, Sol G v → v z = D.o) (h : Chained G (List.replicate k z) z G' top) : FnExt G G' false k top := by
  refine ⟨h.good, h.len, h.lt, fun v hv => ?_, fun v ds hv hl hfr _ => ?_⟩
  · obtain ⟨h1, h2⟩ := h.back v hv
    rw [List.map_replicate, hz v h1] at h2
    exact ⟨h1, List.replicate k D.o, by simp, h2, fun _ x hx => (List.mem_replicate.1 hx).2⟩
  · obtain ⟨v', o, e⟩ := h.on v hv
    rw [List.map_replicate, hz v hv] at e
    exact ⟨v', o, by rw [e, replicate_of hl (hfr rfl)]⟩
/-- A function's node. -/
theorem Chained.fun_ {G G' : Gr} {z k top : Nat} (hG : Good G) (hzl : z < G.length) (hz : ∀ v, Sol G v → v z = D.o) (h : Chained (opens G k) (List.range' G.length k) z G' top) :
    FnExt G G' true k top ∧ ∀ v, Sol G' v → v top = chainD ((List.range' G.length k).map v) D.o := by
  have hb : ∀ v, Sol G' v → Sol G v ∧ v top = chainD ((List.range' G.length k).map v) D.o := fun v hv => by
    obtain ⟨h1, h2⟩ := h.back v hv
    have h3 := opens_back h1
    exact ⟨h3, by rw [h2, hz v h3]⟩
  refine ⟨⟨h.good, by have := h.len; rw [opens_len] at this; omega, h.lt, fun v hv => ?_, fun v ds hv hl _ hfi => ?_⟩, fun v hv => (hb v hv).2⟩
  · obtain ⟨h1, h2⟩ := hb v hv
    exact ⟨h1, _, by simp, h2, fun h => by cases h⟩
  · obtain ⟨v1, o1, e1⟩ := opens_on hG hv k ds hl hfi
    obtain ⟨v2, o2, e2⟩ := h.on v1 o1.sol
    refine ⟨v2, o1.trans (by rw [opens_len]; omega) o2, ?_⟩
    rw [e2, e1, o1.old z hzl, hz v hv]
end Go.Proofs.YtkkfdiidneoelaaGreatDoor
