/-
  What InferOwn's walk keeps: copies of functions, the made scheme while it is changed.
-/
import Derived.Test.YtkkfdiidneoelaaDoorISchemeB
import Derived.Test.YtkkfdiidneoelaaDoorGU
import Derived.Test.YtkkfdiidneoelaaDoorGX
import Derived.Test.YtkkfdiidneoelaaDoorGY
namespace Go.Proofs.YtkkfdiidneoelaaDoor
open Go.RowKit

/-- The cells of functions whose bodies are copies, in blocks of P. -/
def LzMk (w : World) (P : Nat → Prop) : List Lz → List Value → Prop
  | [], us => us = []
  | f :: r, us => ∃ v ut, us = .string f.name :: .int .i64 f.params :: .int .i64 f.body.kind :: .int .i64 f.body.num :: v :: ut ∧ f.body.NIn w P v ∧ LzMk w P r ut
theorem LzMk.keep {w w' : World} {P : Nat → Prop} (hb : ∀ b, P b → w'.heap[b]? = w.heap[b]?) : ∀ (l : List Lz) {us : List Value}, LzMk w P l us → LzMk w' P l us
  | [], us, h => by simpa [LzMk] using h
  | f :: r, us, h => by
    simp only [LzMk] at h ⊢
    obtain ⟨v, ut, h1, h2, h3⟩ := h
    exact ⟨v, ut, h1, h2.keep hb _, LzMk.keep hb r h3⟩
theorem LzMk.more {w : World} {P Q : Nat → Prop} (hb : ∀ b, P b → Q b) : ∀ (l : List Lz) {us : List Value}, LzMk w P l us → LzMk w Q l us
  | [], us, h => by simpa [LzMk] using h
  | f :: r, us, h => by
    simp only [LzMk] at h ⊢
    obtain ⟨v, ut, h1, h2, h3⟩ := h
    exact ⟨v, ut, h1, h2.more hb _, LzMk.more hb r h3⟩
theorem LzMk.snoc {w : World} {P : Nat → Prop} {f : Lz} {v : Value} (hv : f.body.NIn w P v) : ∀ {l : List Lz} {us : List Value}, LzMk w P l us → LzMk w P (l ++ [f]) (us ++ [.string f.name, .int .i64 f.params, .int .i64 f.body.kind, .int .i64 f.body.num, v])
  | [], us, h => by
    simp only [LzMk] at h
    subst h
    simp only [List.nil_append, LzMk]
    exact ⟨v, [], rfl, hv, rfl⟩
  | g :: r, us, h => by
    simp only [LzMk] at h
    obtain ⟨v', ut, rfl, h2, h3⟩ := h
    simp only [List.cons_append, LzMk]
    exact ⟨v', _, rfl, h2, h3.snoc hv⟩
theorem LzMk.at_ {w : World} {P : Nat → Prop} : ∀ {l : List Lz} {us : List Value}, LzMk w P l us → ∀ {k : Nat} {f : Lz}, l[k]? = some f →
    ∃ v, us[k * 5 + 2]? = some (.int .i64 f.body.kind) ∧ us[k * 5 + 3]? = some (.int .i64 f.body.num) ∧ us[k * 5 + 4]? = some v ∧ f.body.NIn w P v
  | [], us, h, k, f, hx => by simp at hx
  | g :: r, us, h, k, f, hx => by
    simp only [LzMk] at h
    obtain ⟨v, ut, rfl, h2, h3⟩ := h
    cases k with
    | zero => simp at hx; subst hx; exact ⟨v, rfl, rfl, rfl, h2⟩
    | succ k =>
      simp at hx
      obtain ⟨v', g1, g2, g3, g4⟩ := h3.at_ hx
      rw [show (k + 1) * 5 = k * 5 + 1 + 1 + 1 + 1 + 1 from by omega]
      exact ⟨v', by simpa using g1, by simpa using g2, by simpa using g3, g4⟩
/-- The copies so far: an array of its own, bodies in blocks of their own. -/
structure WasAt (l : List Lz) (B : Nat) (k : Nat) (v : Value) (us : List Value) (w : World) : Prop where
  own : w.ownsRow B 54 5 v (l.take k).length us
  row : LzMk w (fun b => B ≤ b ∧ b < w.heap.size ∧ v.ownBlock ≠ some b) (l.take k) us
theorem WasAt.below {l : List Lz} {B k : Nat} {v : Value} {us : List Value} {w w' : World} (h : WasAt l B k v us w) (hb : Below w.heap.size w w') : WasAt l B k v us w' :=
  ⟨owns_kept3 h.own fun b hh => hb.block b (h.own.lt b hh).2, (h.row.keep (w' := w') (fun b hh => hb.block b hh.2.1) _).more (fun _ hh => ⟨hh.1, Nat.lt_of_lt_of_le hh.2.1 hb.size, hh.2.2⟩) _⟩
theorem WasAt.next {l : List Lz} {B k : Nat} {v : Value} {us : List Value} {wr w1 w2 : World} {x : Lz} {u : Value} {us1 : List Value} {o o1 : Obj} {gg cap : Nat}
    (h : WasAt l B k v us wr) (hx : l[k]? = some x) (hB : B ≤ wr.heap.size) (hm1 : Mk (wr.heap.size + 1) w1 x.body.args u us1) (hbb1 : Below (wr.heap.size + 1) (wr.alloc o).drew w1) (hwz : wr.heap.size + 1 ≤ w1.heap.size)
    (hown2 : w2.ownsRow B 54 5 (.slice (some ⟨gg, 0, none⟩) ((l.take k).length + 1) cap) ((l.take k).length + 1) (us ++ [.string x.name, .int .i64 x.params, .int .i64 x.body.kind, .int .i64 x.body.num, u])) (hgrow : (w1.alloc o1).grownBy w2 v.ownBlock)
    (hat : v.ownBlock = some gg ∨ gg = w1.heap.size + 1) : WasAt l B (k + 1) (.slice (some ⟨gg, 0, none⟩) ((l.take k).length + 1) cap) (us ++ [.string x.name, .int .i64 x.params, .int .i64 x.body.kind, .int .i64 x.body.num, u]) w2 := by
  have hl := h.own.lt
  have hz2 := hgrow.size
  rw [World.size_alloc] at hz2
  have hk1 : ∀ b, b < wr.heap.size → w1.heap[b]? = wr.heap[b]? := fun b hb => (hbb1.block b (by omega)).trans (Below.heap_alloc wr o b hb)
  have hfar : ∀ b, b < w1.heap.size → v.ownBlock ≠ some b → w2.heap[b]? = w1.heap[b]? := fun b hb hne => by
    rw [hgrow.block b (by simp; omega) (fun e => hne e.symm), Below.heap_alloc _ _ _ hb]
  have hgo : ∀ b, (Value.slice (some ⟨gg, 0, none⟩) ((l.take k).length + 1) cap).ownBlock = some b → gg = b := fun b hb => by simpa [Value.ownBlock] using hb
  have hts : l.take (k + 1) = l.take k ++ [x] := by rw [List.take_add_one, hx]; rfl
  refine ⟨by rw [hts, List.length_append]; exact hown2, ?_⟩
  rw [hts]
  refine LzMk.snoc ?_ ?_
  · refine (hm1.nterm.keep (w' := w2) (fun b hb => hfar b hb.2 (fun e => by have := hl b e; omega)) _).more (fun b hb => ⟨by omega, by omega, fun e => ?_⟩) _
    have e := hgo b e
    rcases hat with h3 | h3
    · have := hl gg h3; omega
    · omega
  · refine (h.row.keep (w' := w2) (fun b hb => (hfar b (by omega) hb.2.2).trans (hk1 b hb.2.1)) _).more (fun b hb => ⟨hb.1, by omega, fun e => ?_⟩) _
    have e := hgo b e
    rcases hat with h3 | h3
    · exact hb.2.2 (by rw [h3, e])
    · omega
/-- A scheme in memory of its own, its box, and what may be changed of it. -/
structure Chg (B b8 : Nat) (fs : List Fn) (sy : List Sy) (P : Nat → Prop) (v0 v1 : Value) (w : World) : Prop where
  box : Blk w b8 38 #[v0, v1]
  osy : w.ownsRow B 57 2 v0 sy.length (syCells sy)
  ofn : ∃ us, w.ownsRow B 46 5 v1 fs.length us ∧ ∀ (j : Nat) (f : Fn), fs[j]? = some f → ∃ v, us[j * 5 + 4]? = some v ∧ (T.mk 0 0 f.body.args).EIn w P v
  old : ∀ b, P b → B ≤ b ∧ b ≠ b8 ∧ v0.ownBlock ≠ some b ∧ v1.ownBlock ≠ some b
  hb : B ≤ b8
theorem FnMk.ein {w : World} {P : Nat → Prop} : ∀ {fs : List Fn} {us : List Value}, FnMk w P fs us → ∀ (j : Nat) (f : Fn), fs[j]? = some f → ∃ v, us[j * 5 + 4]? = some v ∧ (T.mk 0 0 f.body.args).EIn w P v
  | [], us, h, j, f, hx => by simp at hx
  | g :: r, us, h, j, f, hx => by
    simp only [FnMk] at h
    obtain ⟨u, v, fp, ut, rfl, _, _, _, h5, _, h7⟩ := h
    cases j with
    | zero =>
      simp at hx
      subst hx
      refine ⟨v, rfl, ?_⟩
      have := T.NIn.ein _ h5
      generalize g.body = t at this
      obtain ⟨k, n, l⟩ := t
      simpa only [T.EIn, T.args] using this
    | succ j =>
      simp at hx
      obtain ⟨v', h1, h2⟩ := FnMk.ein h7 j f hx
      rw [show (j + 1) * 5 + 4 = j * 5 + 4 + 1 + 1 + 1 + 1 + 1 from by omega]
      exact ⟨v', by simpa using h1, h2⟩
theorem Chg.turned {B b8 : Nat} {fs : List Fn} {sy : List Sy} {P : Nat → Prop} {v0 v1 : Value} {w w' : World} (h : Chg B b8 fs sy P v0 v1 w) (hs : Saves P w w') (hk : Keeps P w w') : Chg B b8 fs sy P v0 v1 w' := by
  obtain ⟨us, h1, h2⟩ := h.ofn
  refine ⟨h.box.saves hs (fun hp => (h.old _ hp).2.1 rfl), owns_kept3 h.osy fun b hb => hs.block b (h.osy.lt b hb).2 (fun hp => (h.old b hp).2.2.1 hb), ⟨us, owns_kept3 h1 fun b hb => hs.block b (h1.lt b hb).2 (fun hp => (h.old b hp).2.2.2 hb), fun j f hx => ?_⟩, h.old, h.hb⟩
  obtain ⟨v, g1, g2⟩ := h2 j f hx
  exact ⟨v, g1, hk _ _ g2⟩
theorem syCells_set1 : ∀ (l : List Sy) (k : Nat) (x : Sy) (z : Int), l[k]? = some x → (syCells l).set (k * 2 + 1) (.int .i64 z) = syCells (l.set k ⟨x.name, z⟩)
  | [], k, x, z, h => by simp at h
  | s :: r, 0, x, z, h => by simp at h; subst h; rfl
  | s :: r, k + 1, x, z, h => by
    have := syCells_set1 r k x z (by simpa using h)
    rw [show (k + 1) * 2 + 1 = k * 2 + 1 + 1 + 1 from by omega]
    simp only [syCells, List.set_cons_succ, this]
/-- Its symbols, while their ranks are changed. -/
structure Chs (B b8 n : Nat) (v0 v1 : Value) (w : World) : Prop where
  box : Blk w b8 38 #[v0, v1]
  osy : ∃ sy : List Sy, sy.length = n ∧ w.ownsRow B 57 2 v0 n (syCells sy)
theorem Chs.store {B b8 n g c : Nat} {v1 : Value} {w : World} (h : Chs B b8 n (.slice (some ⟨g, 0, none⟩) n c) v1 w) (k : Nat) (hk : k < n) (z : Int) : Chs B b8 n (.slice (some ⟨g, 0, none⟩) n c) v1 (w.setCell ⟨g, k * 2 + 1, none⟩ (.int .i64 z)) := by
  obtain ⟨sy, hl, ho⟩ := h.osy
  have hx : sy[k]? = some (sy[k]'(by omega)) := List.getElem?_eq_getElem (by omega)
  have hne : b8 ≠ g := fun e => own_ne ho h.box (by decide) (by rw [e]; rfl)
  refine ⟨h.box.far hne _, sy.set k ⟨(sy[k]'(by omega)).name, z⟩, by simpa using hl, ?_⟩
  rw [← syCells_set1 sy k _ z hx]
  exact (ho.stored _ _).1
/-- What Scheme answers, as a scheme that may be changed. -/
theorem SchIPost.chg {syms : List Sy} {l : List Lz} {w w' : World} {E : Int} {lst : List S} {v0 v1 : Value} {us : List Value} (h0 : E ≠ 0 → v0 = .slice none 0 0 ∧ v1 = .slice none 0 0)
    (h1 : E = 0 → w'.ownsRow w.heap.size 57 2 v0 syms.length (syCells syms) ∧ w'.ownsRow w.heap.size 46 5 v1 (fnsOf l lst).length us ∧ FnMk w' (fun b => w.heap.size ≤ b ∧ b < w'.heap.size ∧ v0.ownBlock ≠ some b ∧ v1.ownBlock ≠ some b) (fnsOf l lst) us) (hz : w.heap.size ≤ w'.heap.size) :
    ∃ fs sy P, Chg w.heap.size w'.heap.size fs sy P v0 v1 (w'.alloc (.cells #[v0, v1] 38)) := by
  by_cases hE : E = 0
  · obtain ⟨g1, g2, g3⟩ := h1 hE
    refine ⟨fnsOf l lst, syms, fun b => w.heap.size ≤ b ∧ b < w'.heap.size ∧ v0.ownBlock ≠ some b ∧ v1.ownBlock ≠ some b, Blk.new _ _ _, g1.alloc _, ⟨us, g2.alloc _, fun j f hx => ?_⟩, fun b hb => ⟨hb.1, by have := hb.2.1; omega, hb.2.2.1, hb.2.2.2⟩, hz⟩
    obtain ⟨v, e1, e2⟩ := g3.ein j f hx
    exact ⟨v, e1, e2.keep (fun b hb => Below.heap_alloc _ _ b hb.2.1) _⟩
  · obtain ⟨rfl, rfl⟩ := h0 hE
    exact ⟨[], [], fun b => w.heap.size ≤ b ∧ b < w'.heap.size ∧ (Value.slice none 0 0).ownBlock ≠ some b ∧ (Value.slice none 0 0).ownBlock ≠ some b, Blk.new _ _ _, by simpa [syCells] using World.ownsRow_nil _ _ _ _, ⟨[], by simpa using World.ownsRow_nil _ _ _ _, fun j f hx => by simp at hx⟩, fun b hb => ⟨hb.1, by have := hb.2.1; omega, hb.2.2.1, hb.2.2.2⟩, hz⟩
theorem rd_own {w : World} {B n c : Nat} {A : Option Addr} {t : TypeId} {k : Nat} {xs : List Value} (h : w.ownsRow B t k (.slice A n c) n xs) : Rd w (fun b => b < w.heap.size) A xs := by
  have hl := h.lt
  rcases h.2 with ⟨e, hz⟩ | ⟨g, cap, cur, e, _⟩
  · exact .inl (List.eq_nil_of_length_eq_zero (by rw [h.1, hz]; simp))
  · injection e with e1 e2 e3
    subst e1
    exact .inr ⟨_, rfl, (hl g rfl).2, h.cells (g := g) rfl⟩
theorem own_addr {w : World} {B n c : Nat} {A : Option Addr} {t : TypeId} {k : Nat} {xs : List Value} (h : w.ownsRow B t k (.slice A n c) n xs) (hn : 0 < n) : ∃ g, A = some ⟨g, 0, none⟩ ∧ B ≤ g ∧ g < w.heap.size := by
  have hl := h.lt
  rcases h.2 with ⟨e, hz⟩ | ⟨g, cap, cur, e, _⟩
  · omega
  · injection e with e1 e2 e3
    subst e1
    exact ⟨g, rfl, (hl g rfl).1, (hl g rfl).2⟩
end Go.Proofs.YtkkfdiidneoelaaDoor
