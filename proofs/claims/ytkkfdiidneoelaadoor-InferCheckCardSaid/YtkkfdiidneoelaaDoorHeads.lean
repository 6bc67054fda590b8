/-
  term.symbolSorts, term.headsOf, (term.heads).head: contracts.
-/
import Derived.Test.YtkkfdiidneoelaaDoorSort
import Derived.Test.YtkkfdiidneoelaaDoorTMake
import Derived.Deep.AppendLies
namespace Go.Proofs.YtkkfdiidneoelaaDoor
open Go.RowKit

theorem S.In_drewN {w : World} {lo hi : Nat} {s : S} {v : Value} (h : s.In w lo hi v) (n : Nat) : s.In (w.drewN n) lo hi v := S.In.keep (w := w) (w' := w.drewN n) (fun _ _ _ => rfl) s h
/-- The sort of a symbol of a rank. -/
def rankS (r : Nat) : S := .mk (List.replicate r (.mk []))
/-- A slice of its own that holds the sorts of symbols of these ranks. -/
structure RankRow (B : Nat) (w : World) (l : List Nat) (v : Value) (us : List Value) : Prop where
  own : w.ownsRow B 41 1 v l.length us
  el : ∀ (j r : Nat), l[j]? = some r → ∃ g, us[j]? = some (.slice (some ⟨g, 0, none⟩) r r) ∧ B ≤ g ∧ g < w.heap.size ∧ v.ownBlock ≠ some g ∧ Blk w g 41 (madeCells #[.slice none 0 0] r)
theorem sort_info2 : (Tryd.prog.info? 41).map (fun i => (i.zero, i.size, i.bytes)) = some (some (.agg #[.slice none 0 0]), 1, 24) := by kernel_rfl
theorem made_at {r j : Nat} (h : j < r) : (madeCells #[.slice none 0 0] r)[j]? = some (.slice none 0 0) := by
  simp [madeCells, h, Nat.mod_one]
theorem S.In_ranks {w : World} {lo hi g r : Nat} (hr : r ≤ 100) (h : Blk w g 41 (madeCells #[.slice none 0 0] r)) (h1 : lo ≤ g) (h2 : g < hi) : (rankS r).In w lo hi (.slice (some ⟨g, 0, none⟩) r r) := by
  simp only [rankS, S.In]
  refine ⟨_, _, _, rfl, by simp, Nat.le_refl _, by omega, S.All.mk_ fun j x hx => ?_⟩
  rw [List.getElem?_replicate] at hx
  split at hx
  · rename_i hj
    cases hx
    refine ⟨_, _, rfl, h1, h2, ?_, S.In_nil⟩
    have hadd : (⟨g, 0, none⟩ : Addr).add (0 + j) = ⟨g, j, none⟩ := by unfold Addr.add; split <;> simp_all
    rw [hadd, h.cell, made_at hj]
  · cases hx
theorem RankRow.in_ {B : Nat} {w : World} {l : List Nat} {v : Value} {us : List Value} (h : RankRow B w l v us) (hl : ∀ r ∈ l, r ≤ 100) : (S.mk (l.map rankS)).In w B w.heap.size v := by
  simp only [S.In]
  rcases h.own.2 with ⟨rfl, h0⟩ | ⟨g, cap, cur, rfl, h1, h2, h3, h4, h5, h6⟩
  · have : l = [] := List.eq_nil_of_length_eq_zero h0
    subst this
    exact ⟨_, _, _, rfl, rfl, Nat.le_refl _, by omega, by simp [S.All]⟩
  · refine ⟨_, _, _, rfl, by simp, h3, by simpa [maxLen] using h4, S.All.mk_ fun j x hx => ?_⟩
    rw [List.getElem?_map, Option.map_eq_some_iff] at hx
    obtain ⟨r, hr, rfl⟩ := hx
    obtain ⟨g', e1, e2, e3, _, e5⟩ := h.el j r hr
    have hg := World.ownsRow.lt h.own g rfl
    refine ⟨_, _, rfl, hg.1, hg.2, ?_, S.In_ranks (hl r (List.mem_of_getElem? hr)) e5 e2 e3⟩
    rw [Nat.zero_add]
    exact World.ownsRow.cells h.own (g := g) rfl j _ e1
theorem RankRow.form {B : Nat} {w : World} {l : List Nat} {v : Value} {us : List Value} (h : RankRow B w l v us) : ∃ A c, v = .slice A l.length c := by
  rcases h.own.2 with ⟨rfl, h0⟩ | ⟨g, cap, cur, rfl, _⟩
  · exact ⟨none, 0, by rw [h0]⟩
  · exact ⟨_, cap, rfl⟩
theorem owns_kept1 {w w' : World} {base : Nat} {e : TypeId} {size : Nat} {v : Value} {n : Nat} {xs : List Value} (h : w.ownsRow base e size v n xs) (hk : ∀ b, v.ownBlock = some b → w'.heap[b]? = w.heap[b]?) : w'.ownsRow base e size v n xs := owns_kept3 h hk
theorem RankRow.push {B : Nat} {wr w1 w2 : World} {l : List Nat} {v : Value} {us : List Value} (h : RankRow B wr l v us) (hBr : B ≤ wr.heap.size) (hk : ∀ b, b < wr.heap.size → w1.heap[b]? = wr.heap[b]?) (hz : wr.heap.size ≤ w1.heap.size)
    {gx r : Nat} (hgx : wr.heap.size ≤ gx) (hgx2 : gx < w1.heap.size) (hbx : Blk w1 gx 41 (madeCells #[.slice none 0 0] r)) {o1 : Obj} {g cap : Nat}
    (hown2 : w2.ownsRow B 41 1 (.slice (some ⟨g, 0, none⟩) (l.length + 1) cap) (l.length + 1) (us ++ [.slice (some ⟨gx, 0, none⟩) r r])) (hgrow : (w1.alloc o1).grownBy w2 v.ownBlock)
    (hat : v.ownBlock = some g ∨ g = w1.heap.size + 1) : RankRow B w2 (l ++ [r]) (.slice (some ⟨g, 0, none⟩) (l.length + 1) cap) (us ++ [.slice (some ⟨gx, 0, none⟩) r r]) := by
  have hgs := hgrow.size
  simp only [World.size_alloc] at hgs
  have hfar : ∀ b, b < w1.heap.size → v.ownBlock ≠ some b → w2.heap[b]? = w1.heap[b]? := fun b hb' hne => by
    rw [hgrow.block b (by simp; omega) (fun e => hne e.symm), Below.heap_alloc _ _ _ hb']
  have hvlt : ∀ b, v.ownBlock = some b → b < wr.heap.size := fun b hb' => (World.ownsRow.lt h.own b hb').2
  have hul : us.length = l.length := by simpa using h.own.1
  refine ⟨by rw [List.length_append]; exact hown2, fun j r' hj => ?_⟩
  rcases Nat.lt_or_ge j l.length with hlt | hge
  · rw [List.getElem?_append_left hlt] at hj
    obtain ⟨g', e1, e2, e3, e4, e5⟩ := h.el j r' hj
    refine ⟨g', by rw [List.getElem?_append_left (by omega)]; exact e1, e2, by omega, fun e => ?_, (hfar g' (by omega) e4).trans ((hk g' e3).trans e5)⟩
    have e' : g = g' := by simpa [Value.ownBlock] using e
    rcases hat with ha | ha
    · exact e4 (by rw [ha, e'])
    · omega
  · rw [List.getElem?_append_right hge] at hj
    have hj0 : j - l.length = 0 := by
      rcases Nat.eq_zero_or_pos (j - l.length) with h0 | h0
      · exact h0
      · rw [List.getElem?_eq_none (by simp; omega)] at hj; cases hj
    rw [hj0] at hj
    simp at hj
    subst hj
    refine ⟨gx, by rw [List.getElem?_append_right (by omega), hul, hj0]; rfl, by omega, by omega, fun e => ?_, (hfar gx hgx2 (fun e => by have := hvlt gx e; omega)).trans hbx⟩
    have e' : g = gx := by simpa [Value.ownBlock] using e
    rcases hat with ha | ha
    · have := hvlt g ha; omega
    · omega

/-- Ranks, as numbers. -/
def ranksOf (l : List Sy) : List Nat := l.map fun x => x.rank.toNat
/-- Three lists of sorts: two below block h, the third one between blocks lo2 and h2. -/
structure Heads (h lo2 h2 : Nat) (l0 l1 l2 : List S) (p0 p1 p2 : Value) (w : World) : Prop where
  i0 : (S.mk l0).In w 0 h p0
  i1 : (S.mk l1).In w 0 h p1
  i2 : (S.mk l2).In w lo2 h2 p2
  hh : h ≤ w.heap.size
  hh2 : h2 ≤ w.heap.size
theorem Heads.below {h lo2 h2 : Nat} {l0 l1 l2 : List S} {p0 p1 p2 : Value} {w w' : World} (hs : Heads h lo2 h2 l0 l1 l2 p0 p1 p2 w) (hb : Below w.heap.size w w') : Heads h lo2 h2 l0 l1 l2 p0 p1 p2 w' :=
  ⟨hs.i0.below hb hs.hh, hs.i1.below hb hs.hh, hs.i2.below hb hs.hh2, Nat.le_trans hs.hh hb.size, Nat.le_trans hs.hh2 hb.size⟩
/-- Where heads' sorts lie. -/
def HeadsR (h lo2 h2 lo hi : Nat) : Prop := (lo = 0 ∧ hi = h) ∨ (lo = lo2 ∧ hi = h2)

end Go.Proofs.YtkkfdiidneoelaaDoor
