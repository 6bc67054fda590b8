/-
  The functions of a scheme, and schemes, in memory.
-/
import Derived.Test.YtkkfdiidneoelaaDoorPlace
namespace Go.Proofs.YtkkfdiidneoelaaDoor
open Go.RowKit

/-- A function of a scheme. -/
structure Fn where
  name : ByteArray
  sort : S
  body : T
/-- A function's value, by the slices of its sort and of its body. -/
def Fn.val (f : Fn) (u v : Value) : Value := .agg #[.string f.name, u, .int .i64 f.body.kind, .int .i64 f.body.num, v]
/-- A function's cells. -/
def Fn.cells (f : Fn) (u v : Value) : Array Value := #[.string f.name, u, .int .i64 f.body.kind, .int .i64 f.body.num, v]
/-- The cells of a row of functions, five for each; all that they reach lies below hi. -/
def FnRow (w : World) (hi : Nat) : List Fn → List Value → Prop
  | [], us => us = []
  | f :: r, us => ∃ u v ut, us = .string f.name :: u :: .int .i64 f.body.kind :: .int .i64 f.body.num :: v :: ut ∧ f.sort.In w 0 hi u ∧ f.body.In w (fun b => b < hi) v ∧ f.name.size ≤ maxLen ∧ FnRow w hi r ut
/-- A slice of functions. -/
def FnIn (w : World) (hi : Nat) (l : List Fn) (v : Value) : Prop :=
  ∃ A n c us, v = .slice A n c ∧ l.length = n ∧ n ≤ c ∧ c ≤ 9223372036854775807 ∧ Rd w (fun b => b < hi) A us ∧ FnRow w hi l us
theorem FnRow.keep {w w' : World} {hi : Nat} (hb : ∀ b, b < hi → w'.heap[b]? = w.heap[b]?) : ∀ (l : List Fn) {us : List Value}, FnRow w hi l us → FnRow w' hi l us
  | [], us, h => by simpa [FnRow] using h
  | f :: r, us, h => by
    simp only [FnRow] at h ⊢
    obtain ⟨u, v, ut, h1, h2, h3, h4, h5⟩ := h
    exact ⟨u, v, ut, h1, S.In.keep (fun p _ hp => World.cell?_of_block (hb _ hp)) _ h2, T.In.keep hb _ h3, h4, FnRow.keep hb r h5⟩
theorem FnRow.more {w : World} {hi hi' : Nat} (hb : hi ≤ hi') : ∀ (l : List Fn) {us : List Value}, FnRow w hi l us → FnRow w hi' l us
  | [], us, h => by simpa [FnRow] using h
  | f :: r, us, h => by
    simp only [FnRow] at h ⊢
    obtain ⟨u, v, ut, h1, h2, h3, h4, h5⟩ := h
    exact ⟨u, v, ut, h1, S.In.more (Nat.le_refl _) hb _ h2, T.In.more (fun b h => Nat.lt_of_lt_of_le h hb) _ h3, h4, FnRow.more hb r h5⟩
theorem FnIn.below {w w' : World} {B hi : Nat} {l : List Fn} {v : Value} (h : FnIn w hi l v) (hb : Below B w w') (hB : hi ≤ B) : FnIn w' hi l v := by
  obtain ⟨A, n, c, us, h1, h2, h3, h4, h5, h6⟩ := h
  exact ⟨A, n, c, us, h1, h2, h3, h4, h5.keep (fun b hb' => hb.block b (by omega)), FnRow.keep (fun b hb' => hb.block b (by omega)) l h6⟩
theorem FnIn.more {w : World} {hi hi' : Nat} {l : List Fn} {v : Value} (h : FnIn w hi l v) (hb : hi ≤ hi') : FnIn w hi' l v := by
  obtain ⟨A, n, c, us, h1, h2, h3, h4, h5, h6⟩ := h
  exact ⟨A, n, c, us, h1, h2, h3, h4, h5.more (fun b h => Nat.lt_of_lt_of_le h hb), FnRow.more hb l h6⟩
theorem FnIn.form {w : World} {hi : Nat} {l : List Fn} {v : Value} (h : FnIn w hi l v) : ∃ A n c, v = .slice A n c := by
  obtain ⟨A, n, c, us, h1, _⟩ := h
  exact ⟨A, n, c, h1⟩
/-- The five cells of an element. -/
structure FnEl (w : World) (ad : Addr) (k : Nat) (f : Fn) (u v : Value) : Prop where
  c0 : w.cell? (ad.add (k * 5)) = some (.string f.name)
  c1 : w.cell? ⟨(ad.add (k * 5)).block, (ad.add (k * 5)).off + 1, none⟩ = some u
  c2 : w.cell? ⟨(ad.add (k * 5)).block, (ad.add (k * 5)).off + 2, none⟩ = some (.int .i64 f.body.kind)
  c3 : w.cell? ⟨(ad.add (k * 5)).block, (ad.add (k * 5)).off + 3, none⟩ = some (.int .i64 f.body.num)
  c4 : w.cell? ⟨(ad.add (k * 5)).block, (ad.add (k * 5)).off + 4, none⟩ = some v
theorem FnEl.keep {w w' : World} {ad : Addr} {k : Nat} {f : Fn} {u v : Value} (h : FnEl w ad k f u v) (hb : w'.heap[ad.block]? = w.heap[ad.block]?) : FnEl w' ad k f u v := by
  have hh : ∀ i, w'.cell? ⟨(ad.add (k * 5)).block, (ad.add (k * 5)).off + i, none⟩ = w.cell? ⟨(ad.add (k * 5)).block, (ad.add (k * 5)).off + i, none⟩ := fun i => World.cell?_of_block (by show w'.heap[(ad.add (k * 5)).block]? = _; rw [block_of_add]; exact hb)
  exact ⟨(World.cell?_of_block (by rw [block_of_add]; exact hb)).trans h.c0, (hh 1).trans h.c1, (hh 2).trans h.c2, (hh 3).trans h.c3, (hh 4).trans h.c4⟩
theorem FnRow.length {w : World} {hi : Nat} : ∀ {l : List Fn} {us : List Value}, FnRow w hi l us → us.length = l.length * 5
  | [], us, h => by simp only [FnRow] at h; simp [h]
  | f :: r, us, h => by
    simp only [FnRow] at h
    obtain ⟨u, v, ut, rfl, _, _, _, h5⟩ := h
    have := h5.length
    simp [this]; omega
theorem FnRow.at_ {w : World} {hi : Nat} : ∀ {l : List Fn} {us : List Value}, FnRow w hi l us → ∀ {k : Nat} {f : Fn}, l[k]? = some f →
    ∃ u v, us[k * 5]? = some (.string f.name) ∧ us[k * 5 + 1]? = some u ∧ us[k * 5 + 2]? = some (.int .i64 f.body.kind) ∧ us[k * 5 + 3]? = some (.int .i64 f.body.num) ∧ us[k * 5 + 4]? = some v ∧
      f.sort.In w 0 hi u ∧ f.body.In w (fun b => b < hi) v ∧ f.name.size ≤ maxLen
  | [], us, h, k, f, hx => by simp at hx
  | g :: r, us, h, k, f, hx => by
    simp only [FnRow] at h
    obtain ⟨u, v, ut, rfl, h2, h3, h4, h5⟩ := h
    cases k with
    | zero => simp at hx; subst hx; exact ⟨u, v, rfl, rfl, rfl, rfl, rfl, h2, h3, h4⟩
    | succ k =>
      simp at hx
      obtain ⟨u', v', g0, g1, g2, g3, g4, g5⟩ := h5.at_ hx
      rw [show (k + 1) * 5 = k * 5 + 1 + 1 + 1 + 1 + 1 from by omega]
      exact ⟨u', v', by simpa using g0, by simpa using g1, by simpa using g2, by simpa using g3, by simpa using g4, g5⟩
theorem fn_el {w : World} {hi : Nat} {A : Option Addr} {us : List Value} {l : List Fn} (hr : Rd w (fun b => b < hi) A us) (h : FnRow w hi l us) {k : Nat} {f : Fn} (hx : l[k]? = some f) :
    ∃ ad u v, A = some ad ∧ ad.block < hi ∧ FnEl w ad k f u v ∧ f.sort.In w 0 hi u ∧ f.body.In w (fun b => b < hi) v ∧ f.name.size ≤ maxLen := by
  obtain ⟨u, v, g0, g1, g2, g3, g4, g5⟩ := h.at_ hx
  rcases hr with rfl | ⟨ad, h1, h2, h3⟩
  · simp at g0
  · exact ⟨ad, u, v, h1, h2, ⟨h3 _ _ g0, by rw [← add_one_more ad (k * 5) 0]; exact h3 _ _ g1, by rw [← add_one_more ad (k * 5) 1]; exact h3 _ _ g2, by rw [← add_one_more ad (k * 5) 2]; exact h3 _ _ g3, by rw [← add_one_more ad (k * 5) 3]; exact h3 _ _ g4⟩, g5⟩

/-- A scheme. -/
structure Sc where
  syms : List Sy
  funs : List Fn
/-- A scheme's two cells; all that it reaches lies below hi. -/
structure ScIn (w : World) (hi : Nat) (s : Sc) (v0 v1 : Value) : Prop where
  sy : SyIn w (fun b => b < hi) s.syms v0
  fn : FnIn w hi s.funs v1
theorem SyIn.below {w w' : World} {B hi : Nat} {l : List Sy} {v : Value} (h : SyIn w (fun b => b < hi) l v) (hb : Below B w w') (hB : hi ≤ B) : SyIn w' (fun b => b < hi) l v := by
  obtain ⟨A, n, c, h1, h2, h3, h4, h5, h6⟩ := h
  exact ⟨A, n, c, h1, h2, h3, h4, h5.keep (fun b hb' => hb.block b (by omega)), h6⟩
theorem SyIn.more {w : World} {hi hi' : Nat} {l : List Sy} {v : Value} (h : SyIn w (fun b => b < hi) l v) (hb : hi ≤ hi') : SyIn w (fun b => b < hi') l v := by
  obtain ⟨A, n, c, h1, h2, h3, h4, h5, h6⟩ := h
  exact ⟨A, n, c, h1, h2, h3, h4, h5.more (fun b h => Nat.lt_of_lt_of_le h hb), h6⟩
theorem ScIn.below {w w' : World} {B hi : Nat} {s : Sc} {v0 v1 : Value} (h : ScIn w hi s v0 v1) (hb : Below B w w') (hB : hi ≤ B) : ScIn w' hi s v0 v1 := ⟨h.sy.below hb hB, h.fn.below hb hB⟩
theorem ScIn.more {w : World} {hi hi' : Nat} {s : Sc} {v0 v1 : Value} (h : ScIn w hi s v0 v1) (hb : hi ≤ hi') : ScIn w hi' s v0 v1 := ⟨h.sy.more hb, h.fn.more hb⟩


theorem fn_info : (Tryd.prog.info? 46).map (fun i => (i.zero, i.size, i.bytes)) = some (some (.agg #[.string ⟨#[]⟩, .slice none 0 0, .int .i64 0, .int .i64 0, .slice none 0 0]), 5, 80) := by kernel_rfl
end Go.Proofs.YtkkfdiidneoelaaDoor
