/-
  Places: symbols in memory, term.areSymbols and the reference's Symbols.
-/
import Derived.Test.YtkkfdiidneoelaaDoorName
import Derived.Test.YtkkfdiidneoelaaDoorTMem
import Derived.Maps.Own
import Derived.Maps.Views
namespace Go.Proofs.YtkkfdiidneoelaaDoor
open Go.RowKit Go.ChangeShapes Go.WideShapes Go.ChangeMaps
open Go.Maps (Keyed IsMap)

/-- A symbol: its name and its rank. -/
structure Sy where
  name : ByteArray
  rank : Int

/-- The cells of a row of symbols, two for each. -/
def syCells : List Sy → List Value
  | [] => []
  | s :: r => .string s.name :: .int .i64 s.rank :: syCells r
theorem syCells_at : ∀ {l : List Sy} {k : Nat} {x : Sy}, l[k]? = some x → (syCells l)[k * 2]? = some (.string x.name) ∧ (syCells l)[k * 2 + 1]? = some (.int .i64 x.rank)
  | [], k, x, h => by simp at h
  | s :: r, 0, x, h => by simp at h; subst h; exact ⟨rfl, rfl⟩
  | s :: r, k + 1, x, h => by
    have := syCells_at (l := r) (k := k) (x := x) (by simpa using h)
    rw [show (k + 1) * 2 = k * 2 + 1 + 1 from by omega]
    simpa [syCells] using this
/-- A slice of symbols. -/
def SyIn (w : World) (P : Nat → Prop) (l : List Sy) (v : Value) : Prop :=
  ∃ A n c, v = .slice A n c ∧ l.length = n ∧ n ≤ c ∧ c ≤ 9223372036854775807 ∧ Rd w P A (syCells l) ∧ ∀ x ∈ l, x.name.size ≤ maxLen
theorem SyIn.old {w w' : World} {P : Nat → Prop} {l : List Sy} {v : Value} (h : SyIn w P l v) (ho : Old P w) (hb : Below w.heap.size w w') : SyIn w' P l v := by
  obtain ⟨A, n, c, h1, h2, h3, h4, h5, h6⟩ := h
  exact ⟨A, n, c, h1, h2, h3, h4, h5.keep (fun b hb' => hb.block b (ho b hb')), h6⟩
/-- The two cells of a symbol. -/
def SyEl (w : World) (ad : Addr) (k : Nat) (x : Sy) : Prop :=
  w.cell? (ad.add (k * 2)) = some (.string x.name) ∧ w.cell? ⟨(ad.add (k * 2)).block, (ad.add (k * 2)).off + 1, none⟩ = some (.int .i64 x.rank)
theorem SyEl.keep {w w' : World} {ad : Addr} {k : Nat} {x : Sy} (h : SyEl w ad k x) (hb : w'.heap[ad.block]? = w.heap[ad.block]?) : SyEl w' ad k x :=
  ⟨(World.cell?_of_block (by rw [block_of_add]; exact hb)).trans h.1, (World.cell?_of_block (by show w'.heap[(ad.add (k * 2)).block]? = _; rw [block_of_add]; exact hb)).trans h.2⟩
theorem sy_el {w : World} {P : Nat → Prop} {A : Option Addr} {l : List Sy} (hr : Rd w P A (syCells l)) {k : Nat} {x : Sy} (hx : l[k]? = some x) : ∃ ad, A = some ad ∧ P ad.block ∧ SyEl w ad k x := by
  obtain ⟨g1, g2⟩ := syCells_at hx
  rcases hr with h | ⟨ad, h1, h2, h3⟩
  · rw [h] at g1; simp at g1
  · exact ⟨ad, h1, h2, h3 _ _ g1, by rw [← add_one_more ad (k * 2) 0]; exact h3 _ _ g2⟩

def rankB (r : Int) : Bool := decide (0 ≤ r) && decide (r ≤ 4)
/-- Names are names, each once, and ranks are from 0 to 4. -/
def syOkFrom (seen : List (List UInt8)) : List Sy → Bool
  | [] => true
  | x :: r => nameB x.name.data.toList && (!seen.contains x.name.data.toList && (rankB x.rank && syOkFrom (seen ++ [x.name.data.toList]) r))
def symsB (l : List Sy) : Bool := decide (l.length ≤ 24) && syOkFrom [] l
def nm (x : Sy) : List UInt8 := x.name.data.toList
def syOk1 (l : List Sy) (k : Nat) (x : Sy) : Bool := nameB (nm x) && (!((l.take k).map nm).contains (nm x) && rankB x.rank)
theorem syOkFrom_split : ∀ (l : List Sy) (seen : List (List UInt8)) (k : Nat), syOkFrom seen l = (syOkFrom seen (l.take k) && syOkFrom (seen ++ (l.take k).map nm) (l.drop k))
  | [], seen, k => by simp [syOkFrom]
  | x :: r, seen, 0 => by simp [syOkFrom]
  | x :: r, seen, k + 1 => by
    have := syOkFrom_split r (seen ++ [x.name.data.toList]) k
    simp only [syOkFrom, List.take_succ_cons, List.drop_succ_cons, List.map_cons]
    rw [this]
    simp [nm, Bool.and_assoc]
theorem syOk_succ {l : List Sy} {k : Nat} {x : Sy} (hx : l[k]? = some x) (h : syOkFrom [] (l.take k) = true) (h1 : syOk1 l k x = true) : syOkFrom [] (l.take (k + 1)) = true := by
  have hlt : k < l.length := (List.getElem?_eq_some_iff.1 hx).1
  have e : l.take (k + 1) = l.take k ++ [x] := by rw [List.take_add_one, hx]; rfl
  have := syOkFrom_split (l.take (k + 1)) [] k
  rw [this, List.take_take, Nat.min_eq_left (by omega), h, Bool.true_and, e, List.drop_left' (by simp; omega)]
  simp only [syOk1, Bool.and_eq_true, Bool.not_eq_true'] at h1
  simp only [syOkFrom, List.nil_append, Bool.and_eq_true, Bool.not_eq_true', and_true]
  exact ⟨h1.1, h1.2.1, h1.2.2⟩
theorem syOk_false {l : List Sy} {k : Nat} {x : Sy} (hx : l[k]? = some x) (h1 : syOk1 l k x = false) : syOkFrom [] l = false := by
  have hlt : k < l.length := (List.getElem?_eq_some_iff.1 hx).1
  rw [syOkFrom_split l [] k, List.drop_eq_getElem_cons hlt]
  have hxe : l[k] = x := by rw [List.getElem?_eq_getElem hlt] at hx; exact Option.some.inj hx
  rw [hxe]
  rw [Bool.eq_false_iff]
  intro hh
  simp only [syOkFrom, List.nil_append, Bool.and_eq_true, Bool.not_eq_true'] at hh
  have : syOk1 l k x = true := by
    simp only [syOk1, Bool.and_eq_true, Bool.not_eq_true']
    exact ⟨hh.2.1, hh.2.2.1, hh.2.2.2.1⟩
  rw [h1] at this; cases this
end Go.Proofs.YtkkfdiidneoelaaDoor
