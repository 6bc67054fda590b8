/-
  A map from names to numbers.
-/
import Derived.Test.YtbbejhhohppdhaaGreatDoorGD
import Derived.Maps.OwnSet
import Derived.RangeFuncBox
namespace Go.Proofs.YtbbejhhohppdhaaGreatDoor
open Go.RowKit Go.ChangeShapes Go.WideShapes Go.ChangeMaps
open Go.Maps (Keyed IsMap)

/-- Block b is a map that has the number f k at the name k. -/
def MapN (w : World) (b n : Nat) (f : List UInt8 → Option Nat) : Prop :=
  ∃ D : DataW Unit, w.ownsMap Tryz.prog 9 (plainElem Tryz.prog 3) b n D ∧ IsMap D ∧ ∀ k : List UInt8, Maps.has D (.string k) = (f k).isSome ∧ D.atKey (.string k) (.lit (.int .i64 0)) = .lit (.int .i64 ((f k).getD 0 : Nat))
theorem MapN.made (w : World) : MapN (w.alloc (.map #[] 0)) w.heap.size 0 (fun _ => none) :=
  ⟨.map [], World.ownsMap_made _ _ _ _, by simp [IsMap], fun k => ⟨by simp [Maps.has_eq], by simp [WideAt.atKey_none]⟩⟩
theorem MapN.kept {w w' : World} {b n : Nat} {f : List UInt8 → Option Nat} (h : MapN w b n f) {row : Option Nat} (hg : w.grownBy w' row) (hne : some b ≠ row) : MapN w' b n f := by
  obtain ⟨D, h1, h2, h3⟩ := h
  exact ⟨D, h1.kept hg hne, h2, h3⟩
theorem MapN.lt {w : World} {b n : Nat} {f : List UInt8 → Option Nat} (h : MapN w b n f) : b < w.heap.size := by
  obtain ⟨D, h1, _, _⟩ := h
  exact h1.lt
theorem MapN.noCells {w : World} {b n : Nat} {f : List UInt8 → Option Nat} (h : MapN w b n f) : ∃ o : Obj, w.heap[b]? = some o ∧ o.isCells = false := by
  obtain ⟨D, ⟨es, ck, hh, _⟩, _, _⟩ := h
  exact ⟨_, hh, rfl⟩
theorem MapN.same {w w' : World} {b n : Nat} {f : List UInt8 → Option Nat} (h : MapN w b n f) (hb : w'.heap[b]? = w.heap[b]?) : MapN w' b n f := by
  obtain ⟨D, ⟨es, ck, hh, hr⟩, h2, h3⟩ := h
  exact ⟨D, ⟨es, ck, hb.trans hh, hr⟩, h2, h3⟩
theorem MapN.look {w : World} {b n : Nat} {f : List UInt8 → Option Nat} (h : MapN w b n f) (s : ByteArray) (hs : s.size ≤ maxLen) :
    (Instr.lookup 52 (.map (some b)) (.string s) true).run Tryz.prog w = .ok (.tuple #[.int .i64 ((f s.data.toList).getD 0 : Nat), .bool (f s.data.toList).isSome]) w := by
  obtain ⟨D, h1, h2, h3⟩ := h
  obtain ⟨v, ps, hrun, hv⟩ := h1.look_ok (Maps.string_keyed Tryz.underlying9) Tryz.underlying52 (Tryz.zeroValue3 w) (plainElem_int Tryz.underlying3 (by decide)) (WideMaps.keyOf_string_mk Tryz.underlying9 hs)
  obtain ⟨g1, g2⟩ := h3 s.data.toList
  rw [g2] at hv
  obtain ⟨a, ha, he, _⟩ := plainElem_int_inv Tryz.underlying3 hv
  have : a = ((f s.data.toList).getD 0 : Nat) := by
    have := congrArg Prod.fst he
    simp at this
    exact this.symm
  rw [hrun, g1, ha, this]
/-- The number of the name put last. -/
def putN (f : List UInt8 → Option Nat) (s : List UInt8) (i : Nat) : List UInt8 → Option Nat := fun k => if k = s then some i else f k
theorem MapN.put {w : World} {b n : Nat} {f : List UInt8 → Option Nat} (h : MapN w b n f) (hn : n < maxLen) (s : ByteArray) (hs : s.size ≤ maxLen) (i : Nat) (hi : i ≤ 1000000) :
    ∃ w', (Instr.mapUpdate 52 (.map (some b)) (.string s) (.int .i64 (i : Int))).run Tryz.prog w = .ok () w' ∧ MapN w' b (n + 1) (putN f s.data.toList i) ∧ w.grownBy w' (some b) := by
  obtain ⟨D, h1, h2, h3⟩ := h
  have hwf : (Lit.int .i64 (i : Int)).wf = true := by
    simp only [Lit.wf, Bool.and_eq_true, decide_eq_true_eq]
    refine ⟨?_, ?_⟩
    · show (-9223372036854775808 : Int) ≤ (i : Int); omega
    · show (i : Int) ≤ 9223372036854775807; omega
  obtain ⟨w', hrun, hown, hg⟩ := h1.update (Maps.string_keyed Tryz.underlying9) Tryz.underlying52 hn (WideMaps.keyOf_string_mk Tryz.underlying9 hs) (plainElem_int Tryz.underlying3 hwf)
  refine ⟨w', hrun, ⟨_, hown, h2.put _ _, fun k => ?_⟩, hg⟩
  by_cases hk : k = s.data.toList
  · subst hk
    rw [Maps.has_put_same h2 (by simp [WideAt.IsKeyLit]), Maps.atKey_put_same h2 (by simp [WideAt.IsKeyLit])]
    simp [putN]
  · have hne : (Lit.string k) ≠ Lit.string s.data.toList := fun e => by injection e with e; exact hk e
    rw [Maps.has_put_other hne, Maps.atKey_put_other hne]
    simpa [putN, hk] using h3 k
end Go.Proofs.YtbbejhhohppdhaaGreatDoor
