/-
  What term.Free's visit finds, on plain terms; a map of numbers.
-/
import Derived.Test.YthgkgjbjiiedaaaGreatDoorTVars
import Derived.Test.YthgkgjbjiiedaaaGreatDoorGD
import Derived.Maps.OwnSet
import Derived.Lib.SlKeysI
namespace Go.Proofs.YthgkgjbjiiedaaaGreatDoor
open Go.RowKit Go.Maps

/-- The numbers met so far; a variable's number is no negative one. -/
def stepNat (st : List Int) (x : T) (_ : Nat) : Bool × List Int := if x.kind = 0 then (decide (0 ≤ x.num), st ++ [x.num]) else (true, st)
mutual
theorem visitT_nat : ∀ (t : T) (st : List Int) (lvl : Nat), (visitT stepNat st lvl t).1 = t.vrs.all (fun x => decide (0 ≤ x)) ∧
    ((visitT stepNat st lvl t).1 = true → (visitT stepNat st lvl t).2 = st ++ t.vrs)
  | .mk k n l, st, lvl => by
    by_cases hk : k = 0
    · by_cases hn : 0 ≤ n
      · have h := visitTL_nat l (st ++ [n]) (lvl + 1)
        have hv : visitT stepNat st lvl (.mk k n l) = visitTL stepNat (st ++ [n]) (lvl + 1) l := by simp [visitT, stepNat, T.kind, T.num, hk, hn]
        rw [hv]
        exact ⟨by rw [h.1]; simp [T.vrs, hk, hn], fun ht => by rw [h.2 ht]; simp [T.vrs, hk]⟩
      · have hv : visitT stepNat st lvl (.mk k n l) = (false, st ++ [n]) := by simp [visitT, stepNat, T.kind, T.num, hk, hn]
        rw [hv]
        exact ⟨by simp [T.vrs, hk, hn], fun ht => by cases ht⟩
    · have h := visitTL_nat l st (lvl + 1)
      have hv : visitT stepNat st lvl (.mk k n l) = visitTL stepNat st (lvl + 1) l := by simp [visitT, stepNat, T.kind, hk]
      rw [hv]
      exact ⟨by rw [h.1]; simp [T.vrs, hk], fun ht => by rw [h.2 ht]; simp [T.vrs, hk]⟩
theorem visitTL_nat : ∀ (l : List T) (st : List Int) (lvl : Nat), (visitTL stepNat st lvl l).1 = (T.vrsL l).all (fun x => decide (0 ≤ x)) ∧
    ((visitTL stepNat st lvl l).1 = true → (visitTL stepNat st lvl l).2 = st ++ T.vrsL l)
  | [], st, lvl => by simp [visitTL, T.vrsL]
  | x :: r, st, lvl => by
    have h := visitT_nat x st lvl
    have hr := visitTL_nat r (visitT stepNat st lvl x).2 lvl
    simp only [visitTL, T.vrsL, List.all_append]
    by_cases hc : (visitT stepNat st lvl x).1 = true
    · rw [if_pos hc, hr.1, ← h.1, hc, Bool.true_and]
      refine ⟨rfl, fun ht => ?_⟩
      have ht' : (visitTL stepNat (visitT stepNat st lvl x).2 lvl r).1 = true := by rw [hr.1]; exact ht
      rw [hr.2 ht', h.2 hc, List.append_assoc]
    · have hc' := Bool.eq_false_iff.2 hc
      rw [if_neg hc, ← h.1, hc', Bool.false_and]
      exact ⟨rfl, fun ht => by cases ht⟩
end
/-- All variables' numbers are none below 0, asked of the list of the numbers. -/
theorem T.nat_vars (t : T) : (t.vrs.all fun x => decide (0 ≤ x)) = (t.vars []).all fun x => decide (0 ≤ x) := by
  rw [Bool.eq_iff_iff, List.all_eq_true, List.all_eq_true]
  exact ⟨fun h x hx => h x (T.mem_vars.1 hx), fun h x hx => h x (T.mem_vars.2 hx)⟩

/-- A map's keys that are these numbers. -/
def zSet (l : List Int) : DataW Unit := setOf (.lit (.bool true)) (l.map (Lit.int .i64))
/-- Block b is a map of the numbers l. -/
def MapZ (w : World) (b : Nat) (l : List Int) : Prop := w.ownsMap Tryz.prog 3 (plainElem Tryz.prog 4) b l.length (zSet l)
theorem MapZ.made (w : World) : MapZ (w.alloc (.map #[] 0)) w.heap.size [] := World.ownsMap_made _ _ _ _
theorem MapZ.kept {w w' : World} {b : Nat} {l : List Int} (h : MapZ w b l) {row : Option Nat} (hg : w.grownBy w' row) (hne : some b ≠ row) : MapZ w' b l := World.ownsMap.kept h hg hne
theorem MapZ.lt {w : World} {b : Nat} {l : List Int} (h : MapZ w b l) : b < w.heap.size := World.ownsMap.lt h
theorem MapZ.below {w w' : World} {b : Nat} {l : List Int} (h : MapZ w b l) (hb : Below w.heap.size w w') : MapZ w' b l := by
  obtain ⟨es, clock, h1, h2⟩ := h
  exact ⟨es, clock, (hb.block b (World.ownsMap.lt ⟨es, clock, h1, h2⟩)).trans h1, h2⟩
theorem MapZ.put {w : World} {b : Nat} {l : List Int} (h : MapZ w b l) (hn : l.length < 1000000) {x : Int} (hx : (Lit.int .i64 x).wf = true) :
    ∃ w', (Instr.mapUpdate 70 (.map (some b)) (.int .i64 x) (.bool true)).run Tryz.prog w = .ok () w' ∧ MapZ w' b (l ++ [x]) ∧ w.grownBy w' (some b) := by
  obtain ⟨w', hrun, hown, hg⟩ := World.ownsMap.update h (Maps.int_keyed Tryz.underlying3) Tryz.underlying70 (by simp only [maxLen]; omega) (Maps.keyOf_int_mk Tryz.underlying3 hx) (plainElem_bool Tryz.underlying4 true)
  refine ⟨w', hrun, ?_, hg⟩
  unfold MapZ zSet
  rw [List.map_append, List.length_append]
  simp only [List.map_cons, List.map_nil, List.length_cons, List.length_nil]
  rw [setOf_snoc]
  exact hown
theorem keys_lit (l : List Int) : ∀ x ∈ l.map (Lit.int .i64), WideAt.IsKeyLit x := by
  intro x hx
  obtain ⟨y, _, rfl⟩ := List.mem_map.1 hx
  simp [WideAt.IsKeyLit]
theorem has_zSet (l : List Int) (x : Int) : has (zSet l) (.int .i64 x) = true ↔ x ∈ l := by
  unfold zSet
  rw [has_setOf _ _ _ (keys_lit l), List.any_eq_true]
  constructor
  · rintro ⟨y, hy, hs⟩
    obtain ⟨z, hz, rfl⟩ := List.mem_map.1 hy
    have : z = x := by simpa [Lit.sameKey] using hs
    exact this ▸ hz
  · intro hx
    exact ⟨.int .i64 x, List.mem_map.2 ⟨x, hx, rfl⟩, by simp [Lit.sameKey]⟩
theorem up_nodup {l : List Int} (h : l.Pairwise (· < ·)) : l.Nodup := h.imp (fun h => by omega)
/-- What the keys of the map come to, put into order, is the list of the numbers. -/
theorem sorted_zSet {w : World} {b : Nat} {t : T} (h : MapZ w b t.vrs) {ss : List Int} (hp : ss.Perm (intKeys (zSet t.vrs))) : ss.mergeSort leI = t.vars [] ∧ ss.length = (t.vars []).length := by
  have hc : CollectedI (zSet t.vrs) (fun _ => false) (t.vars []) := ⟨up_nodup t.vars_up, fun x => by rw [T.mem_vars, has_zSet]; simp⟩
  have hp2 := hc.perm h (Maps.int_keyed Tryz.underlying3) Tryz.underlying3 (fun _ => rfl)
  have hp3 := hp.trans hp2.symm
  refine ⟨?_, hp3.length_eq⟩
  rw [mergeSort_of_perm_i hp3]
  refine List.mergeSort_of_pairwise ?_
  exact t.vars_up.imp (fun h => by simp only [leI, decide_eq_true_eq]; omega)
end Go.Proofs.YthgkgjbjiiedaaaGreatDoor
