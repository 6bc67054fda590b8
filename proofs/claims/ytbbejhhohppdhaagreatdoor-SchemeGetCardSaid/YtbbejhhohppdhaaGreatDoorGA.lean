/-
  Sorts as plain trees, and what it is for a value in memory to be one: no program is named here.
  The reference's functions on sorts: contracts.
  The reference's Check and Size of sorts: contracts.
  nest.visit at sorts: whoever visits a sort, node by node.
  sorts.Size, sorts.Check: contracts.
  The order: sorts.order, sorts.Order, and the reference's Rank and Order.
  Equality: sorts.equal, slices.EqualFunc, sorts.Same, and the reference's Equal and Same.
  sorts.clone and the reference's Copy: what they return is the sort, each array in a block of its own.
  The reference's Copy: what it returns is the sort, each array in a block of its own.
  The reference's Copy of a great sort.
  sorts.Behind and the reference's Behind.
-/
import Derived.WalkKit
import Derived.WalkSpells
import Derived.WalkLawsBesides
import Derived.Lib.Hide
import Derived.Deep.Draws
import Derived.Test.YtbbejhhohppdhaaGreatDoorRows
import Derived.Deep.RegionWith
import Derived.Deep.RegionHeld3
import Derived.Deep.RegionLaw
import Derived.Deep.AppendLies
import Derived.OwnWalk
namespace Go.Proofs.YtbbejhhohppdhaaGreatDoor
open Go.RowKit

/-- A sort: the list of its arguments. -/
inductive S where
  | mk (args : List S)
def S.args : S → List S | .mk l => l
theorem S.eta (s : S) : S.mk s.args = s := by cases s; rfl

mutual
/-- The nodes. -/
def S.count : S → Nat
  | .mk l => 1 + S.countL l
def S.countL : List S → Nat
  | [] => 0
  | s :: r => s.count + S.countL r
end
mutual
/-- The depth. -/
def S.deep : S → Nat
  | .mk l => S.deepL l + 1
def S.deepL : List S → Nat
  | [] => 0
  | s :: r => max s.deep (S.deepL r)
end
mutual
/-- The order. -/
def S.ord : S → Nat
  | .mk l => S.ordL l
def S.ordL : List S → Nat
  | [] => 0
  | s :: r => max (1 + s.ord) (S.ordL r)
end
mutual
/-- No sort in it has more than 8 arguments. -/
def S.few : S → Bool
  | .mk l => S.fewL l && decide (l.length ≤ 8)
def S.fewL : List S → Bool
  | [] => true
  | s :: r => s.few && S.fewL r
end

/-- The sort is valid. -/
def S.ok (s : S) : Bool := decide (s.count ≤ 60) && decide (s.deep ≤ 30) && s.few
theorem S.count_pos (s : S) : 0 < s.count := by cases s; simp only [S.count]; omega
theorem S.countL_take_succ (l : List S) (k : Nat) (x : S) (h : l[k]? = some x) : S.countL (l.take (k + 1)) = S.countL (l.take k) + x.count := by
  induction l generalizing k with
  | nil => simp at h
  | cons a r ih =>
    cases k with
    | zero => simp at h; subst h; simp [S.countL]
    | succ k => simp at h; simp [S.countL, ih k h]; omega
theorem S.countL_take_le (l : List S) (k : Nat) : S.countL (l.take k) ≤ S.countL l := by
  induction l generalizing k with
  | nil => simp
  | cons a r ih => cases k with
    | zero => simp [S.countL]
    | succ k => simp [S.countL]; exact ih k
theorem S.count_lt {l : List S} {k : Nat} {x : S} (h : l[k]? = some x) : x.count < (S.mk l).count := by
  have h1 := S.countL_take_succ l k x h
  have h2 := S.countL_take_le l (k + 1)
  simp only [S.count]; omega

theorem S.deepL_take_succ (l : List S) (k : Nat) (x : S) (h : l[k]? = some x) : S.deepL (l.take (k + 1)) = max (S.deepL (l.take k)) x.deep := by
  induction l generalizing k with
  | nil => simp at h
  | cons a r ih =>
    cases k with
    | zero => simp at h; subst h; simp [S.deepL]
    | succ k => simp at h; simp [S.deepL, ih k h, Nat.max_assoc]
theorem S.deepL_take_le (l : List S) (k : Nat) : S.deepL (l.take k) ≤ S.deepL l := by
  induction l generalizing k with
  | nil => simp
  | cons a r ih => cases k with
    | zero => simp [S.deepL]
    | succ k => have := ih k; simp [S.deepL]; omega
theorem S.ordL_take_le (l : List S) (k : Nat) : S.ordL (l.take k) ≤ S.ordL l := by
  induction l generalizing k with
  | nil => simp
  | cons a r ih => cases k with
    | zero => simp [S.ordL]
    | succ k => have := ih k; simp [S.ordL]; omega
theorem S.fewL_take_succ (l : List S) (k : Nat) (x : S) (h : l[k]? = some x) : S.fewL (l.take (k + 1)) = (S.fewL (l.take k) && x.few) := by
  induction l generalizing k with
  | nil => simp at h
  | cons a r ih =>
    cases k with
    | zero => simp at h; subst h; simp [S.fewL]
    | succ k => simp at h; simp [S.fewL, ih k h, Bool.and_assoc]
theorem S.fewL_false (l : List S) (k : Nat) (x : S) (h : l[k]? = some x) (hx : x.few = false) : S.fewL l = false := by
  induction l generalizing k with
  | nil => simp at h
  | cons a r ih =>
    cases k with
    | zero => simp at h; subst h; simp [S.fewL, hx]
    | succ k => simp at h; simp [S.fewL, ih k h]
theorem S.ordL_take_succ (l : List S) (k : Nat) (x : S) (h : l[k]? = some x) : S.ordL (l.take (k + 1)) = max (S.ordL (l.take k)) (1 + x.ord) := by
  induction l generalizing k with
  | nil => simp at h
  | cons a r ih =>
    cases k with
    | zero => simp at h; subst h; simp [S.ordL]
    | succ k => simp at h; simp [S.ordL, ih k h, Nat.max_assoc]
mutual
theorem S.deep_le : ∀ s : S, s.deep ≤ s.count
  | .mk l => by have := S.deepL_le l; simp only [S.deep, S.count]; omega
theorem S.deepL_le : ∀ l : List S, S.deepL l ≤ S.countL l
  | [] => by simp [S.deepL]
  | s :: r => by have := S.deep_le s; have := S.deepL_le r; simp only [S.deepL, S.countL]; omega
end
mutual
theorem S.ord_lt : ∀ s : S, s.ord < s.deep
  | .mk l => by have := S.ordL_le l; simp only [S.deep, S.ord]; omega
theorem S.ordL_le : ∀ l : List S, S.ordL l ≤ S.deepL l
  | [] => by simp [S.ordL]
  | s :: r => by have := S.ord_lt s; have := S.ordL_le r; simp only [S.deepL, S.ordL]; omega
end
mutual
/-- A cell's value is the sort: a slice, whose elements lie in blocks from lo to hi and are its arguments. -/
def S.In (w : World) (lo hi : Nat) : S → Value → Prop
  | .mk l, v => ∃ A n c, v = .slice A n c ∧ l.length = n ∧ n ≤ c ∧ c ≤ 9223372036854775807 ∧ S.All w lo hi A 0 l
def S.All (w : World) (lo hi : Nat) (A : Option Addr) : Nat → List S → Prop
  | _, [] => True
  | i, s :: r => (∃ ad u, A = some ad ∧ lo ≤ ad.block ∧ ad.block < hi ∧ w.cell? (ad.add i) = some u ∧ s.In w lo hi u) ∧ S.All w lo hi A (i + 1) r
end

theorem block_of_add (a : Addr) (n : Nat) : (a.add n).block = a.block := by unfold Addr.add; split <;> rfl
theorem add_of_add (a : Addr) (i j : Nat) : (a.add i).add j = a.add (i + j) := by
  unfold Addr.add
  by_cases hi : i = 0 <;> by_cases hj : j = 0 <;> simp [hi, hj, Nat.add_assoc]

theorem S.All.at_ {w : World} {lo hi : Nat} {A : Option Addr} {l : List S} : ∀ {i : Nat}, S.All w lo hi A i l → ∀ {j : Nat} {x : S}, l[j]? = some x →
    ∃ ad u, A = some ad ∧ lo ≤ ad.block ∧ ad.block < hi ∧ w.cell? (ad.add (i + j)) = some u ∧ x.In w lo hi u := by
  induction l with
  | nil => intro i _ j x h; simp at h
  | cons a r ih =>
    intro i h j x hx
    simp only [S.All] at h
    cases j with
    | zero => simp at hx; subst hx; simpa using h.1
    | succ j =>
      simp at hx
      have := ih h.2 hx
      rwa [show i + 1 + j = i + (j + 1) from by omega] at this
theorem S.All.mk_ {w : World} {lo hi : Nat} {A : Option Addr} {l : List S} : ∀ {i : Nat}, (∀ j x, l[j]? = some x →
    ∃ ad u, A = some ad ∧ lo ≤ ad.block ∧ ad.block < hi ∧ w.cell? (ad.add (i + j)) = some u ∧ x.In w lo hi u) → S.All w lo hi A i l := by
  induction l with
  | nil => intro i _; simp [S.All]
  | cons a r ih =>
    intro i h
    simp only [S.All]
    refine ⟨by simpa using h 0 a rfl, ih fun j x hx => ?_⟩
    have := h (j + 1) x (by simpa using hx)
    rwa [show i + (j + 1) = i + 1 + j from by omega] at this

mutual
theorem S.In.keep {w w' : World} {lo hi : Nat} (hb : ∀ p : Addr, lo ≤ p.block → p.block < hi → w'.cell? p = w.cell? p) : ∀ (s : S) {v : Value}, s.In w lo hi v → s.In w' lo hi v
  | .mk l, v, h => by
    simp only [S.In] at h ⊢
    obtain ⟨A, n, c, h1, h2, h3, h4, h5⟩ := h
    exact ⟨A, n, c, h1, h2, h3, h4, S.All.keep hb l h5⟩
theorem S.All.keep {w w' : World} {lo hi : Nat} (hb : ∀ p : Addr, lo ≤ p.block → p.block < hi → w'.cell? p = w.cell? p) {A : Option Addr} : ∀ (l : List S) {i : Nat}, S.All w lo hi A i l → S.All w' lo hi A i l
  | [], i, _ => by simp [S.All]
  | s :: r, i, h => by
    simp only [S.All] at h ⊢
    obtain ⟨⟨ad, u, h1, h2, h3, h4, h5⟩, h6⟩ := h
    exact ⟨⟨ad, u, h1, h2, h3, (hb _ (by rw [block_of_add]; exact h2) (by rw [block_of_add]; exact h3)).trans h4, S.In.keep hb s h5⟩, S.All.keep hb r h6⟩
end
mutual
theorem S.In.more {w : World} {lo hi lo' hi' : Nat} (hl : lo' ≤ lo) (hh : hi ≤ hi') : ∀ (s : S) {v : Value}, s.In w lo hi v → s.In w lo' hi' v
  | .mk l, v, h => by
    simp only [S.In] at h ⊢
    obtain ⟨A, n, c, h1, h2, h3, h4, h5⟩ := h
    exact ⟨A, n, c, h1, h2, h3, h4, S.All.more hl hh l h5⟩
theorem S.All.more {w : World} {lo hi lo' hi' : Nat} (hl : lo' ≤ lo) (hh : hi ≤ hi') {A : Option Addr} : ∀ (l : List S) {i : Nat}, S.All w lo hi A i l → S.All w lo' hi' A i l
  | [], i, _ => by simp [S.All]
  | s :: r, i, h => by
    simp only [S.All] at h ⊢
    obtain ⟨⟨ad, u, h1, h2, h3, h4, h5⟩, h6⟩ := h
    exact ⟨⟨ad, u, h1, by omega, by omega, h4, S.In.more hl hh s h5⟩, S.All.more hl hh r h6⟩
end
theorem S.In.form {w : World} {lo hi : Nat} {s : S} {v : Value} (h : s.In w lo hi v) : ∃ A n c, v = .slice A n c := by
  obtain ⟨l⟩ := s
  simp only [S.In] at h
  obtain ⟨A, n, c, h1, _⟩ := h
  exact ⟨A, n, c, h1⟩
theorem S.In.below {w w' : World} {B lo hi : Nat} {s : S} {v : Value} (h : s.In w lo hi v) (hb : Below B w w') (hB : hi ≤ B) : s.In w' lo hi v :=
  S.In.keep (fun p _ hp => hb.cell (by omega)) s h

/-- A block known whole. -/
def Blk (w : World) (g : Nat) (t : TypeId) (cs : Array Value) : Prop := w.heap[g]? = some (.cells cs t (0, 0))
section
variable {w w' : World} {g : Nat} {t : TypeId} {cs : Array Value}
theorem Blk.lt (h : Blk w g t cs) : g < w.heap.size := by
  rcases Nat.lt_or_ge g w.heap.size with hlt | hge
  · exact hlt
  · unfold Blk at h; rw [Array.getElem?_eq_none hge] at h; cases h
theorem Blk.cell (h : Blk w g t cs) (i : Nat) : w.cell? ⟨g, i, none⟩ = cs[i]? := cell_of_row w g i cs t (0, 0) h
theorem Blk.frozen (h : Blk w g t cs) (i : Nat) : w.frozen? ⟨g, i, none⟩ = false := by
  unfold Blk at h
  simp [World.frozen?, h]
theorem Blk.new (w : World) (t : TypeId) (cs : Array Value) : Blk (w.alloc (.cells cs t)) w.heap.size t cs := heap_alloc_new w _
theorem Blk.drew (h : Blk w g t cs) : Blk w.drew g t cs := h
theorem Blk.drewN (h : Blk w g t cs) (n : Nat) : Blk (w.drewN n) g t cs := h
theorem Blk.alloc (h : Blk w g t cs) (o : Obj) : Blk (w.alloc o) g t cs := (Below.heap_alloc w o g h.lt).trans h
theorem Blk.set_ (h : Blk w g t cs) (i : Nat) (u : Value) : Blk (w.setCell ⟨g, i, none⟩ u) g t (cs.setIfInBounds i u) := by
  unfold Blk at h ⊢
  simp [World.setCell, Array.getElem?_modify, h]
theorem Blk.far (h : Blk w g t cs) {p : Addr} (hp : g ≠ p.block) (u : Value) : Blk (w.setCell p u) g t cs := (Below.heap_setCell w p u g hp).trans h
theorem Blk.eq_ {cs' : Array Value} (h : Blk w g t cs) (e : cs = cs') : Blk w g t cs' := e ▸ h
theorem Blk.below {B : Nat} (h : Blk w g t cs) (hb : Below B w w') (hg : g < B) : Blk w' g t cs := (hb.block g hg).trans h
end
/-- Of the blocks that there were, only those of M may have turned. -/
structure Saves (M : Nat → Prop) (w w' : World) : Prop where
  os : w'.os = w.os
  tape : w'.tape = w.tape
  output : w'.output = w.output
  size : w.heap.size ≤ w'.heap.size
  block : ∀ k, k < w.heap.size → ¬ M k → w'.heap[k]? = w.heap[k]?
section
variable {M : Nat → Prop} {w w' w'' : World}
theorem Saves.refl (M : Nat → Prop) (w : World) : Saves M w w := ⟨rfl, rfl, rfl, Nat.le_refl _, fun _ _ _ => rfl⟩
theorem Saves.trans (h : Saves M w w') (k : Saves M w' w'') : Saves M w w'' :=
  ⟨k.os.trans h.os, k.tape.trans h.tape, k.output.trans h.output, Nat.le_trans h.size k.size, fun i hi hm => (k.block i (Nat.lt_of_lt_of_le hi h.size) hm).trans (h.block i hi hm)⟩
theorem Saves.of_below (h : Below w.heap.size w w') : Saves M w w' := ⟨h.os, h.tape, h.output, h.size, fun k hk _ => h.block k hk⟩
theorem Saves.below {B : Nat} (h : Saves M w w') (hB : B ≤ w.heap.size) (hM : ∀ k, k < B → ¬ M k) : Below B w w' := ⟨h.os, h.tape, h.output, h.size, fun k hk => h.block k (by omega) (hM k hk)⟩
theorem Saves.alloc (h : Saves M w w') (o : Obj) : Saves M w (w'.alloc o) := h.trans (Saves.of_below ((Below.refl _ _).alloc (Nat.le_refl _) o))
theorem Saves.drew (h : Saves M w w') : Saves M w w'.drew := ⟨h.os, h.tape, h.output, h.size, h.block⟩
theorem Saves.setCell (h : Saves M w w') {p : Addr} (hp : M p.block ∨ w.heap.size ≤ p.block) (u : Value) : Saves M w (w'.setCell p u) :=
  ⟨h.os, h.tape, h.output, by simpa [World.setCell] using h.size, fun k hk hm => (Below.heap_setCell w' p u k (by
    rintro rfl
    rcases hp with hp | hp
    · exact hm hp
    · omega)).trans (h.block k hk hm)⟩
theorem Saves.mono {M' : Nat → Prop} (h : Saves M w w') (hM : ∀ k, k < w.heap.size → M k → M' k) : Saves M' w w' := ⟨h.os, h.tape, h.output, h.size, fun k hk hm => h.block k hk (fun hh => hm (hM k hk hh))⟩
theorem Blk.saves {g : Nat} {t : TypeId} {cs : Array Value} (h : Blk w g t cs) (hs : Saves M w w') (hg : ¬ M g) : Blk w' g t cs := (hs.block g h.lt hg).trans h
theorem S.In.saves {lo hi : Nat} {s : S} {v : Value} (h : s.In w lo hi v) (hs : Saves M w w') (hh : hi ≤ w.heap.size) (hM : ∀ k, lo ≤ k → k < hi → ¬ M k) : s.In w' lo hi v :=
  S.In.keep (fun p hp hp' => World.cell?_of_block (hs.block p.block (by omega) (hM _ hp hp'))) s h
end
theorem below_drewN {B : Nat} {a w : World} (h : Below B a w) (n : Nat) : Below B a (w.drewN n) := ⟨h.os, h.tape, h.output, h.size, h.block⟩
theorem bcell {B : Nat} {W w1 : World} (hb : Below B W w1) : (∀ b o, b < B → w1.cell? ⟨b, o, none⟩ = W.cell? ⟨b, o, none⟩) ∧ (∀ b o, b < B → w1.frozen? ⟨b, o, none⟩ = W.frozen? ⟨b, o, none⟩) :=
  ⟨fun b o h => hb.cell (p := ⟨b, o, none⟩) h, fun b o h => hb.frozen (p := ⟨b, o, none⟩) h⟩
end Go.Proofs.YtbbejhhohppdhaaGreatDoor

namespace Go.Proofs.YtbbejhhohppdhaaGreatDoor
open Go.RowKit

theorem ret_int {k : IntKind} {a b : Int} (h : a = b) : Ending.returned (.int k a) = .returned (.int k b) := by rw [h]
theorem ret_bool {a b : Bool} (h : a = b) : Ending.returned (.bool a) = .returned (.bool b) := by rw [h]
theorem countL_take_bound (l : List S) (k : Nat) (hk : k ≤ l.length) : k ≤ S.countL (l.take k) := by
  induction l generalizing k with
  | nil => simp at hk; omega
  | cons a r ih =>
    cases k with
    | zero => omega
    | succ k => simp at hk; have := ih k hk; have := a.count_pos; simp [S.countL]; omega

set_option maxHeartbeats 400000 in
theorem nodes_any (K : Nat) : ∀ (s : S) (v : Value) (m : Int) (w : World) (lo hi : Nat), s.count ≤ K → 0 ≤ m → m ≤ 1000 → s.In w lo hi v → hi ≤ w.heap.size →
    Calls Tryz.prog 121 #[.agg #[v], .int .i64 m] w fun e w' => e = .returned (.int .i64 (min (s.count : Int) (m + 1))) ∧ Below w.heap.size w w' := by
  induction K with
  | zero => intro s; have := s.count_pos; omega
  | succ K ih =>
    intro s v m w lo hi hK hm0 hm hin hhi
    obtain ⟨l⟩ := s
    simp only [S.In] at hin
    obtain ⟨A, _, c, rfl, rfl, hnc, hc, hall⟩ := hin
    go_enter Tryz.func121, Tryz.ntmps121
    go_wp2_with fail
    go_loopw [5, 6] (fun n i wr => ∃ k : Nat, k ≤ l.length ∧ i = .int .i64 k ∧ n = .int .i64 (min ((1 + S.countL (l.take k) : Nat) : Int) (m + 1)) ∧ Blk wr w.heap.size 62 #[.slice A l.length c] ∧ Below w.heap.size w wr) (fun _ i _ => l.length - (intOf i).toNat)
    case atStart => exact ⟨0, Nat.zero_le _, rfl, by simp only [S.countL, List.take_zero]; congr 1; omega, Blk.new _ _ _, (Below.refl _ _).alloc (Nat.le_refl _) _⟩
    case round =>
      obtain ⟨k, hk, rfl, rfl, hblk, hbel⟩ := hrel
      have hsz := hblk.lt
      have hc0 := hblk.cell 0
      by_cases hlt : k < l.length
      · have hx : l[k]? = some l[k] := List.getElem?_eq_getElem hlt
        have hcs := S.countL_take_succ l k _ hx
        have hcl := S.count_lt hx
        have hcp := l[k].count_pos
        obtain ⟨ad, u, rfl, _, hadb, hcell, hinx⟩ := hall.at_ hx
        rw [Nat.zero_add] at hcell
        have hcellr : wr.cell? (ad.add k) = some u := (hbel.cell (by rw [block_of_add]; omega)).trans hcell
        have hinr := hinx.below hbel hhi
        generalize l[k] = x at *
        generalize hN : min ((1 + S.countL (l.take k) : Nat) : Int) (m + 1) = N at *
        by_cases hle : N ≤ m
        · have HN := Lib.hid hN
          have hN1 : 1 ≤ N := by omega
          have HS := Lib.hid hcs
          clear hN hcs hx hcell
          go_wp2_with fail
          refine (ih x u (m - N) _ lo hi (by omega) (by omega) (by omega) hinr (by omega)).mono ?_
          rintro e w1 ⟨rfl, hb1⟩
          go_wp2_with fail
          go_roundw
          case rel => exact ⟨k + 1, by omega, by go_num, congrArg (Value.int .i64) (by have h1 := HN.out; have h2 := HS.out; omega), hblk.below hb1 hsz, hbel.trans (hb1.mono (by omega))⟩
          case measure => simp [intOf]; omega
        · have hcn : S.countL (l.take (k + 1)) ≤ S.countL l := S.countL_take_le l (k + 1)
          have hfin : min ((S.mk l).count : Int) (m + 1) = N := by simp only [S.count]; omega
          have HN := Lib.hid hN
          have HF := Lib.hid hfin
          clear hN hcs hx hcell hfin
          go_wp2_with fail
          go_ret
          exact ⟨ret_int HF.out.symm, hbel⟩
      · have hfin : min ((1 + S.countL (l.take k) : Nat) : Int) (m + 1) = min ((S.mk l).count : Int) (m + 1) := by rw [List.take_of_length_le (by omega)]; rfl
        go_wp2_with fail
        go_ret
        exact ⟨ret_int hfin, hbel⟩

set_option maxHeartbeats 400000 in
theorem depth_any (K : Nat) : ∀ (s : S) (v : Value) (w : World) (lo hi : Nat), s.count ≤ K → s.count ≤ 1000 → s.In w lo hi v → hi ≤ w.heap.size →
    Calls Tryz.prog 122 #[.agg #[v]] w fun e w' => e = .returned (.int .i64 (s.deep : Int)) ∧ Below w.heap.size w w' := by
  induction K with
  | zero => intro s; have := s.count_pos; omega
  | succ K ih =>
    intro s v w lo hi hK hm hin hhi
    obtain ⟨l⟩ := s
    simp only [S.In] at hin
    obtain ⟨A, _, c, rfl, rfl, hnc, hc, hall⟩ := hin
    go_enter Tryz.func122, Tryz.ntmps122
    go_wp2_with fail
    go_loopw [3, 9] (fun n i wr => ∃ k : Nat, k ≤ l.length ∧ i = .int .i64 k ∧ n = .int .i64 ((S.deepL (l.take k) : Nat) : Int) ∧ Below w.heap.size w wr) (fun _ i _ => l.length - (intOf i).toNat)
    case atStart => exact ⟨0, Nat.zero_le _, rfl, by simp [S.deepL], (Below.refl _ _).alloc (Nat.le_refl _) _⟩
    case round =>
      obtain ⟨k, hk, rfl, rfl, hbel⟩ := hrel
      have hsz := hbel.size
      by_cases hlt : k < l.length
      · have hx : l[k]? = some l[k] := List.getElem?_eq_getElem hlt
        have hcs := S.deepL_take_succ l k _ hx
        have hcl := S.count_lt hx
        have hd1 := l[k].deep_le
        obtain ⟨ad, u, rfl, _, hadb, hcell, hinx⟩ := hall.at_ hx
        rw [Nat.zero_add] at hcell
        have hcellr : wr.cell? (ad.add k) = some u := (hbel.cell (by rw [block_of_add]; omega)).trans hcell
        obtain ⟨A', n', c', rfl⟩ := hinx.form
        have hinr := hinx.below (hbel.trans (((Below.refl _ _).alloc hsz (.cells #[.slice A' n' c'] 62)))) hhi
        have hd2 : S.deepL (l.take k) ≤ S.deepL l := S.deepL_take_le l k
        have hd3 := S.deepL_le l
        simp only [S.count] at hm hcl hK
        generalize l[k] = x at *
        have HS := Lib.hid hcs
        clear hcs hx hcell
        go_wp2_with fail
        refine (ih x _ _ lo hi (by omega) (by omega) hinr (by simp; omega)).mono ?_
        rintro e w1 ⟨rfl, hb1⟩
        simp only [World.size_alloc] at hb1
        go_wp2_with fail
        go_roundw
        case rel => exact ⟨k + 1, by omega, by go_num, congrArg (Value.int .i64) (by have h2 := HS.out; omega), hbel.trans (((Below.refl _ _).alloc hsz _).trans (hb1.mono (by omega)))⟩
        case measure => simp [intOf]; omega
      · have hfin : ((S.deepL (l.take k) : Nat) : Int) + 1 = ((S.mk l).deep : Int) := by rw [List.take_of_length_le (by omega)]; simp [S.deep]
        have hd2 : S.deepL (l.take k) ≤ S.deepL l := S.deepL_take_le l k
        have hd3 := S.deepL_le l
        simp only [S.count] at hm
        have HF := Lib.hid hfin
        clear hfin
        go_wp2_with fail
        go_ret
        exact ⟨ret_int HF.out, hbel⟩

set_option maxHeartbeats 400000 in
theorem few_any (K : Nat) : ∀ (s : S) (v : Value) (w : World) (lo hi : Nat), s.count ≤ K → s.In w lo hi v → hi ≤ w.heap.size →
    Calls Tryz.prog 123 #[.agg #[v]] w fun e w' => e = .returned (.bool s.few) ∧ Below w.heap.size w w' := by
  induction K with
  | zero => intro s; have := s.count_pos; omega
  | succ K ih =>
    intro s v w lo hi hK hin hhi
    obtain ⟨l⟩ := s
    simp only [S.In] at hin
    obtain ⟨A, _, c, rfl, rfl, hnc, hc, hall⟩ := hin
    go_enter Tryz.func123, Tryz.ntmps123
    go_wp2_with fail
    go_loopw [8] (fun i wr => ∃ k : Nat, k ≤ l.length ∧ i = .int .i64 k ∧ Hid (S.fewL (l.take k) = true) ∧ Blk wr w.heap.size 62 #[.slice A l.length c] ∧ Below w.heap.size w wr) (fun i _ => l.length - (intOf i).toNat)
    case atStart => exact ⟨0, Nat.zero_le _, rfl, Lib.hid (by simp [S.fewL]), Blk.new _ _ _, (Below.refl _ _).alloc (Nat.le_refl _) _⟩
    case round =>
      obtain ⟨k, hk, rfl, hf, hblk, hbel⟩ := hrel
      have hsz := hbel.size
      have hsz1 := hblk.lt
      have hc0 := hblk.cell 0
      by_cases hlt : k < l.length
      · have hx : l[k]? = some l[k] := List.getElem?_eq_getElem hlt
        have hcs := S.fewL_take_succ l k _ hx
        have hcl := S.count_lt hx
        obtain ⟨ad, u, rfl, _, hadb, hcell, hinx⟩ := hall.at_ hx
        rw [Nat.zero_add] at hcell
        have hcellr : wr.cell? (ad.add k) = some u := (hbel.cell (by rw [block_of_add]; omega)).trans hcell
        obtain ⟨A', n', c', rfl⟩ := hinx.form
        have hinr := hinx.below (hbel.trans (((Below.refl _ _).alloc hsz (.cells #[.slice A' n' c'] 62)))) hhi
        cases hxf : l[k].few with
        | true =>
          have hrel' : Hid (S.fewL (l.take (k + 1)) = true) := Lib.hid (by rw [hcs, hf.out, hxf]; rfl)
          have HX := Lib.hid hxf
          generalize l[k] = x at *
          clear hcs hx hcell hxf
          go_wp2_with (go_at_call 123; refine (ih x _ _ lo hi (by omega) hinr (by simp; omega)).mono ?_; rw [HX.out]; rintro e w1 ⟨rfl, hb1⟩)
          simp only [World.size_alloc] at *
          go_roundw
          case rel => exact ⟨k + 1, by omega, by go_num, hrel', (hblk.alloc _).below ‹_› (by omega), hbel.trans (((Below.refl _ _).alloc hsz _).trans (Below.mono ‹_› (by omega)))⟩
          case measure => simp [intOf]; omega
        | false =>
          have hfin := S.fewL_false l k _ hx hxf
          have HF : Hid ((S.mk l).few = false) := Lib.hid (by simp [S.few, hfin])
          have HX := Lib.hid hxf
          generalize l[k] = x at *
          clear hcs hx hcell hxf hfin
          go_wp2_with (go_at_call 123; refine (ih x _ _ lo hi (by omega) hinr (by simp; omega)).mono ?_; rw [HX.out]; rintro e w1 ⟨rfl, hb1⟩)
          simp only [World.size_alloc] at *
          go_ret
          exact ⟨ret_bool HF.out.symm, hbel.trans (((Below.refl _ _).alloc hsz _).trans (Below.mono ‹_› (by omega)))⟩
      · have hfin : decide ((l.length : Int) ≤ 8) = (S.mk l).few := by have := hf.out; rw [List.take_of_length_le (by omega)] at this; simp [S.few, this]; omega
        have HF := Lib.hid hfin
        clear hfin
        go_wp2_with fail
        go_ret
        exact ⟨ret_bool HF.out, hbel⟩

set_option maxHeartbeats 400000 in
theorem is_any (s : S) (v : Value) (w : World) (lo hi : Nat) (hin : s.In w lo hi v) (hhi : hi ≤ w.heap.size) :
    Calls Tryz.prog 78 #[.agg #[v]] w fun e w' => e = .returned (.bool s.ok) ∧ Below w.heap.size w w' := by
  obtain ⟨A, n, c, rfl⟩ := hin.form
  have hin1 := hin.below ((Below.refl _ _).alloc (Nat.le_refl _) (.cells #[.slice A n c] 62)) hhi
  have hbk := Blk.new w 62 #[.slice A n c]
  by_cases h1 : s.count ≤ 60
  · by_cases h2 : s.deep ≤ 30
    · have HO : Hid (s.few = s.ok) := Lib.hid (by simp [S.ok, h1, h2])
      go_enter Tryz.func78, Tryz.ntmps78
      go_wp2_with fail
      refine (nodes_any _ s _ 60 _ lo hi (Nat.le_refl _) (by omega) (by omega) hin1 (by simp; omega)).mono ?_
      rintro e w1 ⟨rfl, hb1⟩
      have hin2 := hin1.below hb1 (by simp; omega)
      have hbk1 := hbk.below hb1 (by simp)
      have hz := hb1.size
      simp only [World.size_alloc] at hb1 hz
      have hc1 := hbk1.cell 0
      go_wp2_with fail
      refine (depth_any _ s _ _ lo hi (Nat.le_refl _) (by omega) hin2 (by omega)).mono ?_
      rintro e w2 ⟨rfl, hb2⟩
      have hin3 := hin2.below hb2 (by omega)
      have hbk2 := hbk1.below hb2 (by omega)
      have hz2 := hb2.size
      have hc2 := hbk2.cell 0
      go_wp2_with fail
      refine (few_any _ s _ _ lo hi (Nat.le_refl _) hin3 (by omega)).mono ?_
      rintro e w3 ⟨rfl, hb3⟩
      go_wp2_with fail
      go_ret
      exact ⟨ret_bool HO.out, (((Below.refl _ _).alloc (Nat.le_refl _) _).trans (hb1.mono (by omega))).trans ((hb2.mono (by omega)).trans (hb3.mono (by omega)))⟩
    · have HO : Hid (false = s.ok) := Lib.hid (by simp [S.ok, h2])
      go_enter Tryz.func78, Tryz.ntmps78
      go_wp2_with fail
      refine (nodes_any _ s _ 60 _ lo hi (Nat.le_refl _) (by omega) (by omega) hin1 (by simp; omega)).mono ?_
      rintro e w1 ⟨rfl, hb1⟩
      have hin2 := hin1.below hb1 (by simp; omega)
      have hbk1 := hbk.below hb1 (by simp)
      have hz := hb1.size
      simp only [World.size_alloc] at hb1 hz
      have hc1 := hbk1.cell 0
      go_wp2_with fail
      refine (depth_any _ s _ _ lo hi (Nat.le_refl _) (by omega) hin2 (by omega)).mono ?_
      rintro e w2 ⟨rfl, hb2⟩
      go_wp2_with fail
      go_ret
      exact ⟨ret_bool HO.out, (((Below.refl _ _).alloc (Nat.le_refl _) _).trans (hb1.mono (by omega))).trans (hb2.mono (by omega))⟩
  · have HO : Hid (false = s.ok) := Lib.hid (by simp [S.ok, h1])
    go_enter Tryz.func78, Tryz.ntmps78
    go_wp2_with fail
    refine (nodes_any _ s _ 60 _ lo hi (Nat.le_refl _) (by omega) (by omega) hin1 (by simp; omega)).mono ?_
    rintro e w1 ⟨rfl, hb1⟩
    simp only [World.size_alloc] at hb1
    go_wp2_with fail
    go_ret
    exact ⟨ret_bool HO.out, (((Below.refl _ _).alloc (Nat.le_refl _) _).trans (hb1.mono (by omega)))⟩

def errOf (b : Bool) : Int := if b then 0 else 6

/-- What Size returns. -/
def S.sizes (s : S) : Nat × Nat := if s.count ≤ 60 then (s.count, s.deep) else (61, 0)

end Go.Proofs.YtbbejhhohppdhaaGreatDoor

namespace Go.Proofs.YtbbejhhohppdhaaGreatDoor
open Go.RowKit

end Go.Proofs.YtbbejhhohppdhaaGreatDoor

namespace Go.Proofs.YtbbejhhohppdhaaGreatDoor
open Go.RowKit

section
variable {σ : Type} (step : σ → S → Nat → Bool × σ)
mutual
def visit : σ → Nat → S → Bool × σ
  | st, lvl, .mk l => if (step st (.mk l) lvl).1 then visitL (step st (.mk l) lvl).2 (lvl + 1) l else (false, (step st (.mk l) lvl).2)
def visitL : σ → Nat → List S → Bool × σ
  | st, _, [] => (true, st)
  | st, lvl, x :: r => if (visit st lvl x).1 then visitL (visit st lvl x).2 lvl r else (false, (visit st lvl x).2)
end
theorem visitL_succ (lvl : Nat) (l : List S) : ∀ (st : σ) (k : Nat) (x : S), l[k]? = some x → (visitL step st lvl (l.take k)).1 = true →
    visitL step st lvl (l.take (k + 1)) = visit step (visitL step st lvl (l.take k)).2 lvl x := by
  induction l with
  | nil => intro st k x h; simp at h
  | cons a r ih =>
    intro st k x h ht
    cases k with
    | zero =>
      simp at h; subst h
      simp only [List.take_succ_cons, List.take_zero, visitL]
      split
      · rename_i hb; rw [Prod.ext_iff]; simp [hb]
      · rename_i hb; rw [Prod.ext_iff]; simp at hb; simp [hb]
    | succ k =>
      simp at h
      simp only [List.take_succ_cons, visitL] at ht ⊢
      split at ht
      · rename_i hb; rw [if_pos hb]; rw [ih _ k x h ht]; simp [hb]
      · cases ht
theorem visitL_false (lvl : Nat) (l : List S) : ∀ (st : σ) (k : Nat), (visitL step st lvl (l.take k)).1 = false → visitL step st lvl l = visitL step st lvl (l.take k) := by
  induction l with
  | nil => intro st k h; simp
  | cons a r ih =>
    intro st k h
    cases k with
    | zero => simp [visitL] at h
    | succ k =>
      simp only [List.take_succ_cons, visitL] at h ⊢
      split at h
      · rename_i hb; rw [if_pos hb, if_pos hb]; exact ih _ k h
      · rename_i hb; rw [if_neg hb, if_neg hb]

theorem parts_any (v : Value) (A : Option Addr) (n c : Nat) (hv : v = .slice A n c) (w : World) :
    Calls Tryz.prog 162 #[.agg #[v]] w fun e w' => e = .returned v ∧ Below w.heap.size w w' := by
  subst hv
  go_enter Tryz.func162, Tryz.ntmps162
  go_wp2_with fail
  go_ret
  exact ⟨rfl, (Below.refl _ _).alloc (Nat.le_refl _) _⟩

variable {step}
set_option maxHeartbeats 400000 in
theorem visit_any {I : σ → World → Prop} {M : Nat → Prop} {ok : σ → S → Nat → Prop} {F : Nat} {cap : Array Value} {lo hi : Nat}
    (hI : ∀ st w w', I st w → Below w.heap.size w w' → I st w')
    (hM : ∀ w k st, I st w → M k → k < w.heap.size)
    (hF : ∀ args w, (callFunc F args).run Tryz.prog w = .ok (.enter F args) w)
    (hMh : ∀ k, k < hi → ¬ M k)
    (hok : ∀ st l lvl, ok st (.mk l) lvl → lvl ≤ 1000 ∧ ((step st (.mk l) lvl).1 = true → ∀ k x, l[k]? = some x → (visitL step (step st (.mk l) lvl).2 (lvl + 1) (l.take k)).1 = true →
      ok (visitL step (step st (.mk l) lvl).2 (lvl + 1) (l.take k)).2 x (lvl + 1)))
    (hstep : ∀ st x v lvl w, ok st x lvl → I st w → x.In w lo hi v → hi ≤ w.heap.size → Calls Tryz.prog F (#[.agg #[v], .int .i64 (lvl : Int)] ++ cap) w fun e w' =>
      e = .returned (.bool (step st x lvl).1) ∧ I (step st x lvl).2 w' ∧ Saves M w w')
    (K : Nat) : ∀ (s : S) (v : Value) (lvl : Nat) (w : World) (st : σ), s.count ≤ K → ok st s lvl → I st w → s.In w lo hi v → hi ≤ w.heap.size →
    Calls Tryz.prog 191 #[.agg #[v], .int .i64 (lvl : Int), .func (.func 162) #[] #[], .func (.func F) #[] cap] w fun e w' =>
      e = .returned (.bool (visit step st lvl s).1) ∧ I (visit step st lvl s).2 w' ∧ Saves M w w' := by
  induction K with
  | zero => intro s; have := s.count_pos; omega
  | succ K ih =>
    intro s v lvl w st hK hoks hIs hin hhi
    obtain ⟨l⟩ := s
    have hin0 := hin
    simp only [S.In] at hin
    obtain ⟨A, _, c, rfl, rfl, hnc, hc, hall⟩ := hin
    have hw1 : Below w.heap.size w (w.alloc (.cells #[.slice A l.length c] 62)) := (Below.refl _ _).alloc (Nat.le_refl _) _
    have hbk := Blk.new w 62 #[.slice A l.length c]
    have hS := hstep st (.mk l) _ lvl _ hoks (hI _ _ _ hIs hw1) (hin0.below hw1 hhi) (by simp; omega)
    obtain ⟨hlv, hdown⟩ := hok st l lvl hoks
    have hnM : ¬ M w.heap.size := fun h => by have := hM w _ st hIs h; omega
    cases hb : (step st (.mk l) lvl).1 with
    | false =>
      have hv : visit step st lvl (.mk l) = (false, (step st (.mk l) lvl).2) := by simp [visit, hb]
      rw [hv]
      rw [hb] at hS
      have HS := Lib.hid hS
      clear hS hok hstep hM hI hMh ih hdown hb hv
      go_enter Tryz.func191, Tryz.ntmps191
      go_wp2_with fail
      refine HS.out.mono ?_
      rintro e w1 ⟨rfl, hI1, hs1⟩
      go_wp2_with fail
      go_ret
      exact ⟨rfl, hI1, (Saves.of_below hw1).trans hs1⟩
    | true =>
      have hv : visit step st lvl (.mk l) = visitL step (step st (.mk l) lvl).2 (lvl + 1) l := by simp [visit, hb]
      rw [hv]
      rw [hb] at hS
      replace hdown := hdown hb
      generalize (step st (.mk l) lvl).2 = st1 at *
      have hsucc := visitL_succ step (lvl + 1) l st1
      have hfalse := visitL_false step (lvl + 1) l st1
      have HS := Lib.hid hS
      have HD := Lib.hid hdown
      have Hih := Lib.hid ih
      have HI := Lib.hid hI
      have Hsucc := Lib.hid hsucc
      have Hfalse := Lib.hid hfalse
      have HMh := Lib.hid hMh
      clear hS hok hstep hM hI hMh ih hdown hb hv hsucc hfalse
      go_enter Tryz.func191, Tryz.ntmps191
      go_wp2_with fail
      refine HS.out.mono ?_
      rintro e w1 ⟨rfl, hI1, hs1⟩
      have hbk1 := hbk.saves hs1 hnM
      have hc1 := hbk1.cell 0
      have hz1 := hs1.size
      simp only [World.size_alloc] at hz1
      go_wp2_with fail
      refine (parts_any _ A l.length c rfl _).mono ?_
      rintro e w1b ⟨rfl, hb1b⟩
      replace hs1 := hs1.trans (Saves.of_below hb1b)
      replace hI1 := HI.out _ _ _ hI1 hb1b
      have hz1b := hb1b.size
      clear hc1
      go_wp2_with fail
      go_loopw [20] (fun i wr => ∃ k : Nat, k ≤ l.length ∧ i = .int .i64 k ∧ Hid ((visitL step st1 (lvl + 1) (l.take k)).1 = true) ∧ I (visitL step st1 (lvl + 1) (l.take k)).2 wr ∧ Saves M w wr) (fun i _ => l.length - (intOf i).toNat)
      case atStart => exact ⟨0, Nat.zero_le _, rfl, Lib.hid (by simp [visitL]), by simpa [visitL] using hI1, (Saves.of_below hw1).trans hs1⟩
      case round =>
        obtain ⟨k, hk, rfl, hf, hIk, hsk⟩ := hrel
        have hzk := hsk.size
        by_cases hlt : k < l.length
        · have hx : l[k]? = some l[k] := List.getElem?_eq_getElem hlt
          have hcl := S.count_lt hx
          obtain ⟨ad, u, rfl, _, hadb, hcell, hinx⟩ := hall.at_ hx
          rw [Nat.zero_add] at hcell
          have hcellr : wr.cell? (ad.add k) = some u := (World.cell?_of_block (hsk.block _ (by rw [block_of_add]; omega) (by rw [block_of_add]; exact HMh.out _ hadb))).trans hcell
          obtain ⟨A', n', c', rfl⟩ := hinx.form
          have hw2 : Below wr.heap.size wr (wr.alloc (.cells #[.slice A' n' c'] 62)) := (Below.refl _ _).alloc (Nat.le_refl _) _
          have hinr := (hinx.saves hsk hhi (fun k _ h => HMh.out k h)).below hw2 (by omega)
          have hokx := HD.out k _ hx hf.out
          have hs := Hsucc.out k _ hx hf.out
          have hct := Hih.out l[k] _ (lvl + 1) _ _ (by omega) hokx (HI.out _ _ _ hIk hw2) hinr (by simp; omega)
          rw [← hs] at hct
          generalize l[k] = x at *
          cases hb2 : (visitL step st1 (lvl + 1) (l.take (k + 1))).1 with
          | true =>
            rw [hb2] at hct
            have HC := Lib.hid hct
            have HB2 := Lib.hid hb2
            clear hx hcell hs hokx hct hb2
            go_wp2_with fail
            refine HC.out.mono ?_
            rintro e w2 ⟨rfl, hI2, hs2⟩
            go_wp2_with fail
            go_roundw
            case rel => exact ⟨k + 1, by omega, by go_num, HB2, hI2, hsk.trans ((Saves.of_below hw2).trans hs2)⟩
            case measure => simp [intOf]; omega
          | false =>
            have hfin := Hfalse.out (k + 1) hb2
            rw [hb2] at hct
            have HC := Lib.hid hct
            have HF := Lib.hid hfin
            have HB2 := Lib.hid hb2
            clear hx hcell hs hokx hct hb2 hfin
            go_wp2_with fail
            refine HC.out.mono ?_
            rintro e w2 ⟨rfl, hI2, hs2⟩
            go_wp2_with fail
            go_ret
            rw [HF.out, HB2.out]
            exact ⟨rfl, hI2, hsk.trans ((Saves.of_below hw2).trans hs2)⟩
        · have hll : l.take k = l := List.take_of_length_le (by omega)
          rw [hll] at hIk hf
          clear hll
          go_wp2_with fail
          go_ret
          rw [hf.out]
          exact ⟨rfl, hIk, hsk⟩
end
end Go.Proofs.YtbbejhhohppdhaaGreatDoor

namespace Go.Proofs.YtbbejhhohppdhaaGreatDoor
open Go.RowKit

def sizeStep (st : Nat × Nat) (_ : S) (lvl : Nat) : Bool × (Nat × Nat) := (decide (st.1 + 1 ≤ 60), (st.1 + 1, max st.2 lvl))
def fewStep (_ : Unit) (x : S) (_ : Nat) : Bool × Unit := (decide (x.args.length ≤ 8), ())

mutual
theorem visit_size : ∀ (s : S) (st : Nat × Nat) (lvl : Nat), (visit sizeStep st lvl s).1 = decide (st.1 + s.count ≤ 60) ∧
    ((visit sizeStep st lvl s).1 = true → (visit sizeStep st lvl s).2 = (st.1 + s.count, max st.2 (lvl + s.deep - 1)))
  | .mk l, st, lvl => by
    have hp : S.countL l + 1 = (S.mk l).count := by simp only [S.count]; omega
    have hq : S.deepL l + 1 = (S.mk l).deep := by simp only [S.deep]
    by_cases hc : st.1 + 1 ≤ 60
    · have h := visitL_size l (st.1 + 1, max st.2 lvl) (lvl + 1) hc (by show lvl + 1 ≤ max st.2 lvl + 1; omega)
      have hv : visit sizeStep st lvl (.mk l) = visitL sizeStep (st.1 + 1, max st.2 lvl) (lvl + 1) l := by simp [visit, sizeStep, hc]
      rw [hv]
      refine ⟨h.1.trans (decide_eq_decide.2 (by simp only; omega)), fun ht => ?_⟩
      rw [h.2 ht, Prod.mk.injEq]
      constructor
      · simp only; omega
      · simp only; omega
    · have hv : visit sizeStep st lvl (.mk l) = (false, (st.1 + 1, max st.2 lvl)) := by simp [visit, sizeStep, hc]
      rw [hv]
      refine ⟨?_, fun ht => by cases ht⟩
      have : ¬ st.1 + (S.mk l).count ≤ 60 := by omega
      simp [this]
theorem visitL_size : ∀ (l : List S) (st : Nat × Nat) (lvl : Nat), st.1 ≤ 60 → lvl ≤ st.2 + 1 → (visitL sizeStep st lvl l).1 = decide (st.1 + S.countL l ≤ 60) ∧
    ((visitL sizeStep st lvl l).1 = true → (visitL sizeStep st lvl l).2 = (st.1 + S.countL l, max st.2 (lvl + S.deepL l - 1)))
  | [], st, lvl, h1, h2 => by
    simp only [visitL, S.countL, S.deepL]
    refine ⟨by simp [h1], fun _ => ?_⟩
    rw [Prod.ext_iff]
    constructor
    · simp
    · simp only; omega
  | x :: r, st, lvl, h1, h2 => by
    have h := visit_size x st lvl
    have hcx := x.count_pos
    have hdx : 0 < x.deep := by cases x; simp [S.deep]
    by_cases hb : (visit sizeStep st lvl x).1 = true
    · have hs := h.2 hb
      have hb0 := hb
      rw [h.1] at hb
      have hb' : st.1 + x.count ≤ 60 := by simpa using hb
      have hr := visitL_size r (st.1 + x.count, max st.2 (lvl + x.deep - 1)) lvl hb' (by show lvl ≤ max st.2 (lvl + x.deep - 1) + 1; omega)
      have hv : visitL sizeStep st lvl (x :: r) = visitL sizeStep (st.1 + x.count, max st.2 (lvl + x.deep - 1)) lvl r := by
        simp only [visitL]; rw [if_pos hb0, hs]
      rw [hv]
      refine ⟨hr.1.trans (decide_eq_decide.2 (by simp only [S.countL]; omega)), fun ht => ?_⟩
      rw [hr.2 ht, Prod.mk.injEq]
      constructor
      · simp only [S.countL]; omega
      · simp only [S.deepL]; omega
    · have hb2 : (visit sizeStep st lvl x).1 = false := by simpa using hb
      have hv : visitL sizeStep st lvl (x :: r) = (false, (visit sizeStep st lvl x).2) := by simp [visitL, hb2]
      rw [hv]
      rw [h.1] at hb2
      have hb' : ¬ st.1 + x.count ≤ 60 := by simpa using hb2
      refine ⟨?_, fun ht => by cases ht⟩
      have : ¬ st.1 + S.countL (x :: r) ≤ 60 := by simp only [S.countL]; omega
      simp [this]
end
mutual
theorem visit_few : ∀ (s : S) (st : Unit) (lvl : Nat), (visit fewStep st lvl s).1 = s.few
  | .mk l, st, lvl => by
    have h := visitL_few l () (lvl + 1)
    by_cases hc : l.length ≤ 8
    · simp [visit, fewStep, S.args, hc, S.few, h]
    · simp [visit, fewStep, S.args, hc, S.few]
theorem visitL_few : ∀ (l : List S) (st : Unit) (lvl : Nat), (visitL fewStep st lvl l).1 = S.fewL l
  | [], st, lvl => by simp [visitL, S.fewL]
  | x :: r, st, lvl => by
    have h := visit_few x st lvl
    have hr := visitL_few r () lvl
    simp only [visitL, h, S.fewL]
    cases x.few <;> simp [hr]
end

theorem sizeOk (st : Nat × Nat) (l : List S) (lvl : Nat) (h : lvl ≤ st.1 + 1 ∧ st.1 ≤ 60) :
    lvl ≤ 1000 ∧ ((sizeStep st (.mk l) lvl).1 = true → ∀ k x, l[k]? = some x → (visitL sizeStep (sizeStep st (.mk l) lvl).2 (lvl + 1) (l.take k)).1 = true →
      lvl + 1 ≤ (visitL sizeStep (sizeStep st (.mk l) lvl).2 (lvl + 1) (l.take k)).2.1 + 1 ∧ (visitL sizeStep (sizeStep st (.mk l) lvl).2 (lvl + 1) (l.take k)).2.1 ≤ 60) := by
  refine ⟨by omega, fun hs k x _ ht => ?_⟩
  have hs' : st.1 + 1 ≤ 60 := by simpa [sizeStep] using hs
  have hr := visitL_size (l.take k) (sizeStep st (.mk l) lvl).2 (lvl + 1) hs' (by show lvl + 1 ≤ max st.2 lvl + 1; omega)
  have hr1 := hr.1
  rw [ht] at hr1
  rw [hr.2 ht]
  have : (sizeStep st (.mk l) lvl).2.1 + S.countL (l.take k) ≤ 60 := by simpa using hr1.symm
  refine ⟨?_, this⟩
  show lvl + 1 ≤ (st.1 + 1) + S.countL (l.take k) + 1
  omega

set_option maxHeartbeats 400000 in
theorem fewArgs_any (s : S) (v : Value) (w : World) (lo hi : Nat) (hin : s.In w lo hi v) :
    Calls Tryz.prog 163 #[.agg #[v]] w fun e w' => e = .returned (.bool (decide (s.args.length ≤ 8))) ∧ Below w.heap.size w w' := by
  obtain ⟨l⟩ := s
  simp only [S.In] at hin
  obtain ⟨A, _, c, rfl, rfl, hnc, hc, hall⟩ := hin
  have HF : Hid (decide ((l.length : Int) ≤ 8) = decide ((S.mk l).args.length ≤ 8)) := Lib.hid (decide_eq_decide.2 (by simp only [S.args]; omega))
  go_enter Tryz.func163, Tryz.ntmps163
  go_wp2_with fail
  go_ret
  exact ⟨ret_bool HF.out, (Below.refl _ _).alloc (Nat.le_refl _) _⟩

/-- The cells of a count: the most (60), the nodes, the depth. -/
def Two (B b : Nat) (st : Nat × Nat) (w : World) : Prop := B ≤ b ∧ Blk w b 3 #[.int .i64 60] ∧ Blk w (b + 1) 3 #[.int .i64 (st.1 : Int)] ∧ Blk w (b + 2) 3 #[.int .i64 (st.2 : Int)]

set_option maxHeartbeats 400000 in
theorem size1_any (s : S) (v : Value) (lvl : Nat) (w : World) (B b : Nat) (st : Nat × Nat) (h60 : st.1 ≤ 60) (h2 : Two B b st w) (lo hi : Nat) (hin : s.In w lo hi v) :
    Calls Tryz.prog 218 #[.agg #[v], .int .i64 (lvl : Int), .pointer (some ⟨b + 1, 0, none⟩), .pointer (some ⟨b + 2, 0, none⟩), .pointer (some ⟨b, 0, none⟩)] w fun e w' =>
      e = .returned (.bool (sizeStep st s lvl).1) ∧ Two B b (sizeStep st s lvl).2 w' ∧ Saves (fun k => k = b + 1 ∨ k = b + 2) w w' := by
  obtain ⟨A, n, c, rfl⟩ := hin.form
  obtain ⟨n0, d0⟩ := st
  obtain ⟨hB, hb0, hb1, hb2⟩ := h2
  simp only at h60 hb1 hb2
  have hl0 := hb0.lt
  have hl1 := hb1.lt
  have hl2 := hb2.lt
  have hc0 := hb0.cell 0
  have hc1 := hb1.cell 0
  have hc2 := hb2.cell 0
  have hf1 := hb1.frozen 0
  have hf2 := hb2.frozen 0
  go_enter Tryz.func218, Tryz.ntmps218
  go_wp2_with fail
  all_goals
    go_ret
    refine ⟨ret_bool (decide_eq_decide.2 (by show (n0 : Int) + 1 ≤ 60 ↔ n0 + 1 ≤ 60; omega)), ⟨hB, ?_, ?_, ?_⟩, (((Saves.refl _ _).setCell (.inl (.inl rfl)) _).setCell (.inl (.inr rfl)) _).alloc _⟩
    · exact ((hb0.far (p := ⟨b + 1, 0, none⟩) (by simp) _).far (p := ⟨b + 2, 0, none⟩) (by simp) _).alloc _
    · exact ((hb1.set_ 0 _).far (p := ⟨b + 2, 0, none⟩) (by simp) _).alloc _
    · refine (((hb2.far (p := ⟨b + 1, 0, none⟩) (by simp) _).set_ 0 _).alloc _).eq_ (congrArg (fun z : Int => #[Value.int .i64 z]) ?_)
      show _ = ((max d0 lvl : Nat) : Int)
      omega

theorem two_kept {B b : Nat} {st : Nat × Nat} {w w' : World} (h : Two B b st w) (hb : Below w.heap.size w w') : Two B b st w' :=
  ⟨h.1, h.2.1.below hb h.2.1.lt, h.2.2.1.below hb h.2.2.1.lt, h.2.2.2.below hb h.2.2.2.lt⟩

theorem size_visit (s : S) (v : Value) (w : World) (b : Nat) (st : Nat × Nat) (h60 : st.1 ≤ 60) (lo hi : Nat) (h2 : Two hi b st w) (hin : s.In w lo hi v) (hhi : hi ≤ w.heap.size) :
    Calls Tryz.prog 191 #[.agg #[v], .int .i64 ((1 : Nat) : Int), .func (.func 162) #[] #[], .func (.func 218) #[] #[.pointer (some ⟨b + 1, 0, none⟩), .pointer (some ⟨b + 2, 0, none⟩), .pointer (some ⟨b, 0, none⟩)]] w fun e w' =>
      e = .returned (.bool (visit sizeStep st 1 s).1) ∧ Two hi b (visit sizeStep st 1 s).2 w' ∧ Saves (fun k => k = b + 1 ∨ k = b + 2) w w' := by
  refine visit_any (I := Two hi b) (M := fun k => k = b + 1 ∨ k = b + 2) (ok := fun st _ lvl => lvl ≤ st.1 + 1 ∧ st.1 ≤ 60) (fun _ _ _ h hb => two_kept h hb) ?_ Tryz.call218 ?_ ?_ ?_ _ s v 1 w st (Nat.le_refl _) ⟨by omega, h60⟩ h2 hin hhi
  · rintro w k st ⟨_, h0, h1, h2⟩ (rfl | rfl)
    · exact h1.lt
    · exact h2.lt
  · rintro k hk (rfl | rfl)
    · have := h2.1; omega
    · have := h2.1; omega
  · exact fun st l lvl h => sizeOk st l lvl h
  · exact fun st x v lvl w h hI hin _ => size1_any x v lvl w hi b st h.2 hI lo hi hin

theorem size_results {tmps : Array Value} {w : World} {a b : Nat} {x y : Int} (h2 : tmps.getD 6 undef = .pointer (some ⟨a, 0, none⟩)) (h3 : tmps.getD 7 undef = .pointer (some ⟨b, 0, none⟩))
    (ha : Blk w a 3 #[.int .i64 x]) (hb : Blk w b 3 #[.int .i64 y]) : (results Tryz.f190 tmps).run Tryz.prog w = .ok (.tuple #[.int .i64 x, .int .i64 y]) w := by
  have h4 := ha.cell 0
  have h5 := hb.cell 0
  simp at h4 h5
  have h2' : tmps[6]?.getD undef = .pointer (some ⟨a, 0, none⟩) := by simpa using h2
  have h3' : tmps[7]?.getD undef = .pointer (some ⟨b, 0, none⟩) := by simpa using h3
  simp [results, Tryz.results190, go_sem, h2', h3', h4, h5]

set_option maxHeartbeats 400000 in
theorem nestSize_any (s : S) (v : Value) (w : World) (lo hi : Nat) (hin : s.In w lo hi v) (hhi : hi ≤ w.heap.size) :
    Calls Tryz.prog 190 #[.agg #[v], .func (.func 162) #[] #[], .int .i64 60] w fun e w' => e = .returned (.tuple #[.int .i64 (s.sizes.1 : Int), .int .i64 (s.sizes.2 : Int)]) ∧ Below w.heap.size w w' := by
  obtain ⟨A, n, c, rfl⟩ := hin.form
  have hv := visit_size s (0, 0) 1
  have hw3 : Below w.heap.size w ((((w.alloc (.cells #[.slice A n c] 62)).alloc (.cells #[.int .i64 60] 3)).alloc (.cells #[.int .i64 0] 3)).alloc (.cells #[.int .i64 0] 3)) :=
    ((((Below.refl _ _).alloc (Nat.le_refl _) _).alloc (by simp) _).alloc (by simp; omega) _).alloc (by simp; omega) _
  have h2 : Two hi (w.heap.size + 1) (0, 0) ((((w.alloc (.cells #[.slice A n c] 62)).alloc (.cells #[.int .i64 60] 3)).alloc (.cells #[.int .i64 0] 3)).alloc (.cells #[.int .i64 0] 3)) :=
    ⟨by omega, (by simpa using ((Blk.new (w.alloc (.cells #[.slice A n c] 62)) 3 #[.int .i64 60]).alloc _).alloc _),
      (by simpa using (Blk.new ((w.alloc (.cells #[.slice A n c] 62)).alloc (.cells #[.int .i64 60] 3)) 3 #[.int .i64 0]).alloc _),
      (by simpa using Blk.new (((w.alloc (.cells #[.slice A n c] 62)).alloc (.cells #[.int .i64 60] 3)).alloc (.cells #[.int .i64 0] 3)) 3 #[.int .i64 0])⟩
  have hct := size_visit s _ _ (w.heap.size + 1) (0, 0) (by simp) lo hi h2 (hin.below hw3 hhi) (by simp; omega)
  by_cases h60 : s.count ≤ 60
  · have hv1 : (visit sizeStep (0, 0) 1 s).1 = true := by rw [hv.1]; simpa using h60
    have hv2 := hv.2 hv1
    rw [hv1, hv2] at hct
    have HS : Hid (s.sizes = (s.count, s.deep)) := Lib.hid (by simp [S.sizes, h60])
    have HC := Lib.hid hct
    clear hct hv2 hv1 hv h2
    go_enter Tryz.func190, Tryz.ntmps190
    go_wp2_with fail
    refine HC.out.mono ?_
    rintro e w1 ⟨rfl, ⟨_, _, hk1, hk2⟩, hs1⟩
    have hc1 := hk1.cell 0
    have hc2 := hk2.cell 0
    have hf1 := hk1.frozen 0
    have hf2 := hk2.frozen 0
    have hb1 := hs1.below (B := w.heap.size) (by simp; omega) (fun k hk => by rintro (rfl | rfl) <;> omega)
    go_wp2_with fail
    go_region
    go_wp2
    refine bodyPost_ret (size_results rfl rfl (((hk1.set_ 0 _).far (p := ⟨w.heap.size + 1 + 2, 0, none⟩) (by simp) _).drew) (((hk2.far (p := ⟨w.heap.size + 1 + 1, 0, none⟩) (by simp) _).set_ 0 _).drew)) rfl ⟨by rw [HS.out], ?_⟩
    exact (((hw3.trans hb1).setCell (by simp; omega) _).setCell (by simp; omega) _).drew
  · have hv1 : (visit sizeStep (0, 0) 1 s).1 = false := by rw [hv.1]; simpa using h60
    rw [hv1] at hct
    have HS : Hid (s.sizes = (61, 0)) := Lib.hid (by simp [S.sizes, h60])
    have HC := Lib.hid hct
    clear hct hv1 hv h2
    go_enter Tryz.func190, Tryz.ntmps190
    go_wp2_with fail
    refine HC.out.mono ?_
    rintro e w1 ⟨rfl, ⟨_, hk0, hk1, hk2⟩, hs1⟩
    have hc0 := hk0.cell 0
    have hc1 := hk1.cell 0
    have hc2 := hk2.cell 0
    have hf1 := hk1.frozen 0
    have hf2 := hk2.frozen 0
    have hb1 := hs1.below (B := w.heap.size) (by simp; omega) (fun k hk => by rintro (rfl | rfl) <;> omega)
    go_wp2_with fail
    refine bodyPost_ret (size_results (x := 61) (y := 0) rfl rfl ((hk1.set_ 0 _).far (p := ⟨w.heap.size + 1 + 2, 0, none⟩) (by simp) _) ((hk2.far (p := ⟨w.heap.size + 1 + 1, 0, none⟩) (by simp) _).set_ 0 _)) rfl ⟨by rw [HS.out]; rfl, ?_⟩
    exact ((hw3.trans hb1).setCell (by simp; omega) _).setCell (by simp; omega) _

set_option maxHeartbeats 400000 in
theorem size_any (s : S) (v : Value) (w : World) (lo hi : Nat) (hin : s.In w lo hi v) (hhi : hi ≤ w.heap.size) :
    Calls Tryz.prog 160 #[.agg #[v]] w fun e w' => e = .returned (.tuple #[.int .i64 (s.sizes.1 : Int), .int .i64 (s.sizes.2 : Int)]) ∧ Below w.heap.size w w' := by
  obtain ⟨A, n, c, rfl⟩ := hin.form
  have hw1 : Below w.heap.size w (w.alloc (.cells #[.slice A n c] 62)) := (Below.refl _ _).alloc (Nat.le_refl _) _
  have HC := Lib.hid (nestSize_any s _ _ lo hi (hin.below hw1 hhi) (by simp; omega))
  generalize s.sizes.1 = z1 at *
  generalize s.sizes.2 = z2 at *
  go_enter Tryz.func160, Tryz.ntmps160
  go_wp2_with fail
  refine HC.out.mono ?_
  rintro e w1 ⟨rfl, hb1⟩
  simp only [World.size_alloc] at hb1
  go_wp2_with fail
  go_ret2
  exact ⟨rfl, hw1.trans (hb1.mono (by omega))⟩

set_option maxHeartbeats 400000 in
theorem all1_few (s : S) (v : Value) (lvl : Nat) (w : World) (b : Nat) (lo hi : Nat) (hin : s.In w lo hi v) (hhi : hi ≤ w.heap.size)
    (hb : Blk w b 120 #[.func (.func 163) #[] #[]]) :
    Calls Tryz.prog 192 #[.agg #[v], .int .i64 (lvl : Int), .pointer (some ⟨b, 0, none⟩)] w fun e w' =>
      e = .returned (.bool (decide (s.args.length ≤ 8))) ∧ Below w.heap.size w w' := by
  obtain ⟨A, n, c, rfl⟩ := hin.form
  have hl := hb.lt
  have hc := hb.cell 0
  have hw1 : Below w.heap.size w (w.alloc (.cells #[.slice A n c] 62)) := (Below.refl _ _).alloc (Nat.le_refl _) _
  have HC := Lib.hid (fewArgs_any s _ _ lo hi (hin.below hw1 hhi))
  generalize decide (s.args.length ≤ 8) = z at *
  go_enter Tryz.func192, Tryz.ntmps192
  go_wp2_with fail
  refine HC.out.mono ?_
  rintro e w1 ⟨rfl, hb1⟩
  simp only [World.size_alloc] at hb1
  go_wp2_with fail
  go_ret
  exact ⟨rfl, hw1.trans (hb1.mono (by omega))⟩

set_option maxHeartbeats 400000 in
theorem few_all (s : S) (v : Value) (w : World) (lo hi : Nat) (hd : s.deep ≤ 900) (hin : s.In w lo hi v) (hhi : hi ≤ w.heap.size) :
    Calls Tryz.prog 161 #[.agg #[v], .func (.func 162) #[] #[], .func (.func 163) #[] #[]] w fun e w' =>
      e = .returned (.bool s.few) ∧ Below w.heap.size w w' := by
  obtain ⟨A, n, c, rfl⟩ := hin.form
  have hw2 : Below w.heap.size w ((w.alloc (.cells #[.slice A n c] 62)).alloc (.cells #[.func (.func 163) #[] #[]] 120)) := ((Below.refl _ _).alloc (Nat.le_refl _) _).alloc (by simp) _
  have hbk : Blk ((w.alloc (.cells #[.slice A n c] 62)).alloc (.cells #[.func (.func 163) #[] #[]] 120)) (w.heap.size + 1) 120 #[.func (.func 163) #[] #[]] := by
    simpa using Blk.new (w.alloc (.cells #[.slice A n c] 62)) 120 #[.func (.func 163) #[] #[]]
  have hct : Calls Tryz.prog 191 #[.agg #[.slice A n c], .int .i64 ((1 : Nat) : Int), .func (.func 162) #[] #[], .func (.func 192) #[] #[.pointer (some ⟨w.heap.size + 1, 0, none⟩)]]
      ((w.alloc (.cells #[.slice A n c] 62)).alloc (.cells #[.func (.func 163) #[] #[]] 120)) fun e w' => e = .returned (.bool s.few) ∧ Below (w.heap.size + 1 + 1) ((w.alloc (.cells #[.slice A n c] 62)).alloc (.cells #[.func (.func 163) #[] #[]] 120)) w' := by
    refine Calls.mono (visit_any (step := fewStep) (I := fun _ w' => Blk w' (w.heap.size + 1) 120 #[.func (.func 163) #[] #[]]) (M := fun _ => False) (ok := fun _ x lvl => lvl + x.deep ≤ 1000) (lo := lo) (hi := hi) (fun _ _ _ h hb => h.below hb h.lt) (fun _ _ _ _ h => h.elim) Tryz.call192 (fun _ _ h => h) ?_ ?_ _ s _ 1 _ () (Nat.le_refl _) (by omega) hbk (hin.below hw2 hhi) (by simp; omega))
      (fun e w' ⟨he, _, hs⟩ => ⟨by rw [he, visit_few], by simpa using hs.below (Nat.le_refl _) (fun _ _ h => h)⟩)
    · intro st l lvl h
      simp only [S.deep] at h
      refine ⟨by omega, fun _ k x hx _ => ?_⟩
      have h1 := S.deepL_take_succ l k x hx
      have h2 := S.deepL_take_le l (k + 1)
      omega
    · intro st x v lvl w _ hI hin hhi
      exact (all1_few x v lvl w _ lo hi hin hhi hI).mono fun e w' ⟨he, hb⟩ => ⟨he, hI.below hb hI.lt, Saves.of_below hb⟩
  have HC := Lib.hid hct
  clear hct hbk
  go_enter Tryz.func161, Tryz.ntmps161
  go_wp2_with fail
  refine HC.out.mono ?_
  rintro e w1 ⟨rfl, hb1⟩
  go_wp2_with fail
  go_ret
  exact ⟨rfl, hw2.trans (hb1.mono (by omega))⟩

set_option maxHeartbeats 400000 in
theorem check_any (s : S) (v : Value) (w : World) (lo hi : Nat) (hin : s.In w lo hi v) (hhi : hi ≤ w.heap.size) :
    Calls Tryz.prog 127 #[.agg #[v]] w fun e w' => e = .returned (.int .i64 (errOf s.ok)) ∧ Below w.heap.size w w' := by
  obtain ⟨A, n, c, rfl⟩ := hin.form
  have hw1 : Below w.heap.size w (w.alloc (.cells #[.slice A n c] 62)) := (Below.refl _ _).alloc (Nat.le_refl _) _
  have hin1 := hin.below hw1 hhi
  have hbk := Blk.new w 62 #[.slice A n c]
  by_cases h1 : s.count ≤ 60
  · by_cases h2 : s.deep ≤ 30
    · have hs : s.sizes = (s.count, s.deep) := by simp [S.sizes, h1]
      have HC := Lib.hid (size_any s _ _ lo hi hin1 (by simp; omega))
      rw [hs] at HC
      cases hf : s.few with
      | true =>
        have HO : Hid (errOf s.ok = 0) := Lib.hid (by simp [S.ok, h1, h2, hf, errOf])
        have HF := Lib.hid hf
        clear hs hf
        go_enter Tryz.func127, Tryz.ntmps127
        go_wp2_with fail
        refine HC.out.mono ?_
        rintro e w1 ⟨rfl, hb1⟩
        have hc1 := (hbk.below hb1 (by simp)).cell 0
        have hin2 := hin1.below hb1 (by simp; omega)
        have hz := hb1.size
        simp only [World.size_alloc] at hb1 hz
        go_wp2_with fail
        refine (few_all s _ _ lo hi (by omega) hin2 (by omega)).mono ?_
        rw [HF.out]
        rintro e w2 ⟨rfl, hb2⟩
        go_wp2_with fail
        go_ret
        exact ⟨ret_int HO.out.symm, (hw1.trans (hb1.mono (by omega))).trans (hb2.mono (by omega))⟩
      | false =>
        have HO : Hid (errOf s.ok = 6) := Lib.hid (by simp [S.ok, h1, h2, hf, errOf])
        have HF := Lib.hid hf
        clear hs hf
        go_enter Tryz.func127, Tryz.ntmps127
        go_wp2_with fail
        refine HC.out.mono ?_
        rintro e w1 ⟨rfl, hb1⟩
        have hc1 := (hbk.below hb1 (by simp)).cell 0
        have hin2 := hin1.below hb1 (by simp; omega)
        have hz := hb1.size
        simp only [World.size_alloc] at hb1 hz
        go_wp2_with fail
        refine (few_all s _ _ lo hi (by omega) hin2 (by omega)).mono ?_
        rw [HF.out]
        rintro e w2 ⟨rfl, hb2⟩
        go_wp2_with fail
        go_ret
        exact ⟨ret_int HO.out.symm, (hw1.trans (hb1.mono (by omega))).trans (hb2.mono (by omega))⟩
    · have hs : s.sizes = (s.count, s.deep) := by simp [S.sizes, h1]
      have HC := Lib.hid (size_any s _ _ lo hi hin1 (by simp; omega))
      rw [hs] at HC
      have HO : Hid (errOf s.ok = 6) := Lib.hid (by simp [S.ok, h2, errOf])
      clear hs
      go_enter Tryz.func127, Tryz.ntmps127
      go_wp2_with fail
      refine HC.out.mono ?_
      rintro e w1 ⟨rfl, hb1⟩
      simp only [World.size_alloc] at hb1
      go_wp2_with fail
      go_ret
      exact ⟨ret_int HO.out.symm, hw1.trans (hb1.mono (by omega))⟩
  · have hs : s.sizes = (61, 0) := by simp [S.sizes, h1]
    have HC := Lib.hid (size_any s _ _ lo hi hin1 (by simp; omega))
    rw [hs] at HC
    have HO : Hid (errOf s.ok = 6) := Lib.hid (by simp [S.ok, h1, errOf])
    clear hs
    go_enter Tryz.func127, Tryz.ntmps127
    go_wp2_with fail
    refine HC.out.mono ?_
    rintro e w1 ⟨rfl, hb1⟩
    simp only [World.size_alloc] at hb1
    go_wp2_with fail
    go_ret
    exact ⟨ret_int HO.out.symm, hw1.trans (hb1.mono (by omega))⟩

set_option maxHeartbeats 400000 in
theorem countable_any (s : S) (v : Value) (w : World) (lo hi : Nat) (hin : s.In w lo hi v) (hhi : hi ≤ w.heap.size) :
    Calls Tryz.prog 175 #[.agg #[v]] w fun e w' => e = .returned (.bool (decide (s.count ≤ 60))) ∧ Below w.heap.size w w' := by
  obtain ⟨A, n, c, rfl⟩ := hin.form
  have hw1 : Below w.heap.size w (w.alloc (.cells #[.slice A n c] 62)) := (Below.refl _ _).alloc (Nat.le_refl _) _
  have hin1 := hin.below hw1 hhi
  have HC := Lib.hid (size_any s _ _ lo hi hin1 (by simp; omega))
  have hle : ∃ m : Nat, s.sizes.1 = m ∧ (m ≤ 60 ↔ s.count ≤ 60) := by
    refine ⟨_, rfl, ?_⟩
    by_cases h1 : s.count ≤ 60
    · simp [S.sizes, h1]
    · simp [S.sizes, h1]
  obtain ⟨m, hm, hmm⟩ := hle
  rw [hm] at HC
  have HF : Hid (decide ((m : Int) ≤ 60) = decide (s.count ≤ 60)) := Lib.hid (decide_eq_decide.2 (by omega))
  clear hm hmm
  go_enter Tryz.func175, Tryz.ntmps175
  go_wp2_with fail
  refine HC.out.mono ?_
  rintro e w1 ⟨rfl, hb1⟩
  simp only [World.size_alloc] at hb1
  go_wp2_with fail
  go_ret
  exact ⟨ret_bool HF.out, hw1.trans (hb1.mono (by omega))⟩
theorem S.ok_count {s : S} (h : s.ok = true) : s.count ≤ 60 := by
  simp only [S.ok, Bool.and_eq_true, decide_eq_true_eq] at h; omega

end Go.Proofs.YtbbejhhohppdhaaGreatDoor

namespace Go.Proofs.YtbbejhhohppdhaaGreatDoor
open Go.RowKit

set_option maxHeartbeats 400000 in
theorem order_any (K : Nat) : ∀ (s : S) (v : Value) (w : World) (lo hi : Nat), s.count ≤ K → s.count ≤ 1000 → s.In w lo hi v → hi ≤ w.heap.size →
    Calls Tryz.prog 131 #[.agg #[v]] w fun e w' => e = .returned (.int .i64 (s.ord : Int)) ∧ Below w.heap.size w w' := by
  induction K with
  | zero => intro s; have := s.count_pos; omega
  | succ K ih =>
    intro s v w lo hi hK hm hin hhi
    obtain ⟨l⟩ := s
    simp only [S.In] at hin
    obtain ⟨A, _, c, rfl, rfl, hnc, hc, hall⟩ := hin
    go_enter Tryz.func131, Tryz.ntmps131
    go_wp2_with fail
    go_loopw [3, 9] (fun n i wr => ∃ k : Nat, k ≤ l.length ∧ i = .int .i64 k ∧ n = .int .i64 ((S.ordL (l.take k) : Nat) : Int) ∧ Below w.heap.size w wr) (fun _ i _ => l.length - (intOf i).toNat)
    case atStart => exact ⟨0, Nat.zero_le _, rfl, by simp [S.ordL], (Below.refl _ _).alloc (Nat.le_refl _) _⟩
    case round =>
      obtain ⟨k, hk, rfl, rfl, hbel⟩ := hrel
      have hsz := hbel.size
      by_cases hlt : k < l.length
      · have hx : l[k]? = some l[k] := List.getElem?_eq_getElem hlt
        have hcs := S.ordL_take_succ l k _ hx
        have hcl := S.count_lt hx
        have hd1 := l[k].deep_le
        have hd4 := l[k].ord_lt
        obtain ⟨ad, u, rfl, _, hadb, hcell, hinx⟩ := hall.at_ hx
        rw [Nat.zero_add] at hcell
        have hcellr : wr.cell? (ad.add k) = some u := (hbel.cell (by rw [block_of_add]; omega)).trans hcell
        obtain ⟨A', n', c', rfl⟩ := hinx.form
        have hinr := hinx.below (hbel.trans (((Below.refl _ _).alloc hsz (.cells #[.slice A' n' c'] 62)))) hhi
        have hd2 : S.ordL (l.take k) ≤ S.ordL l := S.ordL_take_le l k
        have hd5 := S.ordL_le l
        have hd3 := S.deepL_le l
        simp only [S.count] at hm hcl hK
        generalize l[k] = x at *
        have HS := Lib.hid hcs
        clear hcs hx hcell
        go_wp2_with fail
        refine (ih x _ _ lo hi (by omega) (by omega) hinr (by simp; omega)).mono ?_
        rintro e w1 ⟨rfl, hb1⟩
        simp only [World.size_alloc] at hb1
        go_wp2_with fail
        all_goals
          go_roundw
          case rel => exact ⟨k + 1, by omega, by go_num, congrArg (Value.int .i64) (by have h2 := HS.out; omega), hbel.trans (((Below.refl _ _).alloc hsz _).trans (hb1.mono (by omega)))⟩
          case measure => simp [intOf]; omega
      · have hfin : ((S.ordL (l.take k) : Nat) : Int) = ((S.mk l).ord : Int) := by rw [List.take_of_length_le (by omega)]; simp [S.ord]
        have HF := Lib.hid hfin
        clear hfin
        go_wp2_with fail
        go_ret
        exact ⟨ret_int HF.out, hbel⟩

/-- What Order returns. -/
def S.orders (s : S) : Int × Int := if s.ok then ((s.ord : Int), 0) else (0, 6)
set_option maxHeartbeats 400000 in
theorem Order_any (s : S) (v : Value) (w : World) (lo hi : Nat) (hin : s.In w lo hi v) (hhi : hi ≤ w.heap.size) :
    Calls Tryz.prog 89 #[.agg #[v]] w fun e w' => e = .returned (.tuple #[.int .i64 s.orders.1, .int .i64 s.orders.2]) ∧ Below w.heap.size w w' := by
  obtain ⟨A, n, c, rfl⟩ := hin.form
  have hw1 : Below w.heap.size w (w.alloc (.cells #[.slice A n c] 62)) := (Below.refl _ _).alloc (Nat.le_refl _) _
  have hin1 := hin.below hw1 hhi
  have hbk := Blk.new w 62 #[.slice A n c]
  have HC := Lib.hid (check_any s _ _ lo hi hin1 (by simp; omega))
  cases hok : s.ok with
  | true =>
    have hcnt := S.ok_count hok
    have HO : Hid (s.orders = ((s.ord : Int), 0)) := Lib.hid (by simp [S.orders, hok])
    rw [hok] at HC
    clear hok
    go_enter Tryz.func89, Tryz.ntmps89
    go_wp2_with fail
    refine HC.out.mono ?_
    rintro e w1 ⟨rfl, hb1⟩
    simp only [errOf, if_true]
    have hc1 := (hbk.below hb1 (by simp)).cell 0
    have hin2 := hin1.below hb1 (by simp; omega)
    have hz := hb1.size
    simp only [World.size_alloc] at hb1 hz
    go_wp2_with fail
    refine (order_any _ s _ _ lo hi (Nat.le_refl _) (by omega) hin2 (by omega)).mono ?_
    rintro e w2 ⟨rfl, hb2⟩
    go_wp2_with fail
    go_ret2
    exact ⟨by rw [HO.out]; rfl, (hw1.trans (hb1.mono (by omega))).trans (hb2.mono (by omega))⟩
  | false =>
    have HO : Hid (s.orders = (0, 6)) := Lib.hid (by simp [S.orders, hok])
    rw [hok] at HC
    clear hok
    go_enter Tryz.func89, Tryz.ntmps89
    go_wp2_with fail
    refine HC.out.mono ?_
    rintro e w1 ⟨rfl, hb1⟩
    rw [show errOf false = 6 from rfl]
    simp only [World.size_alloc] at hb1
    go_wp2_with fail
    go_ret2
    exact ⟨by rw [HO.out]; rfl, hw1.trans (hb1.mono (by omega))⟩

end Go.Proofs.YtbbejhhohppdhaaGreatDoor

namespace Go.Proofs.YtbbejhhohppdhaaGreatDoor
open Go.RowKit

mutual
def S.eqb : S → S → Bool
  | .mk l, .mk m => S.eqL l m
def S.eqL : List S → List S → Bool
  | [], [] => true
  | x :: r, y :: t => x.eqb y && S.eqL r t
  | _, _ => false
end
mutual
theorem S.eqb_iff : ∀ s t : S, s.eqb t = true ↔ s = t
  | .mk l, .mk m => by simp only [S.eqb, S.mk.injEq]; exact S.eqL_iff l m
theorem S.eqL_iff : ∀ l m : List S, S.eqL l m = true ↔ l = m
  | [], [] => by simp [S.eqL]
  | x :: r, [] => by simp [S.eqL]
  | [], y :: t => by simp [S.eqL]
  | x :: r, y :: t => by simp only [S.eqL, Bool.and_eq_true, List.cons.injEq, S.eqb_iff x y, S.eqL_iff r t]
end
theorem S.eqL_len (l m : List S) (h : l.length ≠ m.length) : S.eqL l m = false := by
  rw [Bool.eq_false_iff]; intro hh; exact h (congrArg List.length ((S.eqL_iff l m).1 hh))
theorem S.eqL_take_succ (l m : List S) (k : Nat) (x y : S) (hx : l[k]? = some x) (hy : m[k]? = some y) (h : S.eqL (l.take k) (m.take k) = true) :
    S.eqL (l.take (k + 1)) (m.take (k + 1)) = x.eqb y := by
  have e := (S.eqL_iff _ _).1 h
  rw [Bool.eq_iff_iff, S.eqL_iff, S.eqb_iff, List.take_add_one, List.take_add_one, hx, hy, e]
  simp
theorem S.eqL_false (l m : List S) (k : Nat) (x y : S) (hx : l[k]? = some x) (hy : m[k]? = some y) (h : x.eqb y = false) : S.eqL l m = false := by
  rw [Bool.eq_false_iff]; intro hh
  have e := (S.eqL_iff _ _).1 hh
  subst e
  rw [hx] at hy
  have hxy : x = y := by simpa using hy
  rw [(S.eqb_iff x y).2 hxy] at h
  cases h

set_option maxHeartbeats 400000 in
theorem eqf_any {K : Nat} (ih : ∀ (s t : S) (v u : Value) (w : World) (lo hi lo' hi' : Nat), s.count ≤ K → s.In w lo hi v → hi ≤ w.heap.size → t.In w lo' hi' u → hi' ≤ w.heap.size →
    Calls Tryz.prog 176 #[.agg #[v], .agg #[u]] w fun e w' => e = .returned (.bool (s.eqb t)) ∧ Below w.heap.size w w')
    (l m : List S) (A A2 : Option Addr) (c c2 : Nat) (w : World) (lo hi lo' hi' : Nat) (hK : ∀ (k : Nat) (x : S), l[k]? = some x → x.count ≤ K)
    (hlc : l.length ≤ c) (hc : c ≤ 9223372036854775807) (hmc : m.length ≤ c2) (hall : S.All w lo hi A 0 l) (hhi : hi ≤ w.heap.size) (hall2 : S.All w lo' hi' A2 0 m) (hhi2 : hi' ≤ w.heap.size) :
    Calls Tryz.prog 201 #[.slice A l.length c, .slice A2 m.length c2, .func (.func 176) #[] #[]] w fun e w' => e = .returned (.bool (S.eqL l m)) ∧ Below w.heap.size w w' := by
  have Hih := Lib.hid ih
  clear ih
  by_cases hlen : l.length = m.length
  · generalize hm0 : m.length = n at *
    subst hlen
    have HM0 := Lib.hid hm0
    clear hm0
    go_enter Tryz.func201, Tryz.ntmps201
    go_wp2_with fail
    go_loopw [17] (fun i wr => ∃ k : Nat, k ≤ l.length ∧ i = .int .i64 k ∧ Hid (S.eqL (l.take k) (m.take k) = true) ∧ Below w.heap.size w wr) (fun i _ => l.length - (intOf i).toNat)
    case atStart => exact ⟨0, Nat.zero_le _, rfl, Lib.hid (by simp [S.eqL]), Below.refl _ _⟩
    case round =>
      obtain ⟨k, hk, rfl, hf, hbel⟩ := hrel
      have hsz := hbel.size
      by_cases hlt : k < l.length
      · have hx : l[k]? = some l[k] := List.getElem?_eq_getElem hlt
        have hlt2 : k < m.length := by have := HM0.out; omega
        have hy : m[k]? = some m[k] := List.getElem?_eq_getElem hlt2
        have hcl := hK k _ hx
        obtain ⟨ad, u, rfl, _, hadb, hcell, hinx⟩ := hall.at_ hx
        obtain ⟨ad2, u2, rfl, _, hadb2, hcell2, hinx2⟩ := hall2.at_ hy
        rw [Nat.zero_add] at hcell hcell2
        have hcellr : wr.cell? (ad.add k) = some u := (hbel.cell (by rw [block_of_add]; omega)).trans hcell
        have hcellr2 : wr.cell? (ad2.add k) = some u2 := (hbel.cell (by rw [block_of_add]; omega)).trans hcell2
        obtain ⟨A', n', c', rfl⟩ := hinx.form
        obtain ⟨A'', n'', c'', rfl⟩ := hinx2.form
        have hw2 : Below w.heap.size w ((wr.alloc (.cells #[.slice A' n' c'] 62)).alloc (.cells #[.slice A'' n'' c''] 62)) := (hbel.alloc hsz _).alloc (by simp; omega) _
        have hct := Hih.out l[k] m[k] _ _ _ lo hi lo' hi' hcl (hinx.below hw2 hhi) (by simp; omega) (hinx2.below hw2 hhi2) (by simp; omega)
        have hsucc := S.eqL_take_succ l m k _ _ hx hy hf.out
        have hfalse := S.eqL_false l m k _ _ hx hy
        generalize l[k] = x at *
        generalize m[k] = y at *
        have hc3 : (wr.alloc (.cells #[.slice A' n' c'] 62)).cell? (ad2.add k) = some (.slice A'' n'' c'') := (World.cell?_alloc_lt _ _ _ (by rw [block_of_add]; omega)).trans hcellr2
        cases hb : x.eqb y with
        | true =>
          have hrel' : Hid (S.eqL (l.take (k + 1)) (m.take (k + 1)) = true) := Lib.hid (hsucc.trans hb)
          rw [hb] at hct
          have HC := Lib.hid hct
          clear hx hy hcell hcell2 hsucc hfalse hct hb
          go_wp2_with fail
          refine HC.out.mono ?_
          rintro e w1 ⟨rfl, hb1⟩
          simp only [World.size_alloc] at hb1
          go_wp2_with fail
          go_roundw
          case rel => exact ⟨k + 1, by omega, by go_num, hrel', hw2.trans (hb1.mono (by omega))⟩
          case measure => simp [intOf]; omega
        | false =>
          have HF := Lib.hid (hfalse hb)
          rw [hb] at hct
          have HC := Lib.hid hct
          clear hx hy hcell hcell2 hsucc hfalse hct hb
          go_wp2_with fail
          refine HC.out.mono ?_
          rintro e w1 ⟨rfl, hb1⟩
          simp only [World.size_alloc] at hb1
          go_wp2_with fail
          go_ret
          exact ⟨ret_bool HF.out.symm, hw2.trans (hb1.mono (by omega))⟩
      · have h1 : l.take k = l := List.take_of_length_le (by omega)
        have h2 : m.take k = m := List.take_of_length_le (by have := HM0.out; omega)
        rw [h1, h2] at hf
        clear h1 h2
        go_wp2_with fail
        go_ret
        exact ⟨ret_bool hf.out.symm, hbel⟩
  · have HF := Lib.hid (S.eqL_len l m hlen)
    go_enter Tryz.func201, Tryz.ntmps201
    go_wp2_with fail
    go_ret
    exact ⟨ret_bool HF.out.symm, Below.refl _ _⟩

set_option maxHeartbeats 400000 in
theorem equal_any (K : Nat) : ∀ (s t : S) (v u : Value) (w : World) (lo hi lo' hi' : Nat), s.count ≤ K → s.In w lo hi v → hi ≤ w.heap.size → t.In w lo' hi' u → hi' ≤ w.heap.size →
    Calls Tryz.prog 176 #[.agg #[v], .agg #[u]] w fun e w' => e = .returned (.bool (s.eqb t)) ∧ Below w.heap.size w w' := by
  induction K with
  | zero => intro s; have := s.count_pos; omega
  | succ K ih =>
    intro s t v u w lo hi lo' hi' hK hin hhi hin2 hhi2
    obtain ⟨A1, n1, c1, rfl⟩ := hin.form
    obtain ⟨A3, n3, c3, rfl⟩ := hin2.form
    have hw2 : Below w.heap.size w ((w.alloc (.cells #[.slice A1 n1 c1] 62)).alloc (.cells #[.slice A3 n3 c3] 62)) := ((Below.refl _ _).alloc (Nat.le_refl _) _).alloc (by simp) _
    have h1 := hin.below hw2 hhi
    have h2 := hin2.below hw2 hhi2
    obtain ⟨l⟩ := s
    obtain ⟨m⟩ := t
    simp only [S.In] at h1 h2
    obtain ⟨A, _, c, hv, rfl, hnc, hc, hall⟩ := h1
    obtain ⟨A2, _, c2, hv2, rfl, hnc2, hc2, hall2⟩ := h2
    injection hv with e1 e2 e3
    injection hv2 with e4 e5 e6
    subst e1 e2 e3 e4 e5 e6
    have HC := Lib.hid (eqf_any ih l m A1 A3 c1 c3 _ lo hi lo' hi' (fun k x hx => by have := S.count_lt hx; omega) hnc hc hnc2 hall (by simp; omega) hall2 (by simp; omega))
    clear ih hall hall2
    go_enter Tryz.func176, Tryz.ntmps176
    go_wp2_with fail
    refine HC.out.mono ?_
    rintro e w1 ⟨rfl, hb1⟩
    simp only [World.size_alloc] at hb1
    go_wp2_with fail
    go_ret
    exact ⟨rfl, hw2.trans (hb1.mono (by omega))⟩

set_option maxHeartbeats 400000 in
theorem same_any (s t : S) (v u : Value) (w : World) (lo hi lo' hi' : Nat) (hin : s.In w lo hi v) (hhi : hi ≤ w.heap.size) (hin2 : t.In w lo' hi' u) (hhi2 : hi' ≤ w.heap.size) :
    Calls Tryz.prog 138 #[.agg #[v], .agg #[u]] w fun e w' => e = .returned (.bool (decide (s.count ≤ 60) && (decide (t.count ≤ 60) && s.eqb t))) ∧ Below w.heap.size w w' := by
  obtain ⟨A1, n1, c1, rfl⟩ := hin.form
  obtain ⟨A3, n3, c3, rfl⟩ := hin2.form
  have hw2 : Below w.heap.size w ((w.alloc (.cells #[.slice A1 n1 c1] 62)).alloc (.cells #[.slice A3 n3 c3] 62)) := ((Below.refl _ _).alloc (Nat.le_refl _) _).alloc (by simp) _
  have hb1 : Blk ((w.alloc (.cells #[.slice A1 n1 c1] 62)).alloc (.cells #[.slice A3 n3 c3] 62)) w.heap.size 62 #[.slice A1 n1 c1] := (Blk.new _ _ _).alloc _
  have hb2 : Blk ((w.alloc (.cells #[.slice A1 n1 c1] 62)).alloc (.cells #[.slice A3 n3 c3] 62)) (w.heap.size + 1) 62 #[.slice A3 n3 c3] := by simpa using Blk.new (w.alloc (.cells #[.slice A1 n1 c1] 62)) 62 #[.slice A3 n3 c3]
  have h1 := hin.below hw2 hhi
  have h2 := hin2.below hw2 hhi2
  have HC := Lib.hid (countable_any s _ _ lo hi h1 (by simp; omega))
  by_cases g1 : s.count ≤ 60
  · simp only [g1, decide_true, Bool.true_and] at HC ⊢
    by_cases g2 : t.count ≤ 60
    · simp only [g2, decide_true, Bool.true_and] at HC ⊢
      go_enter Tryz.func138, Tryz.ntmps138
      go_wp2_with fail
      refine HC.out.mono ?_
      rintro e w1 ⟨rfl, hw1⟩
      have k1 := hb1.below hw1 (by simp; omega)
      have k2 := hb2.below hw1 (by simp)
      have c1 := k1.cell 0
      have c2 := k2.cell 0
      have i1 := h1.below hw1 (by simp; omega)
      have i2 := h2.below hw1 (by simp; omega)
      have hz := hw1.size
      simp only [World.size_alloc] at hw1 hz
      have HC2 := countable_any t _ _ lo' hi' i2 (by omega)
      simp only [g2, decide_true] at HC2
      have HD := Lib.hid HC2
      clear HC2
      go_wp2_with fail
      refine HD.out.mono ?_
      rintro e w2 ⟨rfl, hw22⟩
      have k3 := k1.below hw22 (by omega)
      have k4 := k2.below hw22 (by omega)
      have c3 := k3.cell 0
      have c4 := k4.cell 0
      have j1 := i1.below hw22 (by omega)
      have j2 := i2.below hw22 (by omega)
      have hz2 := hw22.size
      go_wp2_with fail
      refine (equal_any _ s t _ _ _ lo hi lo' hi' (Nat.le_refl _) j1 (by omega) j2 (by omega)).mono ?_
      rintro e w3 ⟨rfl, hw3⟩
      go_wp2_with fail
      go_ret
      exact ⟨rfl, ((hw2.trans (hw1.mono (by omega))).trans (hw22.mono (by omega))).trans (hw3.mono (by omega))⟩
    · simp only [g2, decide_false, Bool.false_and] at HC ⊢
      go_enter Tryz.func138, Tryz.ntmps138
      go_wp2_with fail
      refine HC.out.mono ?_
      rintro e w1 ⟨rfl, hw1⟩
      have k2 := hb2.below hw1 (by simp)
      have c2 := k2.cell 0
      have i2 := h2.below hw1 (by simp; omega)
      have hz := hw1.size
      simp only [World.size_alloc] at hw1 hz
      have HC2 := countable_any t _ _ lo' hi' i2 (by omega)
      simp only [g2, decide_false] at HC2
      have HD := Lib.hid HC2
      clear HC2
      go_wp2_with fail
      refine HD.out.mono ?_
      rintro e w2 ⟨rfl, hw22⟩
      go_wp2_with fail
      go_ret
      exact ⟨rfl, (hw2.trans (hw1.mono (by omega))).trans (hw22.mono (by omega))⟩
  · simp only [g1, decide_false, Bool.false_and] at HC ⊢
    go_enter Tryz.func138, Tryz.ntmps138
    go_wp2_with fail
    refine HC.out.mono ?_
    rintro e w1 ⟨rfl, hw1⟩
    simp only [World.size_alloc] at hw1
    go_wp2_with fail
    go_ret
    exact ⟨rfl, hw2.trans (hw1.mono (by omega))⟩

set_option maxHeartbeats 1600000 in
theorem refEqual_any (K : Nat) : ∀ (s t : S) (v u : Value) (w : World) (lo hi lo' hi' : Nat), s.count ≤ K → s.In w lo hi v → hi ≤ w.heap.size → t.In w lo' hi' u → hi' ≤ w.heap.size →
    Calls Tryz.prog 60 #[.agg #[v], .agg #[u]] w fun e w' => e = .returned (.bool (s.eqb t)) ∧ Below w.heap.size w w' := by
  induction K with
  | zero => intro s; have := s.count_pos; omega
  | succ K ih =>
    intro s t v u w lo hi lo' hi' hK hin hhi hin2 hhi2
    obtain ⟨l⟩ := s
    obtain ⟨m⟩ := t
    simp only [S.In] at hin hin2
    obtain ⟨A, _, c, rfl, rfl, hnc, hc, hall⟩ := hin
    obtain ⟨A2, n2, c2, rfl, hm2, hnc2, hc2, hall2⟩ := hin2
    have Hih := Lib.hid ih
    clear ih
    by_cases hlen : l.length = n2
    · subst hlen
      have HM0 := Lib.hid hm2
      clear hm2
      go_enter Tryz.func60, Tryz.ntmps60
      go_wp2_with fail
      go_loopw [16] (fun i wr => ∃ k : Nat, k ≤ l.length ∧ i = .int .i64 k ∧ Hid (S.eqL (l.take k) (m.take k) = true) ∧ Blk wr w.heap.size 62 #[.slice A l.length c] ∧ Blk wr (w.heap.size + 1) 62 #[.slice A2 l.length c2] ∧ Below w.heap.size w wr) (fun i _ => l.length - (intOf i).toNat)
      case atStart => exact ⟨0, Nat.zero_le _, rfl, Lib.hid (by simp [S.eqL]), (Blk.new _ _ _).alloc _, by simpa using Blk.new (w.alloc (.cells #[.slice A l.length c] 62)) 62 #[.slice A2 l.length c2], ((Below.refl _ _).alloc (Nat.le_refl _) _).alloc (by simp) _⟩
      case round =>
        obtain ⟨k, hk, rfl, hf, hb1, hb2, hbel⟩ := hrel
        have hsz := hb2.lt
        have hd1 := hb1.cell 0
        have hd2 := hb2.cell 0
        by_cases hlt : k < l.length
        · have hx : l[k]? = some l[k] := List.getElem?_eq_getElem hlt
          have hlt2 : k < m.length := by have := HM0.out; omega
          have hy : m[k]? = some m[k] := List.getElem?_eq_getElem hlt2
          have hcl := S.count_lt hx
          obtain ⟨ad, u, rfl, _, hadb, hcell, hinx⟩ := hall.at_ hx
          obtain ⟨ad2, u2, rfl, _, hadb2, hcell2, hinx2⟩ := hall2.at_ hy
          rw [Nat.zero_add] at hcell hcell2
          have hcellr : wr.cell? (ad.add k) = some u := (hbel.cell (by rw [block_of_add]; omega)).trans hcell
          have hcellr2 : wr.cell? (ad2.add k) = some u2 := (hbel.cell (by rw [block_of_add]; omega)).trans hcell2
          have hct := Hih.out l[k] m[k] u u2 wr.drew lo hi lo' hi' (by omega) (hinx.below hbel.drew hhi) (by simp; omega) (hinx2.below hbel.drew hhi2) (by simp; omega)
          have hsucc := S.eqL_take_succ l m k _ _ hx hy hf.out
          have hfalse := S.eqL_false l m k _ _ hx hy
          generalize l[k] = x at *
          generalize m[k] = y at *
          cases hb : x.eqb y with
          | true =>
            have hrel' : Hid (S.eqL (l.take (k + 1)) (m.take (k + 1)) = true) := Lib.hid (hsucc.trans hb)
            rw [hb] at hct
            have HC := Lib.hid hct
            clear hx hy hcell hcell2 hsucc hfalse hct hb
            go_wp2_with fail
            go_region_held3 (fun w' => w'.cell? ⟨w.heap.size, 0, none⟩ = some (.slice (some ad) l.length c) ∧ w'.cell? ⟨w.heap.size + 1, 0, none⟩ = some (.slice (some ad2) l.length c2) ∧ w'.cell? (ad.add k) = some u ∧ w'.cell? (ad2.add k) = some u2) (first | go_keep | assumption)
              (first
                | (go_at_call 60
                   refine HC.out.mono ?_
                   rintro e w1 ⟨rfl, hw1⟩
                   have QK : ∀ (p : Addr) (z : Value), p.block < wr.heap.size → wr.cell? p = some z → w1.cell? p = some z := fun p z hp h => (hw1.cell hp).trans h
                   have Q := And.intro (QK _ _ (by simp; omega) hd1) (And.intro (QK _ _ (by simp; omega) hd2) (And.intro (QK _ _ (by rw [block_of_add]; omega) hcellr) (QK _ _ (by rw [block_of_add]; omega) hcellr2)))
                   clear QK))
            all_goals
              replace hw1 : Below wr.heap.size wr.drew w1 := hw1
              go_wp2_with fail
              go_roundw
              case rel => exact ⟨k + 1, by omega, by go_num, hrel', hb1.drew.below hw1 (by omega), hb2.drew.below hw1 (by omega), hbel.drew.trans (hw1.mono (by omega))⟩
              case measure => simp [intOf]; omega
          | false =>
            have HF := Lib.hid (hfalse hb)
            rw [hb] at hct
            have HC := Lib.hid hct
            clear hx hy hcell hcell2 hsucc hfalse hct hb
            go_wp2_with fail
            go_region_held3 (fun w' => w'.cell? ⟨w.heap.size, 0, none⟩ = some (.slice (some ad) l.length c) ∧ w'.cell? ⟨w.heap.size + 1, 0, none⟩ = some (.slice (some ad2) l.length c2) ∧ w'.cell? (ad.add k) = some u ∧ w'.cell? (ad2.add k) = some u2) (first | go_keep | assumption)
              (first
                | (go_at_call 60
                   refine HC.out.mono ?_
                   rintro e w1 ⟨rfl, hw1⟩
                   have QK : ∀ (p : Addr) (z : Value), p.block < wr.heap.size → wr.cell? p = some z → w1.cell? p = some z := fun p z hp h => (hw1.cell hp).trans h
                   have Q := And.intro (QK _ _ (by simp; omega) hd1) (And.intro (QK _ _ (by simp; omega) hd2) (And.intro (QK _ _ (by rw [block_of_add]; omega) hcellr) (QK _ _ (by rw [block_of_add]; omega) hcellr2)))
                   clear QK))
            all_goals
              replace hw1 : Below wr.heap.size wr.drew w1 := hw1
              go_wp2_with fail
              go_ret
              exact ⟨ret_bool HF.out.symm, hbel.drew.trans (hw1.mono (by omega))⟩
        · have h1 : l.take k = l := List.take_of_length_le (by omega)
          have h2 : m.take k = m := List.take_of_length_le (by have := HM0.out; omega)
          rw [h1, h2] at hf
          clear h1 h2
          go_wp2_with fail
          go_ret
          exact ⟨ret_bool hf.out.symm, hbel⟩
    · have hF := S.eqL_len l m (by omega)
      have HF := Lib.hid hF
      clear hF hm2
      go_enter Tryz.func60, Tryz.ntmps60
      go_wp2_with fail
      go_ret
      exact ⟨ret_bool HF.out.symm, ((Below.refl _ _).alloc (Nat.le_refl _) _).alloc (by simp) _⟩

end Go.Proofs.YtbbejhhohppdhaaGreatDoor

namespace Go.Proofs.YtbbejhhohppdhaaGreatDoor
open Go.RowKit

mutual
/-- A cell's value is the sort, each array in a block of its own; fp: the blocks. -/
def S.Sep (w : World) : S → Value → List Nat → Prop
  | .mk l, v, fp => ∃ us rest, w.ownsRow 0 62 1 v l.length us ∧ S.SepL w l us rest ∧ fp = v.ownBlock.toList ++ rest
def S.SepL (w : World) : List S → List Value → List Nat → Prop
  | [], us, fp => us = [] ∧ fp = []
  | s :: r, us, fp => ∃ u ut f1 f2, us = u :: ut ∧ s.Sep w u f1 ∧ S.SepL w r ut f2 ∧ fp = f1 ++ f2
end
theorem owns_kept {w w' : World} {base : Nat} {e : TypeId} {size : Nat} {v : Value} {n : Nat} {xs : List Value} (h : w.ownsRow base e size v n xs) (hk : ∀ b, v.ownBlock = some b → w'.heap[b]? = w.heap[b]?) : w'.ownsRow base e size v n xs := by
  refine ⟨h.1, ?_⟩
  rcases h.2 with h2 | ⟨g, cap, cur, rfl, h3, h4, h5⟩
  · exact .inl h2
  · exact .inr ⟨g, cap, cur, rfl, h3, (hk g rfl).trans h4, h5⟩
mutual
theorem S.Sep.keep {w w' : World} : ∀ (s : S) {v : Value} {fp : List Nat}, s.Sep w v fp → (∀ b ∈ fp, w'.heap[b]? = w.heap[b]?) → s.Sep w' v fp
  | .mk l, v, fp, h, hb => by
    simp only [S.Sep] at h ⊢
    obtain ⟨us, rest, h1, h2, rfl⟩ := h
    exact ⟨us, rest, owns_kept h1 (fun b hb' => hb b (by simp [hb'])), S.SepL.keep l h2 (fun b hb' => hb b (by simp [hb'])), rfl⟩
theorem S.SepL.keep {w w' : World} : ∀ (l : List S) {us : List Value} {fp : List Nat}, S.SepL w l us fp → (∀ b ∈ fp, w'.heap[b]? = w.heap[b]?) → S.SepL w' l us fp
  | [], us, fp, h, _ => by simpa [S.SepL] using h
  | s :: r, us, fp, h, hb => by
    simp only [S.SepL] at h ⊢
    obtain ⟨u, ut, f1, f2, rfl, h1, h2, rfl⟩ := h
    exact ⟨u, ut, f1, f2, rfl, S.Sep.keep s h1 (fun b hb' => hb b (by simp [hb'])), S.SepL.keep r h2 (fun b hb' => hb b (by simp [hb'])), rfl⟩
end
theorem S.SepL.snoc {w : World} {x : S} {u : Value} {g : List Nat} (hx : x.Sep w u g) : ∀ (l : List S) {us : List Value} {fp : List Nat}, S.SepL w l us fp → S.SepL w (l ++ [x]) (us ++ [u]) (fp ++ g)
  | [], us, fp, h => by
    simp only [S.SepL] at h
    obtain ⟨rfl, rfl⟩ := h
    simp only [List.nil_append, S.SepL]
    exact ⟨u, [], g, [], rfl, hx, ⟨rfl, rfl⟩, by simp⟩
  | s :: r, us, fp, h => by
    simp only [S.SepL] at h
    obtain ⟨u', ut, f1, f2, rfl, h1, h2, rfl⟩ := h
    simp only [List.cons_append, S.SepL]
    exact ⟨u', ut ++ [u], f1, f2 ++ g, rfl, h1, S.SepL.snoc hx r h2, by simp⟩
mutual
theorem S.Sep.in_ {w : World} {lo hi : Nat} : ∀ (s : S) {v : Value} {fp : List Nat}, s.Sep w v fp → (∀ b ∈ fp, lo ≤ b ∧ b < hi) → s.In w lo hi v
  | .mk l, v, fp, h, hb => by
    simp only [S.Sep] at h
    obtain ⟨us, rest, h1, h2, rfl⟩ := h
    simp only [S.In]
    have hlen := h1.1
    rcases h1.2 with ⟨rfl, hl⟩ | ⟨g, cap, cur, rfl, h3, h4, h5, h6, h7⟩
    · have : l = [] := List.eq_nil_of_length_eq_zero hl
      subst this
      exact ⟨_, _, _, rfl, rfl, Nat.le_refl _, by omega, by simp [S.All]⟩
    · refine ⟨_, _, _, rfl, rfl, h5, by simpa [maxLen] using h6, ?_⟩
      have hg := hb g (by simp [Value.ownBlock])
      exact S.SepL.all l h2 (fun b hb' => hb b (by simp [hb'])) (fun j u hu => by
        have := h1.cells (g := g) rfl j u hu
        simpa using this) hg.1 hg.2
theorem S.SepL.all {w : World} {lo hi : Nat} : ∀ (l : List S) {us : List Value} {fp : List Nat} {ad : Addr} {i : Nat}, S.SepL w l us fp → (∀ b ∈ fp, lo ≤ b ∧ b < hi) →
    (∀ j u, us[j]? = some u → w.cell? (ad.add (i + j)) = some u) → lo ≤ ad.block → ad.block < hi → S.All w lo hi (some ad) i l
  | [], us, fp, ad, i, _, _, _, _, _ => by simp [S.All]
  | s :: r, us, fp, ad, i, h, hb, hc, h1, h2 => by
    simp only [S.SepL] at h
    obtain ⟨u, ut, f1, f2, rfl, h3, h4, rfl⟩ := h
    simp only [S.All]
    refine ⟨⟨ad, u, rfl, h1, h2, by simpa using hc 0 u rfl, S.Sep.in_ s h3 (fun b hb' => hb b (by simp [hb']))⟩, S.SepL.all r h4 (fun b hb' => hb b (by simp [hb'])) (fun j u' hu => ?_) h1 h2⟩
    have := hc (j + 1) u' (by simpa using hu)
    rwa [show i + (j + 1) = i + 1 + j from by omega] at this
end

theorem S.Sep.form {w : World} {s : S} {v : Value} {fp : List Nat} (h : s.Sep w v fp) : ∃ A n c, v = .slice A n c := by
  obtain ⟨l⟩ := s
  simp only [S.Sep] at h
  obtain ⟨us, rest, h1, _⟩ := h
  rcases h1.2 with ⟨rfl, _⟩ | ⟨g, cap, cur, rfl, _⟩
  · exact ⟨_, _, _, rfl⟩
  · exact ⟨_, _, _, rfl⟩
theorem sort_info : (Tryz.prog.info? 62).map (fun i => (i.zero, i.size, i.bytes)) = some (some (.agg #[.slice none 0 0]), 1, 24) := by kernel_rfl

/-- What clone leaves: a value that is the sort in blocks of its own, from block number B on. -/
def Cloned (s : S) (B : Nat) (w : World) (e : Ending) (w' : World) : Prop :=
  ∃ v fp, e = .returned (.agg #[v]) ∧ s.Sep w' v fp ∧ fp.Nodup ∧ (∀ b ∈ fp, B ≤ b ∧ b < w'.heap.size) ∧ Below w.heap.size w w'

/-- What the loop of clone holds behind k rounds. -/
structure Round (l : List S) (B : Nat) (w0 : World) (k : Nat) (cv : Value) (us : List Value) (fp : List Nat) (w : World) : Prop where
  own : w.ownsRow (B + 3) 62 1 cv k us
  sep : S.SepL w (l.take k) us fp
  nod : (cv.ownBlock.toList ++ fp).Nodup
  rng : ∀ b ∈ fp, B + 3 ≤ b ∧ b < w.heap.size
  blk : Blk w (B + 1 + 1) 62 #[cv]
  res : Blk w (B + 1) 62 #[.slice none 0 0]
  bel : Below B w0 w

theorem Round.next {l : List S} {B : Nat} {w0 wr w1 w2 : World} {k : Nat} {cv : Value} {us : List Value} {fp fp1 : List Nat} {x : S} {v1 : Value} {gg cap : Nat} {o o1 : Obj}
    (hr : Round l B w0 k cv us fp wr) (hx : l[k]? = some x) (hsep1 : x.Sep w1 v1 fp1) (hnod1 : fp1.Nodup) (hrng1 : ∀ b ∈ fp1, wr.heap.size + 1 ≤ b ∧ b < w1.heap.size)
    (hbb1 : Below (wr.heap.size + 1) (wr.alloc o).drew w1) (hwz : wr.heap.size + 1 ≤ w1.heap.size)
    (hown2 : w2.ownsRow (B + 3) 62 1 (.slice (some ⟨gg, 0, none⟩) (k + 1) cap) (k + 1) (us ++ [v1])) (hgrow : (w1.alloc o1).grownBy w2 cv.ownBlock)
    (hat : cv.ownBlock = some gg ∨ gg = w1.heap.size + 1) :
    Round l B w0 (k + 1) (.slice (some ⟨gg, 0, none⟩) (k + 1) cap) (us ++ [v1]) (fp ++ fp1) (w2.setCell ⟨B + 1 + 1, 0, none⟩ (.slice (some ⟨gg, 0, none⟩) (k + 1) cap)) := by
  have hB3 : B + 1 + 1 < wr.heap.size := hr.blk.lt
  have hgl := hown2.lt gg rfl
  have hsz2 : w1.heap.size + 1 ≤ w2.heap.size := by have := hgrow.size; simpa using this
  have hcvlt : ∀ b, cv.ownBlock = some b → B + 3 ≤ b ∧ b < wr.heap.size := fun b hb => hr.own.lt b hb
  have hfar : ∀ b, b < w1.heap.size → cv.ownBlock ≠ some b → b ≠ B + 1 + 1 → (w2.setCell ⟨B + 1 + 1, 0, none⟩ (.slice (some ⟨gg, 0, none⟩) (k + 1) cap)).heap[b]? = w1.heap[b]? := by
    intro b hb hc hne
    rw [Below.heap_setCell _ _ _ _ hne, hgrow.block b (by simp; omega) (fun e => hc e.symm), Below.heap_alloc _ _ _ hb]
  have hfar0 : ∀ b, b < wr.heap.size → cv.ownBlock ≠ some b → b ≠ B + 1 + 1 → (w2.setCell ⟨B + 1 + 1, 0, none⟩ (.slice (some ⟨gg, 0, none⟩) (k + 1) cap)).heap[b]? = wr.heap[b]? := by
    intro b hb hc hne
    rw [hfar b (by omega) hc hne, hbb1.block b (by omega)]
    exact Below.heap_alloc wr o b hb
  have hnod := List.nodup_append.1 hr.nod
  have hnf : ∀ b ∈ fp, cv.ownBlock ≠ some b := fun b hb he => hnod.2.2 b (by simp [he]) b hb rfl
  refine ⟨owns_kept hown2 (fun b hb => ?_), ?_, ?_, ?_, ?_, ?_, ?_⟩
  · have hb' : gg = b := by simpa [Value.ownBlock] using hb
    exact Below.heap_setCell _ _ _ _ (by show b ≠ B + 1 + 1; omega)
  · rw [List.take_add_one, hx]
    refine S.SepL.snoc (hsep1.keep _ (fun b hb => hfar b (hrng1 b hb).2 (fun he => by have := hcvlt b he; have := hrng1 b hb; omega) (by have := hrng1 b hb; omega))) _ (hr.sep.keep _ (fun b hb => hfar0 b (hr.rng b hb).2 (hnf b hb) (by have := hr.rng b hb; omega)))
  · have hdis : ∀ a ∈ fp, ∀ b ∈ fp1, a ≠ b := fun a ha b hb => by have := hr.rng a ha; have := hrng1 b hb; omega
    have h2 : (fp ++ fp1).Nodup := List.nodup_append.2 ⟨hnod.2.1, hnod1, hdis⟩
    simp only [Value.ownBlock, Option.toList, List.cons_append, List.nil_append]
    refine List.nodup_cons.2 ⟨fun hm => ?_, h2⟩
    rcases List.mem_append.1 hm with hm | hm
    · rcases hat with he | he
      · exact hnf gg hm he
      · have := hr.rng gg hm; omega
    · rcases hat with he | he
      · have := hcvlt gg he; have := hrng1 gg hm; omega
      · have := hrng1 gg hm; omega
  · intro b hb
    have hsz : w2.heap.size = (w2.setCell ⟨B + 1 + 1, 0, none⟩ (.slice (some ⟨gg, 0, none⟩) (k + 1) cap)).heap.size := by simp [World.setCell]
    rcases List.mem_append.1 hb with hb | hb
    · have := hr.rng b hb; omega
    · have := hrng1 b hb; omega
  · have h1 : Blk w2 (B + 1 + 1) 62 #[cv] := (hgrow.block _ (by simp; omega) (fun e => by have := hcvlt _ e.symm; omega)).trans (((((hr.blk.alloc o).drew).below hbb1 (by omega)).alloc o1))
    exact h1.set_ 0 _
  · exact (hfar0 (B + 1) (by omega) (fun e => by have := hcvlt _ e; omega) (by omega)).trans hr.res
  · refine ((hr.bel.alloc (by omega) o).drew.trans (hbb1.mono (by omega))).trans ?_
    refine (((Below.refl _ _).alloc (by omega) o1).grown hgrow (by simp; omega) (fun b hb => by have := hcvlt b hb; omega)).setCell (by simp; omega) _

theorem own_form {w : World} {base : Nat} {e : TypeId} {size : Nat} {v : Value} {n : Nat} {xs : List Value} (h : w.ownsRow base e size v n xs) : ∃ A n c, v = .slice A n c := by
  rcases h.2 with ⟨rfl, _⟩ | ⟨g, cap, cur, rfl, _⟩
  · exact ⟨_, _, _, rfl⟩
  · exact ⟨_, _, _, rfl⟩
theorem clone_results {tmps : Array Value} {w : World} {a : Nat} {x : Value} (h2 : tmps.getD 2 undef = .pointer (some ⟨a, 0, none⟩))
    (ha : Blk w a 62 #[x]) : (results Tryz.f139 tmps).run Tryz.prog w = .ok (.agg #[x]) w := by
  have h4 := ha.cell 0
  simp at h4
  have h2' : tmps[2]?.getD undef = .pointer (some ⟨a, 0, none⟩) := by simpa using h2
  simp [results, Tryz.results139, go_sem, h2', h4]
theorem Round.done {l : List S} {B : Nat} {w0 wr : World} {cv : Value} {us : List Value} {fp : List Nat} (hr : Round l B w0 l.length cv us fp wr) (u : Value) :
    (S.mk l).Sep (wr.setCell ⟨B + 1, 0, none⟩ u) cv (cv.ownBlock.toList ++ fp) ∧ (cv.ownBlock.toList ++ fp).Nodup ∧ (∀ b ∈ cv.ownBlock.toList ++ fp, B + 3 ≤ b ∧ b < (wr.setCell ⟨B + 1, 0, none⟩ u).heap.size) ∧ Below B w0 (wr.setCell ⟨B + 1, 0, none⟩ u) := by
  have hcvlt : ∀ b, cv.ownBlock = some b → B + 3 ≤ b ∧ b < wr.heap.size := fun b hb => hr.own.lt b hb
  have hall : ∀ b ∈ cv.ownBlock.toList ++ fp, B + 3 ≤ b ∧ b < wr.heap.size := by
    intro b hb
    rcases List.mem_append.1 hb with hb | hb
    · exact hcvlt b (by simpa using hb)
    · exact hr.rng b hb
  have hs : (S.mk l).Sep wr cv (cv.ownBlock.toList ++ fp) := by
    simp only [S.Sep]
    refine ⟨us, fp, ⟨hr.own.1, ?_⟩, by have := hr.sep; rwa [List.take_length] at this, rfl⟩
    rcases hr.own.2 with h | ⟨g, cap, cur, h1, h2, h3⟩
    · exact .inl h
    · exact .inr ⟨g, cap, cur, h1, Nat.zero_le _, h3⟩
  refine ⟨hs.keep _ (fun b hb => Below.heap_setCell _ _ _ _ (by have := hall b hb; show b ≠ B + 1; omega)), hr.nod, fun b hb => by have := hall b hb; simpa [World.setCell] using this, hr.bel.setCell (by simp) _⟩
theorem Round.start (l : List S) (w : World) (o : Obj) : Round l w.heap.size w 0 (.slice none 0 0) [] [] (((w.alloc o).alloc (.cells #[.slice none 0 0] 62)).alloc (.cells #[.slice none 0 0] 62)) where
  own := ⟨by simp, .inl ⟨rfl, rfl⟩⟩
  sep := by simp [S.SepL]
  nod := by simp [Value.ownBlock]
  rng := by simp
  blk := by simpa using Blk.new ((w.alloc o).alloc (.cells #[.slice none 0 0] 62)) 62 #[.slice none 0 0]
  res := (by simpa using Blk.new (w.alloc o) 62 #[.slice none 0 0] : Blk ((w.alloc o).alloc (.cells #[.slice none 0 0] 62)) (w.heap.size + 1) 62 #[.slice none 0 0]).alloc _
  bel := (((Below.refl _ _).alloc (Nat.le_refl _) _).alloc (by simp) _).alloc (by simp; omega) _

set_option maxRecDepth 100000 in
set_option maxHeartbeats 3200000 in
theorem clone_any (K : Nat) : ∀ (s : S) (v : Value) (w : World) (lo hi : Nat), s.count ≤ K → s.count ≤ 1000 → s.In w lo hi v → hi ≤ w.heap.size →
    Calls Tryz.prog 139 #[.agg #[v]] w (Cloned s w.heap.size w) := by
  induction K with
  | zero => intro s; have := s.count_pos; omega
  | succ K ih =>
    intro s v w lo hi hK hm hin hhi
    obtain ⟨i0, hi0, hz0, hz1, hz2⟩ := info_parts sort_info
    obtain ⟨l⟩ := s
    simp only [S.In] at hin
    obtain ⟨A, _, c, rfl, rfl, hnc, hc, hall⟩ := hin
    have hlen : l.length ≤ 1000 := by
      have := countL_take_bound l l.length (Nat.le_refl _)
      rw [List.take_length] at this
      simp only [S.count] at hm; omega
    go_enter Tryz.func139, Tryz.ntmps139
    go_wp2_with fail
    go_loopw [9] (fun i wr => ∃ k cv us fp, k ≤ l.length ∧ i = .int .i64 (k : Nat) ∧ Round l w.heap.size w k cv us fp wr) (fun i _ => l.length - (intOf i).toNat)
    case atStart => exact ⟨0, _, [], [], Nat.zero_le _, rfl, Round.start l w _⟩
    case round =>
      obtain ⟨k, cv, us, fp, hk, rfl, hr⟩ := hrel
      have hsz := hr.bel.size
      have hsz1 := hr.blk.lt
      by_cases hlt : k < l.length
      · have hx : l[k]? = some l[k] := List.getElem?_eq_getElem hlt
        have hcl := S.count_lt hx
        obtain ⟨ad, u, rfl, _, hadb, hcell, hinx⟩ := hall.at_ hx
        rw [Nat.zero_add] at hcell
        have hcellr : wr.cell? (ad.add k) = some u := (hr.bel.cell (by rw [block_of_add]; omega)).trans hcell
        obtain ⟨A', n', c', rfl⟩ := hinx.form
        have hw1 := hr.bel.alloc hsz (.cells #[.slice A' n' c'] 62)
        have hinr := hinx.below hw1 hhi
        have hcc := (hr.blk.alloc (.cells #[.slice A' n' c'] 62)).cell 0
        have hcx := (Blk.new wr 62 #[.slice A' n' c']).cell 0
        have hih := fun w' (h : Below (wr.heap.size + 1) (wr.alloc (.cells #[.slice A' n' c'] 62)) w') => ih l[k] (.slice A' n' c') w' lo hi (by omega) (by omega) (hinr.below h (by omega)) (by have := h.size; simp at this; omega)
        have HIH := Lib.hid hih
        have HX := Lib.hid hx
        generalize l[k] = x at *
        clear hih ih hx hcell
        go_wp2_with fail
        go_region_law
          (first
            | (refine step_append_lies _ (by rfl) _ _ _ (by rfl) (w.heap.size + 3) 62 i0 _ 1 24 Tryz.underlying60 hi0 hz0 hz1 hz2 rfl (by omega) cv k us (by rfl) (by exact (hown1.alloc _))
                ⟨w1.heap.size, 0, none⟩ 1 1 [v1] (by rfl) (by rfl) (by exact World.news_of_block (cs := #[v1]) (t := 62) (fr := (0, 0)) (heap_alloc_new w1 _)) (by exact fun u hu => by rw [List.mem_singleton.1 hu]; exact hone) (by omega) (by simp only [maxLen]; omega) (by omega) (by simp; omega) (w1.heap.size + 1) (by simp) ?_; intro gg cap w2 hown2 hgrow hat hlt2
               have hblk2 : Blk w2 (w.heap.size + 1 + 1) 62 #[cv] := (hgrow.block _ (by simp; omega) (fun e => by have := (hr.own.lt _ e.symm).1; omega)).trans (hblk1.alloc _)
               have hxb2 : Blk w2 wr.heap.size 62 #[.slice A' n' c'] := (hgrow.block _ (by simp; omega) (fun e => by have := (hr.own.lt _ e.symm).2; omega)).trans (hxb1.alloc _)
               have r1 := hblk2.cell 0
               have r2 := hxb2.cell 0
               have r3 := hblk2.frozen 0
               simp at r1 r2)
            | (go_simp; go_at_call 139; refine (HIH.out _ (by exact (Below.refl _ _).drew)).mono ?_; rintro e w1 ⟨v1, fp1, rfl, hsep1, hnod1, hrng1, hb1⟩
               have hone : v1.oneCell' = true := by obtain ⟨A1, n1, c1, rfl⟩ := hsep1.form; rfl
               have hwz : wr.heap.size + 1 ≤ w1.heap.size := by have h : (wr.alloc (.cells #[.slice A' n' c'] 62)).heap.size ≤ w1.heap.size := hb1.size; simpa using h
               have hbb1 : Below (wr.heap.size + 1) (wr.alloc (.cells #[.slice A' n' c'] 62)).drew w1 := hb1.mono (by show _ ≤ (wr.alloc _).heap.size; simp)
               have hown1 : w1.ownsRow (w.heap.size + 3) 62 1 cv k us := owns_kept ((hr.own.alloc _).drew) (fun b hb => hbb1.block b (by have := (hr.own.lt b hb).2; omega))
               have hblk1 : Blk w1 (w.heap.size + 1 + 1) 62 #[cv] := ((hr.blk.alloc _).drew).below hbb1 (by omega)
               have hxb1 : Blk w1 wr.heap.size 62 #[.slice A' n' c'] := ((Blk.new wr 62 _).drew).below hbb1 (by omega)
               have q1 := hblk1.cell 0
               have q2 := hxb1.cell 0
               have q3 : (w1.alloc (.cells #[v1] 62)).cell? ⟨w.heap.size + 1 + 1, 0, none⟩ = some cv := (hblk1.alloc _).cell 0
               simp at q1 q2))
        all_goals
          go_wp2_with fail
          go_roundw
          case rel => exact ⟨k + 1, _, _, _, by omega, by go_num, hr.next HX.out hsep1 hnod1 (fun b hb => by have h := hrng1 b hb; simp at h; exact h) hbb1 hwz hown2 hgrow hat⟩
          case measure => simp [intOf]; omega
      · have hkl : k = l.length := by omega
        obtain ⟨A3, n3, c3, rfl⟩ := own_form hr.own
        have hc0 := hr.blk.cell 0
        have hr0 := hr.res.cell 0
        have hrf := hr.res.frozen 0
        clear ih
        have HKL := Lib.hid hkl
        clear hkl
        go_wp2_with fail
        refine bodyPost_ret (clone_results rfl (hr.res.set_ 0 _)) rfl ?_
        rw [HKL.out] at hr
        obtain ⟨g1, g2, g3, g4⟩ := hr.done (.slice A3 n3 c3)
        exact ⟨_, _, rfl, g1, g2, fun b hb => by have := g3 b hb; omega, g4⟩
end Go.Proofs.YtbbejhhohppdhaaGreatDoor

namespace Go.Proofs.YtbbejhhohppdhaaGreatDoor
open Go.RowKit

theorem copy_results {tmps : Array Value} {w : World} {a : Nat} {x : Value} (h2 : tmps.getD 2 undef = .pointer (some ⟨a, 0, none⟩))
    (ha : Blk w a 62 #[x]) : (results Tryz.f59 tmps).run Tryz.prog w = .ok (.agg #[x]) w := by
  have h4 := ha.cell 0
  simp at h4
  have h2' : tmps[2]?.getD undef = .pointer (some ⟨a, 0, none⟩) := by simpa using h2
  simp [results, Tryz.results59, go_sem, h2', h4]

set_option maxRecDepth 100000 in
set_option maxHeartbeats 3200000 in
theorem copy_any (K : Nat) : ∀ (s : S) (v : Value) (w : World) (lo hi : Nat), s.count ≤ K → s.count ≤ 1000 → s.In w lo hi v → hi ≤ w.heap.size →
    Calls Tryz.prog 59 #[.agg #[v]] w (Cloned s w.heap.size w) := by
  induction K with
  | zero => intro s; have := s.count_pos; omega
  | succ K ih =>
    intro s v w lo hi hK hm hin hhi
    obtain ⟨i0, hi0, hz0, hz1, hz2⟩ := info_parts sort_info
    obtain ⟨l⟩ := s
    simp only [S.In] at hin
    obtain ⟨A, _, c, rfl, rfl, hnc, hc, hall⟩ := hin
    have hlen : l.length ≤ 1000 := by
      have := countL_take_bound l l.length (Nat.le_refl _)
      rw [List.take_length] at this
      simp only [S.count] at hm; omega
    go_enter Tryz.func59, Tryz.ntmps59
    go_wp2_with fail
    go_loopw [9] (fun i wr => ∃ k cv us fp, k ≤ l.length ∧ i = .int .i64 (k : Nat) ∧ Round l w.heap.size w k cv us fp wr) (fun i _ => l.length - (intOf i).toNat)
    case atStart => exact ⟨0, _, [], [], Nat.zero_le _, rfl, Round.start l w _⟩
    case round =>
      obtain ⟨k, cv, us, fp, hk, rfl, hr⟩ := hrel
      have hsz := hr.bel.size
      have hsz1 := hr.blk.lt
      by_cases hlt : k < l.length
      · have hx : l[k]? = some l[k] := List.getElem?_eq_getElem hlt
        have hcl := S.count_lt hx
        obtain ⟨ad, u, rfl, _, hadb, hcell, hinx⟩ := hall.at_ hx
        rw [Nat.zero_add] at hcell
        have hcellr : wr.cell? (ad.add k) = some u := (hr.bel.cell (by rw [block_of_add]; omega)).trans hcell
        obtain ⟨A', n', c', rfl⟩ := hinx.form
        have hw1 := hr.bel.alloc hsz (.cells #[.slice A' n' c'] 62)
        have hinr := hinx.below hw1 hhi
        have hcc := (hr.blk.alloc (.cells #[.slice A' n' c'] 62)).cell 0
        have hcx := (Blk.new wr 62 #[.slice A' n' c']).cell 0
        have hih := fun w' (h : Below (wr.heap.size + 1) (wr.alloc (.cells #[.slice A' n' c'] 62)) w') => ih l[k] (.slice A' n' c') w' lo hi (by omega) (by omega) (hinr.below h (by omega)) (by have := h.size; simp at this; omega)
        have HIH := Lib.hid hih
        have HX := Lib.hid hx
        generalize l[k] = x at *
        clear hih ih hx hcell
        go_wp2_with fail
        go_region_law
          (first
            | (refine step_append_lies _ (by rfl) _ _ _ (by rfl) (w.heap.size + 3) 62 i0 _ 1 24 Tryz.underlying60 hi0 hz0 hz1 hz2 rfl (by omega) cv k us (by rfl) (by exact (hown1.alloc _))
                ⟨w1.heap.size, 0, none⟩ 1 1 [v1] (by rfl) (by rfl) (by exact World.news_of_block (cs := #[v1]) (t := 62) (fr := (0, 0)) (heap_alloc_new w1 _)) (by exact fun u hu => by rw [List.mem_singleton.1 hu]; exact hone) (by omega) (by simp only [maxLen]; omega) (by omega) (by simp; omega) (w1.heap.size + 1) (by simp) ?_; intro gg cap w2 hown2 hgrow hat hlt2
               have hblk2 : Blk w2 (w.heap.size + 1 + 1) 62 #[cv] := (hgrow.block _ (by simp; omega) (fun e => by have := (hr.own.lt _ e.symm).1; omega)).trans (hblk1.alloc _)
               have hxb2 : Blk w2 wr.heap.size 62 #[.slice A' n' c'] := (hgrow.block _ (by simp; omega) (fun e => by have := (hr.own.lt _ e.symm).2; omega)).trans (hxb1.alloc _)
               have r1 := hblk2.cell 0
               have r2 := hxb2.cell 0
               have r3 := hblk2.frozen 0
               simp at r1 r2)
            | (go_simp; go_at_call 59; refine (HIH.out _ (by exact (Below.refl _ _).drew)).mono ?_; rintro e w1 ⟨v1, fp1, rfl, hsep1, hnod1, hrng1, hb1⟩
               have hone : v1.oneCell' = true := by obtain ⟨A1, n1, c1, rfl⟩ := hsep1.form; rfl
               have hwz : wr.heap.size + 1 ≤ w1.heap.size := by have h : (wr.alloc (.cells #[.slice A' n' c'] 62)).heap.size ≤ w1.heap.size := hb1.size; simpa using h
               have hbb1 : Below (wr.heap.size + 1) (wr.alloc (.cells #[.slice A' n' c'] 62)).drew w1 := hb1.mono (by show _ ≤ (wr.alloc _).heap.size; simp)
               have hown1 : w1.ownsRow (w.heap.size + 3) 62 1 cv k us := owns_kept ((hr.own.alloc _).drew) (fun b hb => hbb1.block b (by have := (hr.own.lt b hb).2; omega))
               have hblk1 : Blk w1 (w.heap.size + 1 + 1) 62 #[cv] := ((hr.blk.alloc _).drew).below hbb1 (by omega)
               have hxb1 : Blk w1 wr.heap.size 62 #[.slice A' n' c'] := ((Blk.new wr 62 _).drew).below hbb1 (by omega)
               have q1 := hblk1.cell 0
               have q2 := hxb1.cell 0
               have q3 : (w1.alloc (.cells #[v1] 62)).cell? ⟨w.heap.size + 1 + 1, 0, none⟩ = some cv := (hblk1.alloc _).cell 0
               simp at q1 q2))
        all_goals
          go_wp2_with fail
          go_roundw
          case rel => exact ⟨k + 1, _, _, _, by omega, by go_num, hr.next HX.out hsep1 hnod1 (fun b hb => by have h := hrng1 b hb; simp at h; exact h) hbb1 hwz hown2 hgrow hat⟩
          case measure => simp [intOf]; omega
      · have hkl : k = l.length := by omega
        obtain ⟨A3, n3, c3, rfl⟩ := own_form hr.own
        have hc0 := hr.blk.cell 0
        have hr0 := hr.res.cell 0
        have hrf := hr.res.frozen 0
        clear ih
        have HKL := Lib.hid hkl
        clear hkl
        go_wp2_with fail
        refine bodyPost_ret (copy_results rfl (hr.res.set_ 0 _)) rfl ?_
        rw [HKL.out] at hr
        obtain ⟨g1, g2, g3, g4⟩ := hr.done (.slice A3 n3 c3)
        exact ⟨_, _, rfl, g1, g2, fun b hb => by have := g3 b hb; omega, g4⟩
end Go.Proofs.YtbbejhhohppdhaaGreatDoor

namespace Go.Proofs.YtbbejhhohppdhaaGreatDoor
open Go.RowKit

set_option maxRecDepth 100000 in
set_option maxHeartbeats 3200000 in
theorem copyL_any (K : Nat) : ∀ (s : S) (v : Value) (w : World) (lo hi : Nat), s.count ≤ K → s.count ≤ 100000 → s.In w lo hi v → hi ≤ w.heap.size →
    Calls Tryz.prog 59 #[.agg #[v]] w (Cloned s w.heap.size w) := by
  induction K with
  | zero => intro s; have := s.count_pos; omega
  | succ K ih =>
    intro s v w lo hi hK hm hin hhi
    obtain ⟨i0, hi0, hz0, hz1, hz2⟩ := info_parts sort_info
    obtain ⟨l⟩ := s
    simp only [S.In] at hin
    obtain ⟨A, _, c, rfl, rfl, hnc, hc, hall⟩ := hin
    have hlen : l.length ≤ 100000 := by
      have := countL_take_bound l l.length (Nat.le_refl _)
      rw [List.take_length] at this
      simp only [S.count] at hm; omega
    go_enter Tryz.func59, Tryz.ntmps59
    go_wp2_with fail
    go_loopw [9] (fun i wr => ∃ k cv us fp, k ≤ l.length ∧ i = .int .i64 (k : Nat) ∧ Round l w.heap.size w k cv us fp wr) (fun i _ => l.length - (intOf i).toNat)
    case atStart => exact ⟨0, _, [], [], Nat.zero_le _, rfl, Round.start l w _⟩
    case round =>
      obtain ⟨k, cv, us, fp, hk, rfl, hr⟩ := hrel
      have hsz := hr.bel.size
      have hsz1 := hr.blk.lt
      by_cases hlt : k < l.length
      · have hx : l[k]? = some l[k] := List.getElem?_eq_getElem hlt
        have hcl := S.count_lt hx
        obtain ⟨ad, u, rfl, _, hadb, hcell, hinx⟩ := hall.at_ hx
        rw [Nat.zero_add] at hcell
        have hcellr : wr.cell? (ad.add k) = some u := (hr.bel.cell (by rw [block_of_add]; omega)).trans hcell
        obtain ⟨A', n', c', rfl⟩ := hinx.form
        have hw1 := hr.bel.alloc hsz (.cells #[.slice A' n' c'] 62)
        have hinr := hinx.below hw1 hhi
        have hcc := (hr.blk.alloc (.cells #[.slice A' n' c'] 62)).cell 0
        have hcx := (Blk.new wr 62 #[.slice A' n' c']).cell 0
        have hih := fun w' (h : Below (wr.heap.size + 1) (wr.alloc (.cells #[.slice A' n' c'] 62)) w') => ih l[k] (.slice A' n' c') w' lo hi (by omega) (by omega) (hinr.below h (by omega)) (by have := h.size; simp at this; omega)
        have HIH := Lib.hid hih
        have HX := Lib.hid hx
        generalize l[k] = x at *
        clear hih ih hx hcell
        go_wp2_with fail
        go_region_law
          (first
            | (refine step_append_lies _ (by rfl) _ _ _ (by rfl) (w.heap.size + 3) 62 i0 _ 1 24 Tryz.underlying60 hi0 hz0 hz1 hz2 rfl (by omega) cv k us (by rfl) (by exact (hown1.alloc _))
                ⟨w1.heap.size, 0, none⟩ 1 1 [v1] (by rfl) (by rfl) (by exact World.news_of_block (cs := #[v1]) (t := 62) (fr := (0, 0)) (heap_alloc_new w1 _)) (by exact fun u hu => by rw [List.mem_singleton.1 hu]; exact hone) (by omega) (by simp only [maxLen]; omega) (by omega) (by simp; omega) (w1.heap.size + 1) (by simp) ?_; intro gg cap w2 hown2 hgrow hat hlt2
               have hblk2 : Blk w2 (w.heap.size + 1 + 1) 62 #[cv] := (hgrow.block _ (by simp; omega) (fun e => by have := (hr.own.lt _ e.symm).1; omega)).trans (hblk1.alloc _)
               have hxb2 : Blk w2 wr.heap.size 62 #[.slice A' n' c'] := (hgrow.block _ (by simp; omega) (fun e => by have := (hr.own.lt _ e.symm).2; omega)).trans (hxb1.alloc _)
               have r1 := hblk2.cell 0
               have r2 := hxb2.cell 0
               have r3 := hblk2.frozen 0
               simp at r1 r2)
            | (go_simp; go_at_call 59; refine (HIH.out _ (by exact (Below.refl _ _).drew)).mono ?_; rintro e w1 ⟨v1, fp1, rfl, hsep1, hnod1, hrng1, hb1⟩
               have hone : v1.oneCell' = true := by obtain ⟨A1, n1, c1, rfl⟩ := hsep1.form; rfl
               have hwz : wr.heap.size + 1 ≤ w1.heap.size := by have h : (wr.alloc (.cells #[.slice A' n' c'] 62)).heap.size ≤ w1.heap.size := hb1.size; simpa using h
               have hbb1 : Below (wr.heap.size + 1) (wr.alloc (.cells #[.slice A' n' c'] 62)).drew w1 := hb1.mono (by show _ ≤ (wr.alloc _).heap.size; simp)
               have hown1 : w1.ownsRow (w.heap.size + 3) 62 1 cv k us := owns_kept ((hr.own.alloc _).drew) (fun b hb => hbb1.block b (by have := (hr.own.lt b hb).2; omega))
               have hblk1 : Blk w1 (w.heap.size + 1 + 1) 62 #[cv] := ((hr.blk.alloc _).drew).below hbb1 (by omega)
               have hxb1 : Blk w1 wr.heap.size 62 #[.slice A' n' c'] := ((Blk.new wr 62 _).drew).below hbb1 (by omega)
               have q1 := hblk1.cell 0
               have q2 := hxb1.cell 0
               have q3 : (w1.alloc (.cells #[v1] 62)).cell? ⟨w.heap.size + 1 + 1, 0, none⟩ = some cv := (hblk1.alloc _).cell 0
               simp at q1 q2))
        all_goals
          go_wp2_with fail
          go_roundw
          case rel => exact ⟨k + 1, _, _, _, by omega, by go_num, hr.next HX.out hsep1 hnod1 (fun b hb => by have h := hrng1 b hb; simp at h; exact h) hbb1 hwz hown2 hgrow hat⟩
          case measure => simp [intOf]; omega
      · have hkl : k = l.length := by omega
        obtain ⟨A3, n3, c3, rfl⟩ := own_form hr.own
        have hc0 := hr.blk.cell 0
        have hr0 := hr.res.cell 0
        have hrf := hr.res.frozen 0
        clear ih
        have HKL := Lib.hid hkl
        clear hkl
        go_wp2_with fail
        refine bodyPost_ret (copy_results rfl (hr.res.set_ 0 _)) rfl ?_
        rw [HKL.out] at hr
        obtain ⟨g1, g2, g3, g4⟩ := hr.done (.slice A3 n3 c3)
        exact ⟨_, _, rfl, g1, g2, fun b hb => by have := g3 b hb; omega, g4⟩
end Go.Proofs.YtbbejhhohppdhaaGreatDoor

namespace Go.Proofs.YtbbejhhohppdhaaGreatDoor
open Go.RowKit

def S.behindE (s : S) (k : Int) : Int := if s.ok then (if k < 0 ∨ (s.args.length : Int) < k then 2 else 0) else 6
def S.behindS (s : S) (k : Int) : S := if s.behindE k = 0 then .mk (s.args.drop k.toNat) else .mk []

/-- What Behind leaves. -/
def Behinds (s : S) (k : Int) (w : World) (e : Ending) (w' : World) : Prop :=
  ∃ v fp, e = .returned (.tuple #[.agg #[v], .int .i64 (s.behindE k)]) ∧ (s.behindS k).Sep w' v fp ∧ fp.Nodup ∧ (∀ b ∈ fp, w.heap.size ≤ b ∧ b < w'.heap.size) ∧ Below w.heap.size w w'

theorem S.behindE_ok (s : S) {k : Int} (h : s.ok = true) (hk : ¬ (k < 0 ∨ (s.args.length : Int) < k)) : s.behindE k = 0 := by rw [S.behindE, if_pos h, if_neg hk]
theorem S.behindE_arg (s : S) {k : Int} (h : s.ok = true) (hk : k < 0 ∨ (s.args.length : Int) < k) : s.behindE k = 2 := by rw [S.behindE, if_pos h, if_pos hk]
theorem S.behindE_bad (s : S) {k : Int} (h : s.ok = false) : s.behindE k = 6 := by rw [S.behindE, if_neg (by rw [h]; decide)]
theorem S.behindS_no (s : S) {k : Int} (h : s.behindE k ≠ 0) : s.behindS k = .mk [] := by rw [S.behindS, if_neg h]
theorem S.behindS_yes (s : S) {m : Nat} (h : s.behindE m = 0) : s.behindS m = .mk (s.args.drop m) := by rw [S.behindS, if_pos h, Int.toNat_natCast]
theorem sep_nil (w : World) : (S.mk []).Sep w (.slice none 0 0) [] := by
  simp only [S.Sep]
  exact ⟨[], [], ⟨by simp, .inl ⟨rfl, rfl⟩⟩, by simp [S.SepL], by simp [Value.ownBlock]⟩
theorem S.In.drop {w : World} {lo hi n c k : Nat} {A : Option Addr} {l : List S} (h : (S.mk l).In w lo hi (.slice A n c)) (hk : k ≤ n) :
    (S.mk (l.drop k)).In w lo hi (.slice (if c = k then A else A.map (·.add k)) (n - k) (c - k)) := by
  simp only [S.In] at h ⊢
  obtain ⟨A', n', c', hv, h1, h2, h3, h4⟩ := h
  injection hv with e1 e2 e3
  subst e1 e2 e3
  refine ⟨_, _, _, rfl, by simp [h1], by omega, by omega, S.All.mk_ fun j x hx => ?_⟩
  rw [List.getElem?_drop] at hx
  obtain ⟨ad, u, rfl, h5, h6, h7, h8⟩ := h4.at_ hx
  have hlt : k + j < l.length := by
    rcases Nat.lt_or_ge (k + j) l.length with h | h
    · exact h
    · rw [List.getElem?_eq_none h] at hx; cases hx
  rw [if_neg (by omega)]
  exact ⟨ad.add k, u, rfl, by rw [block_of_add]; exact h5, by rw [block_of_add]; exact h6, by rw [add_of_add, Nat.zero_add]; rw [Nat.zero_add] at h7; exact h7, h8⟩

theorem S.countL_drop_le (l : List S) (k : Nat) : S.countL (l.drop k) ≤ S.countL l := by
  induction l generalizing k with
  | nil => simp
  | cons a r ih => cases k with
    | zero => simp
    | succ k => have := ih k; simp [S.countL]; omega
theorem behind_any_results {tmps : Array Value} {w : World} {a : Nat} {x y : Value} (h2 : tmps.getD 4 undef = .pointer (some ⟨a, 0, none⟩)) (h3 : tmps.getD 5 undef = y)
    (ha : Blk w a 62 #[x]) : (results Tryz.f97 tmps).run Tryz.prog w = .ok (.tuple #[.agg #[x], y]) w := by
  have h4 := ha.cell 0
  simp at h4
  have h2' : tmps[4]?.getD undef = .pointer (some ⟨a, 0, none⟩) := by simpa using h2
  have h3' : tmps[5]?.getD undef = y := by simpa using h3
  simp [results, Tryz.results97, go_sem, h2', h3', h4]

set_option maxRecDepth 100000 in
set_option maxHeartbeats 800000 in
theorem behind_any (s : S) (v : Value) (k : Int) (w : World) (lo hi : Nat) (hin : s.In w lo hi v) (hhi : hi ≤ w.heap.size) :
    Calls Tryz.prog 97 #[.agg #[v], .int .i64 k] w (Behinds s k w) := by
  obtain ⟨l⟩ := s
  have hin0 := hin
  simp only [S.In] at hin
  obtain ⟨A, _, c, rfl, rfl, hnc, hc, hall⟩ := hin
  have hw1 : Below w.heap.size w ((w.alloc (.cells #[.slice A l.length c] 62)).alloc (.cells #[.slice none 0 0] 62)) := ((Below.refl _ _).alloc (Nat.le_refl _) _).alloc (by simp) _
  have hin1 := hin0.below hw1 hhi
  have hbk : Blk ((w.alloc (.cells #[.slice A l.length c] 62)).alloc (.cells #[.slice none 0 0] 62)) w.heap.size 62 #[.slice A l.length c] := (Blk.new w _ _).alloc _
  have hbr : Blk ((w.alloc (.cells #[.slice A l.length c] 62)).alloc (.cells #[.slice none 0 0] 62)) (w.heap.size + 1) 62 #[.slice none 0 0] := by simpa using Blk.new (w.alloc (.cells #[.slice A l.length c] 62)) 62 #[.slice none 0 0]
  have HC := Lib.hid (check_any _ _ _ lo hi hin1 (by simp; omega))
  cases hok : (S.mk l).ok with
  | true =>
    rw [hok] at HC
    have hcnt := S.ok_count hok
    by_cases hk : k < 0 ∨ (l.length : Int) < k
    · have HE := Lib.hid ((S.mk l).behindE_arg hok hk)
      have HS := Lib.hid ((S.mk l).behindS_no (k := k) (by rw [HE.out]; decide))
      clear hok
      by_cases hkn : k < 0
      · clear hk
        go_enter Tryz.func97, Tryz.ntmps97
        go_wp2_with fail
        refine HC.out.mono ?_
        rintro e w1 ⟨rfl, hb1⟩
        rw [show errOf true = 0 from rfl]
        have hk1 := hbk.below hb1 (by simp; omega)
        have hr1 := hbr.below hb1 (by simp)
        have hc1 := hk1.cell 0
        have hcr := hr1.cell 0
        have hfr := hr1.frozen 0
        have hin2 := hin1.below hb1 (by simp; omega)
        have hz := hb1.size
        simp only [World.size_alloc] at hb1 hz
        go_wp2_with fail
        refine bodyPost_ret (behind_any_results (y := .int .i64 2) rfl rfl (hr1.set_ 0 _)) rfl ?_
        exact ⟨_, [], by rw [HE.out], by rw [HS.out]; exact sep_nil _, by simp, by simp, (hw1.trans (hb1.mono (by omega))).setCell (by simp) _⟩
      · have hkl : (l.length : Int) < k := by omega
        clear hk
        go_enter Tryz.func97, Tryz.ntmps97
        go_wp2_with fail
        refine HC.out.mono ?_
        rintro e w1 ⟨rfl, hb1⟩
        rw [show errOf true = 0 from rfl]
        have hk1 := hbk.below hb1 (by simp; omega)
        have hr1 := hbr.below hb1 (by simp)
        have hc1 := hk1.cell 0
        have hcr := hr1.cell 0
        have hfr := hr1.frozen 0
        have hin2 := hin1.below hb1 (by simp; omega)
        have hz := hb1.size
        simp only [World.size_alloc] at hb1 hz
        go_wp2_with fail
        refine bodyPost_ret (behind_any_results (y := .int .i64 2) rfl rfl (hr1.set_ 0 _)) rfl ?_
        exact ⟨_, [], by rw [HE.out], by rw [HS.out]; exact sep_nil _, by simp, by simp, (hw1.trans (hb1.mono (by omega))).setCell (by simp) _⟩
    · have hk1 : 0 ≤ k := by omega
      have hk2 : k ≤ l.length := by omega
      obtain ⟨m, rfl⟩ := Int.eq_ofNat_of_zero_le hk1
      have HE := Lib.hid ((S.mk l).behindE_ok hok hk)
      have HS := Lib.hid ((S.mk l).behindS_yes HE.out)
      have hcd : (S.mk (l.drop m)).count ≤ 60 := by have := S.countL_drop_le l m; simp only [S.count] at hcnt ⊢; omega
      clear hok hk
      by_cases hcm : c = m
      · subst hcm
        go_enter Tryz.func97, Tryz.ntmps97
        go_wp2_with fail
        refine HC.out.mono ?_
        rintro e w1 ⟨rfl, hb1⟩
        rw [show errOf true = 0 from rfl]
        have hk1 := hbk.below hb1 (by simp; omega)
        have hr1 := hbr.below hb1 (by simp)
        have hc1 := hk1.cell 0
        have hcr := hr1.cell 0
        have hfr := hr1.frozen 0
        have hin2 := hin1.below hb1 (by simp; omega)
        have hz := hb1.size
        simp only [World.size_alloc] at hb1 hz
        have hdr := hin2.drop (k := c) (by omega)
        rw [if_pos rfl, Nat.sub_self, Nat.sub_eq_zero_of_le hnc] at hdr
        have HD := Lib.hid (clone_any _ _ _ _ lo hi (Nat.le_refl _) (by omega) hdr (by omega))
        go_wp2_with fail
        refine HD.out.mono ?_
        rintro e w2 ⟨v2, fp, rfl, g1, g2, g3, g4⟩
        obtain ⟨A2, n2, c2, rfl⟩ := g1.form
        have hr2 := hr1.below g4 (by omega)
        have hcr2 := hr2.cell 0
        have hfr2 := hr2.frozen 0
        go_wp2_with fail
        refine bodyPost_ret (behind_any_results (y := .int .i64 0) rfl rfl (hr2.set_ 0 _)) rfl ?_
        refine ⟨_, fp, by rw [HE.out], ?_, g2, ?_, ((hw1.trans (hb1.mono (by omega))).trans (g4.mono (by omega))).setCell (by simp) _⟩
        · rw [HS.out]
          exact g1.keep _ (fun b hb => Below.heap_setCell _ _ _ _ (by have := g3 b hb; show b ≠ w.heap.size + 1; omega))
        · intro b hb
          have := g3 b hb
          simp [World.setCell]
          omega
      · go_enter Tryz.func97, Tryz.ntmps97
        go_wp2_with fail
        refine HC.out.mono ?_
        rintro e w1 ⟨rfl, hb1⟩
        rw [show errOf true = 0 from rfl]
        have hk1 := hbk.below hb1 (by simp; omega)
        have hr1 := hbr.below hb1 (by simp)
        have hc1 := hk1.cell 0
        have hcr := hr1.cell 0
        have hfr := hr1.frozen 0
        have hin2 := hin1.below hb1 (by simp; omega)
        have hz := hb1.size
        simp only [World.size_alloc] at hb1 hz
        have hdr := hin2.drop (k := m) (by omega)
        rw [if_neg hcm] at hdr
        have HD := Lib.hid (clone_any _ _ _ _ lo hi (Nat.le_refl _) (by omega) hdr (by omega))
        go_wp2_with fail
        refine HD.out.mono ?_
        rintro e w2 ⟨v2, fp, rfl, g1, g2, g3, g4⟩
        obtain ⟨A2, n2, c2, rfl⟩ := g1.form
        have hr2 := hr1.below g4 (by omega)
        have hcr2 := hr2.cell 0
        have hfr2 := hr2.frozen 0
        go_wp2_with fail
        refine bodyPost_ret (behind_any_results (y := .int .i64 0) rfl rfl (hr2.set_ 0 _)) rfl ?_
        refine ⟨_, fp, by rw [HE.out], ?_, g2, ?_, ((hw1.trans (hb1.mono (by omega))).trans (g4.mono (by omega))).setCell (by simp) _⟩
        · rw [HS.out]
          exact g1.keep _ (fun b hb => Below.heap_setCell _ _ _ _ (by have := g3 b hb; show b ≠ w.heap.size + 1; omega))
        · intro b hb
          have := g3 b hb
          simp [World.setCell]
          omega
  | false =>
    rw [hok] at HC
    have HE := Lib.hid ((S.mk l).behindE_bad (k := k) hok)
    have HS := Lib.hid ((S.mk l).behindS_no (k := k) (by rw [HE.out]; decide))
    clear hok
    go_enter Tryz.func97, Tryz.ntmps97
    go_wp2_with fail
    refine HC.out.mono ?_
    rintro e w1 ⟨rfl, hb1⟩
    rw [show errOf false = 6 from rfl]
    have hk1 := hbk.below hb1 (by simp; omega)
    have hr1 := hbr.below hb1 (by simp)
    have hc1 := hk1.cell 0
    have hcr := hr1.cell 0
    have hfr := hr1.frozen 0
    have hin2 := hin1.below hb1 (by simp; omega)
    have hz := hb1.size
    simp only [World.size_alloc] at hb1 hz
    go_wp2_with fail
    refine bodyPost_ret (behind_any_results (y := .int .i64 6) rfl rfl (hr1.set_ 0 _)) rfl ?_
    exact ⟨_, [], by rw [HE.out], by rw [HS.out]; exact sep_nil _, by simp, by simp, (hw1.trans (hb1.mono (by omega))).setCell (by simp) _⟩
end Go.Proofs.YtbbejhhohppdhaaGreatDoor
