/-
  Terms as plain trees, and what it is for a value in memory to be one.
  The reference's functions on terms: contracts.
  nest.visit at terms: whoever visits a term, node by node.
  nest.Size and nest.All at terms, term.Size: contracts.
  Equality of terms: term.equal, slices.EqualFunc, term.Same, and the reference's Equal and Same.
  Lists of terms in memory of their own: appending to them, slices.Grow.
  term.appendEach and term.clone; the reference's Copy: what they return is the term, in memory of its own.
  The reference's Copy and Replace: what they return is the term, in memory of its own.
  Substitution on plain terms.
-/
import Derived.Test.YtbbejhhohppdhaaGreatDoorGA
import Derived.OwnWalk
import Derived.Deep.RegionWith
import Derived.Deep.RegionHeld3
import Derived.Test.YtbbejhhohppdhaaGreatDoorRows
import Derived.Deep.AppendLies
import Derived.Shelf.Spec.SlicesGrow
import Derived.Deep.RegionLaw
namespace Go.Proofs.YtbbejhhohppdhaaGreatDoor
open Go.RowKit

/-- A term: kind and number of its head, and its arguments. -/
inductive T where
  | mk (k n : Int) (args : List T)
def T.kind : T → Int | .mk k _ _ => k
def T.num : T → Int | .mk _ n _ => n
def T.args : T → List T | .mk _ _ l => l
instance : Inhabited T := ⟨.mk 0 0 []⟩
mutual
def T.count : T → Nat
  | .mk _ _ l => 1 + T.countL l
def T.countL : List T → Nat
  | [] => 0
  | s :: r => s.count + T.countL r
end
mutual
def T.deep : T → Nat
  | .mk _ _ l => T.deepL l + 1
def T.deepL : List T → Nat
  | [] => 0
  | s :: r => max s.deep (T.deepL r)
end
mutual
/-- Kinds and numbers are numbers of 64 bits. -/
def T.fit : T → Prop
  | .mk k n l => (-9223372036854775808 ≤ k ∧ k ≤ 9223372036854775807) ∧ (-9223372036854775808 ≤ n ∧ n ≤ 9223372036854775807) ∧ T.fitL l
def T.fitL : List T → Prop
  | [] => True
  | s :: r => s.fit ∧ T.fitL r
end
theorem T.fitL_at : ∀ {l : List T}, T.fitL l → ∀ {k : Nat} {x : T}, l[k]? = some x → x.fit
  | [], _, k, x, h => by simp at h
  | a :: r, hf, k, x, h => by
    simp only [T.fitL] at hf
    cases k with
    | zero => simp at h; subst h; exact hf.1
    | succ k => simp at h; exact T.fitL_at hf.2 h
theorem T.count_pos (s : T) : 0 < s.count := by cases s; simp only [T.count]; omega
theorem T.countL_take_succ (l : List T) (k : Nat) (x : T) (h : l[k]? = some x) : T.countL (l.take (k + 1)) = T.countL (l.take k) + x.count := by
  induction l generalizing k with
  | nil => simp at h
  | cons a r ih =>
    cases k with
    | zero => simp at h; subst h; simp [T.countL]
    | succ k => simp at h; simp [T.countL, ih k h]; omega
theorem T.countL_take_le (l : List T) (k : Nat) : T.countL (l.take k) ≤ T.countL l := by
  induction l generalizing k with
  | nil => simp
  | cons a r ih => cases k with
    | zero => simp [T.countL]
    | succ k => simp [T.countL]; exact ih k
theorem T.count_lt {l : List T} {k : Nat} {x : T} (h : l[k]? = some x) {a b : Int} : x.count < (T.mk a b l).count := by
  have h1 := T.countL_take_succ l k x h
  have h2 := T.countL_take_le l (k + 1)
  simp only [T.count]; omega
theorem T.countL_bound (l : List T) (k : Nat) (hk : k ≤ l.length) : k ≤ T.countL (l.take k) := by
  induction l generalizing k with
  | nil => simp at hk; omega
  | cons a r ih =>
    cases k with
    | zero => omega
    | succ k => simp at hk; have := ih k hk; have := a.count_pos; simp [T.countL]; omega
theorem T.length_le (l : List T) : l.length ≤ T.countL l := by have := T.countL_bound l l.length (Nat.le_refl _); rwa [List.take_length] at this
theorem T.deepL_take_succ (l : List T) (k : Nat) (x : T) (h : l[k]? = some x) : T.deepL (l.take (k + 1)) = max (T.deepL (l.take k)) x.deep := by
  induction l generalizing k with
  | nil => simp at h
  | cons a r ih =>
    cases k with
    | zero => simp at h; subst h; simp [T.deepL]
    | succ k => simp at h; simp [T.deepL, ih k h, Nat.max_assoc]
theorem T.deepL_take_le (l : List T) (k : Nat) : T.deepL (l.take k) ≤ T.deepL l := by
  induction l generalizing k with
  | nil => simp
  | cons a r ih => cases k with
    | zero => simp [T.deepL]
    | succ k => have := ih k; simp [T.deepL]; omega
mutual
theorem T.deep_le : ∀ s : T, s.deep ≤ s.count
  | .mk _ _ l => by have := T.deepL_le l; simp only [T.deep, T.count]; omega
theorem T.deepL_le : ∀ l : List T, T.deepL l ≤ T.countL l
  | [] => by simp [T.deepL]
  | s :: r => by have := T.deep_le s; have := T.deepL_le r; simp only [T.deepL, T.countL]; omega
end

/-- The cells from an address on, in a block of which P holds; none is asked for where there are none. -/
def Rd (w : World) (P : Nat → Prop) (A : Option Addr) (us : List Value) : Prop :=
  us = [] ∨ ∃ ad, A = some ad ∧ P ad.block ∧ ∀ j u, us[j]? = some u → w.cell? (ad.add j) = some u

mutual
/-- A cell's value is the slice of the term's arguments, all in blocks of which P holds. -/
def T.In (w : World) (P : Nat → Prop) : T → Value → Prop
  | .mk _ _ l, v => ∃ A n c us, v = .slice A n c ∧ l.length = n ∧ n ≤ c ∧ c ≤ 9223372036854775807 ∧ Rd w P A us ∧ T.Row w P l us
/-- The cells of a row of terms, three for each. -/
def T.Row (w : World) (P : Nat → Prop) : List T → List Value → Prop
  | [], us => us = []
  | s :: r, us => ∃ u ut, us = .int .i64 s.kind :: .int .i64 s.num :: u :: ut ∧ s.In w P u ∧ T.Row w P r ut
end
/-- A term's value. -/
def T.val (t : T) (v : Value) : Value := .agg #[.int .i64 t.kind, .int .i64 t.num, v]
/-- A list of terms as a slice. -/
def T.InL (w : World) (P : Nat → Prop) (l : List T) (v : Value) : Prop := (T.mk 0 0 l).In w P v
theorem T.InL.of {w : World} {P : Nat → Prop} {k n : Int} {l : List T} {v : Value} (h : (T.mk k n l).In w P v) : T.InL w P l v := by
  unfold T.InL; simpa only [T.In] using h
theorem T.InL.to {w : World} {P : Nat → Prop} {k n : Int} {l : List T} {v : Value} (h : T.InL w P l v) : (T.mk k n l).In w P v := by
  unfold T.InL at h; simpa only [T.In] using h

theorem Rd.keep {w w' : World} {P : Nat → Prop} {A : Option Addr} {us : List Value} (hb : ∀ b, P b → w'.heap[b]? = w.heap[b]?) (h : Rd w P A us) : Rd w' P A us := by
  rcases h with h | ⟨ad, h1, h2, h3⟩
  · exact .inl h
  · exact .inr ⟨ad, h1, h2, fun j u hj => (World.cell?_of_block (by rw [block_of_add]; exact hb _ h2)).trans (h3 j u hj)⟩
theorem Rd.more {w : World} {P Q : Nat → Prop} {A : Option Addr} {us : List Value} (hb : ∀ b, P b → Q b) (h : Rd w P A us) : Rd w Q A us := by
  rcases h with h | ⟨ad, h1, h2, h3⟩
  · exact .inl h
  · exact .inr ⟨ad, h1, hb _ h2, h3⟩
mutual
theorem T.In.keep {w w' : World} {P : Nat → Prop} (hb : ∀ b, P b → w'.heap[b]? = w.heap[b]?) : ∀ (s : T) {v : Value}, s.In w P v → s.In w' P v
  | .mk _ _ l, v, h => by
    simp only [T.In] at h ⊢
    obtain ⟨A, n, c, us, h1, h2, h3, h4, h5, h6⟩ := h
    exact ⟨A, n, c, us, h1, h2, h3, h4, h5.keep hb, T.Row.keep hb l h6⟩
theorem T.Row.keep {w w' : World} {P : Nat → Prop} (hb : ∀ b, P b → w'.heap[b]? = w.heap[b]?) : ∀ (l : List T) {us : List Value}, T.Row w P l us → T.Row w' P l us
  | [], us, h => by simpa [T.Row] using h
  | s :: r, us, h => by
    simp only [T.Row] at h ⊢
    obtain ⟨u, ut, h1, h2, h3⟩ := h
    exact ⟨u, ut, h1, T.In.keep hb s h2, T.Row.keep hb r h3⟩
end
mutual
theorem T.In.more {w : World} {P Q : Nat → Prop} (hb : ∀ b, P b → Q b) : ∀ (s : T) {v : Value}, s.In w P v → s.In w Q v
  | .mk _ _ l, v, h => by
    simp only [T.In] at h ⊢
    obtain ⟨A, n, c, us, h1, h2, h3, h4, h5, h6⟩ := h
    exact ⟨A, n, c, us, h1, h2, h3, h4, h5.more hb, T.Row.more hb l h6⟩
theorem T.Row.more {w : World} {P Q : Nat → Prop} (hb : ∀ b, P b → Q b) : ∀ (l : List T) {us : List Value}, T.Row w P l us → T.Row w Q l us
  | [], us, h => by simpa [T.Row] using h
  | s :: r, us, h => by
    simp only [T.Row] at h ⊢
    obtain ⟨u, ut, h1, h2, h3⟩ := h
    exact ⟨u, ut, h1, T.In.more hb s h2, T.Row.more hb r h3⟩
end
theorem T.In.form {w : World} {P : Nat → Prop} {s : T} {v : Value} (h : s.In w P v) : ∃ A n c, v = .slice A n c := by
  obtain ⟨_, _, l⟩ := s
  simp only [T.In] at h
  obtain ⟨A, n, c, us, h1, _⟩ := h
  exact ⟨A, n, c, h1⟩
theorem T.Row.length {w : World} {P : Nat → Prop} : ∀ {l : List T} {us : List Value}, T.Row w P l us → us.length = l.length * 3
  | [], us, h => by simp only [T.Row] at h; simp [h]
  | s :: r, us, h => by
    simp only [T.Row] at h
    obtain ⟨u, ut, rfl, _, h3⟩ := h
    have := h3.length
    simp [this]; omega
theorem T.Row.at_ {w : World} {P : Nat → Prop} : ∀ {l : List T} {us : List Value}, T.Row w P l us → ∀ {k : Nat} {x : T}, l[k]? = some x →
    us[k * 3]? = some (.int .i64 x.kind) ∧ us[k * 3 + 1]? = some (.int .i64 x.num) ∧ ∃ u, us[k * 3 + 2]? = some u ∧ x.In w P u
  | [], us, h, k, x, hx => by simp at hx
  | s :: r, us, h, k, x, hx => by
    simp only [T.Row] at h
    obtain ⟨u, ut, rfl, h2, h3⟩ := h
    cases k with
    | zero => simp at hx; subst hx; exact ⟨rfl, rfl, u, rfl, h2⟩
    | succ k =>
      simp at hx
      obtain ⟨g1, g2, u', g3, g4⟩ := h3.at_ hx
      rw [show (k + 1) * 3 = k * 3 + 1 + 1 + 1 from by omega]
      exact ⟨by simpa using g1, by simpa using g2, u', by simpa using g3, g4⟩
theorem T.Row.snoc {w : World} {P : Nat → Prop} {x : T} {u : Value} (hx : x.In w P u) : ∀ {l : List T} {us : List Value}, T.Row w P l us → T.Row w P (l ++ [x]) (us ++ [.int .i64 x.kind, .int .i64 x.num, u])
  | [], us, h => by
    simp only [T.Row] at h
    subst h
    simp only [List.nil_append, T.Row]
    exact ⟨u, [], rfl, hx, rfl⟩
  | s :: r, us, h => by
    simp only [T.Row] at h
    obtain ⟨u', ut, rfl, h2, h3⟩ := h
    simp only [List.cons_append, T.Row]
    exact ⟨u', _, rfl, h2, h3.snoc hx⟩
theorem T.Row.append {w : World} {P : Nat → Prop} {m : List T} {vs : List Value} (hm : T.Row w P m vs) : ∀ {l : List T} {us : List Value}, T.Row w P l us → T.Row w P (l ++ m) (us ++ vs)
  | [], us, h => by
    simp only [T.Row] at h
    subst h
    simpa using hm
  | s :: r, us, h => by
    simp only [T.Row] at h
    obtain ⟨u', ut, rfl, h2, h3⟩ := h
    simp only [List.cons_append, T.Row]
    exact ⟨u', _, rfl, h2, T.Row.append hm h3⟩
theorem add_one_more (ad : Addr) (i j : Nat) : ad.add (i + (j + 1)) = ⟨(ad.add i).block, (ad.add i).off + (j + 1), none⟩ := by
  rw [← add_of_add]
  show (ad.add i).add (j + 1) = _
  unfold Addr.add
  rw [if_neg (by omega)]
/-- The three cells of an element. -/
def El (w : World) (ad : Addr) (k : Nat) (x : T) (u : Value) : Prop :=
  w.cell? (ad.add (k * 3)) = some (.int .i64 x.kind) ∧ w.cell? ⟨(ad.add (k * 3)).block, (ad.add (k * 3)).off + 1, none⟩ = some (.int .i64 x.num) ∧ w.cell? ⟨(ad.add (k * 3)).block, (ad.add (k * 3)).off + 2, none⟩ = some u
theorem El.keep {w w' : World} {ad : Addr} {k : Nat} {x : T} {u : Value} (h : El w ad k x u) (hb : w'.heap[ad.block]? = w.heap[ad.block]?) : El w' ad k x u :=
  ⟨(World.cell?_of_block (by rw [block_of_add]; exact hb)).trans h.1, (World.cell?_of_block (by show w'.heap[(ad.add (k * 3)).block]? = _; rw [block_of_add]; exact hb)).trans h.2.1, (World.cell?_of_block (by show w'.heap[(ad.add (k * 3)).block]? = _; rw [block_of_add]; exact hb)).trans h.2.2⟩
theorem T.In.el {w : World} {P : Nat → Prop} {A : Option Addr} {us : List Value} {l : List T} (hr : Rd w P A us) (h : T.Row w P l us) {k : Nat} {x : T} (hx : l[k]? = some x) :
    ∃ ad u, A = some ad ∧ P ad.block ∧ El w ad k x u ∧ x.In w P u := by
  obtain ⟨g1, g2, u, g3, g4⟩ := h.at_ hx
  rcases hr with rfl | ⟨ad, h1, h2, h3⟩
  · simp at g1
  · exact ⟨ad, u, h1, h2, ⟨h3 _ _ g1, by rw [← add_one_more ad (k * 3) 0]; exact h3 _ _ g2, by rw [← add_one_more ad (k * 3) 1]; exact h3 _ _ g3⟩, g4⟩
theorem T.In.mk_ {w : World} {P : Nat → Prop} {A : Option Addr} {n c : Nat} {us : List Value} {k m : Int} {l : List T} (hl : l.length = n) (hnc : n ≤ c) (hc : c ≤ 9223372036854775807) (hr : Rd w P A us) (h : T.Row w P l us) : (T.mk k m l).In w P (.slice A n c) := by
  simp only [T.In]
  exact ⟨A, n, c, us, rfl, hl, hnc, hc, hr, h⟩
theorem T.In.below {w w' : World} {B : Nat} {P : Nat → Prop} {s : T} {v : Value} (h : s.In w P v) (hb : Below B w w') (hB : ∀ b, P b → b < B) : s.In w' P v :=
  T.In.keep (fun b hp => hb.block b (hB b hp)) s h
theorem T.In.saves {w w' : World} {M P : Nat → Prop} {s : T} {v : Value} (h : s.In w P v) (hs : Saves M w w') (hB : ∀ b, P b → b < w.heap.size ∧ ¬ M b) : s.In w' P v :=
  T.In.keep (fun b hp => hs.block b (hB b hp).1 (hB b hp).2) s h
/-- All blocks of P exist. -/
def Old (P : Nat → Prop) (w : World) : Prop := ∀ b, P b → b < w.heap.size
theorem Old.le {P : Nat → Prop} {w w' : World} (h : Old P w) (hz : w.heap.size ≤ w'.heap.size) : Old P w' := fun b hb => Nat.lt_of_lt_of_le (h b hb) hz
theorem Old.bel {P : Nat → Prop} {w w' : World} {B : Nat} (h : Old P w) (hb : Below B w w') : Old P w' := h.le hb.size
theorem T.In.old {w w' : World} {P : Nat → Prop} {s : T} {v : Value} (h : s.In w P v) (ho : Old P w) (hb : Below w.heap.size w w') : s.In w' P v := h.below hb ho

/-- A term's box. -/
abbrev T.box (t : T) (v : Value) : Obj := .cells #[.int .i64 t.kind, .int .i64 t.num, v] 34
def TBlk (w : World) (g : Nat) (t : T) (v : Value) : Prop := Blk w g 34 #[.int .i64 t.kind, .int .i64 t.num, v]
end Go.Proofs.YtbbejhhohppdhaaGreatDoor

namespace Go.Proofs.YtbbejhhohppdhaaGreatDoor
open Go.RowKit

set_option maxHeartbeats 400000 in
theorem nodesT_any (K : Nat) : ∀ (t : T) (v : Value) (m : Int) (w : World) (P : Nat → Prop), t.count ≤ K → 0 ≤ m → m ≤ 1000000 → t.In w P v → Old P w →
    Calls Tryz.prog 79 #[.agg #[.int .i64 t.kind, .int .i64 t.num, v], .int .i64 m] w fun e w' => e = .returned (.int .i64 (min (t.count : Int) (m + 1))) ∧ Below w.heap.size w w' := by
  induction K with
  | zero => intro t; have := t.count_pos; omega
  | succ K ih =>
    intro t v m w P hK hm0 hm hin hold
    obtain ⟨kd, nm, l⟩ := t
    simp only [T.In] at hin
    obtain ⟨A, _, c, us, rfl, rfl, hnc, hc, hrd, hrow⟩ := hin
    simp only [T.kind, T.num]
    go_enter Tryz.func79, Tryz.ntmps79
    go_wp2_with fail
    go_loopw [5, 6] (fun n i wr => ∃ k : Nat, k ≤ l.length ∧ i = .int .i64 k ∧ n = .int .i64 (min ((1 + T.countL (l.take k) : Nat) : Int) (m + 1)) ∧ Blk wr w.heap.size 34 #[.int .i64 kd, .int .i64 nm, .slice A l.length c] ∧ Below w.heap.size w wr) (fun _ i _ => l.length - (intOf i).toNat)
    case atStart => exact ⟨0, Nat.zero_le _, rfl, by simp only [T.countL, List.take_zero]; congr 1; omega, Blk.new _ _ _, (Below.refl _ _).alloc (Nat.le_refl _) _⟩
    case round =>
      obtain ⟨k, hk, rfl, rfl, hblk, hbel⟩ := hrel
      have hsz := hblk.lt
      have hc0 := hblk.cell 0
      have hc1 := hblk.cell 1
      have hc2 := hblk.cell 2
      by_cases hlt : k < l.length
      · have hx : l[k]? = some l[k] := List.getElem?_eq_getElem hlt
        have hcs := T.countL_take_succ l k _ hx
        have hcl := T.count_lt (a := kd) (b := nm) hx
        have hcp := l[k].count_pos
        obtain ⟨ad, u, rfl, hP, hel, hinx⟩ := T.In.el hrd hrow hx
        obtain ⟨r0, r1, r2⟩ := hel.keep (hbel.block _ (hold _ hP))
        have hinr := hinx.old hold hbel
        generalize l[k] = x at *
        generalize hN : min ((1 + T.countL (l.take k) : Nat) : Int) (m + 1) = N at *
        by_cases hle : N ≤ m
        · have HN := Lib.hid hN
          have hN1 : 1 ≤ N := by omega
          have HS := Lib.hid hcs
          clear hN hcs hx hel
          go_wp2_with fail
          refine (ih x u (m - N) _ P (by omega) (by omega) (by omega) hinr (hold.bel hbel)).mono ?_
          rintro e w1 ⟨rfl, hb1⟩
          go_wp2_with fail
          go_roundw
          case rel => exact ⟨k + 1, by omega, by go_num, congrArg (Value.int .i64) (by have h1 := HN.out; have h2 := HS.out; omega), hblk.below hb1 hsz, hbel.trans (hb1.mono (by omega))⟩
          case measure => simp [intOf]; omega
        · have hcn : T.countL (l.take (k + 1)) ≤ T.countL l := T.countL_take_le l (k + 1)
          have hfin : min ((T.mk kd nm l).count : Int) (m + 1) = N := by simp only [T.count]; omega
          have HN := Lib.hid hN
          have HF := Lib.hid hfin
          clear hN hcs hx hel hfin
          go_wp2_with fail
          go_ret
          exact ⟨ret_int HF.out.symm, hbel⟩
      · have hfin : min ((1 + T.countL (l.take k) : Nat) : Int) (m + 1) = min ((T.mk kd nm l).count : Int) (m + 1) := by rw [List.take_of_length_le (by omega)]; rfl
        go_wp2_with fail
        go_ret
        exact ⟨ret_int hfin, hbel⟩

set_option maxHeartbeats 400000 in
theorem depthT_any (K : Nat) : ∀ (t : T) (v : Value) (w : World) (P : Nat → Prop), t.count ≤ K → t.count ≤ 1000000 → t.In w P v → Old P w →
    Calls Tryz.prog 80 #[.agg #[.int .i64 t.kind, .int .i64 t.num, v]] w fun e w' => e = .returned (.int .i64 (t.deep : Int)) ∧ Below w.heap.size w w' := by
  induction K with
  | zero => intro t; have := t.count_pos; omega
  | succ K ih =>
    intro t v w P hK hm hin hold
    obtain ⟨kd, nm, l⟩ := t
    simp only [T.In] at hin
    obtain ⟨A, _, c, us, rfl, rfl, hnc, hc, hrd, hrow⟩ := hin
    simp only [T.kind, T.num]
    go_enter Tryz.func80, Tryz.ntmps80
    go_wp2_with fail
    go_loopw [3, 9] (fun n i wr => ∃ k : Nat, k ≤ l.length ∧ i = .int .i64 k ∧ n = .int .i64 ((T.deepL (l.take k) : Nat) : Int) ∧ Below w.heap.size w wr) (fun _ i _ => l.length - (intOf i).toNat)
    case atStart => exact ⟨0, Nat.zero_le _, rfl, by simp [T.deepL], (Below.refl _ _).alloc (Nat.le_refl _) _⟩
    case round =>
      obtain ⟨k, hk, rfl, rfl, hbel⟩ := hrel
      have hsz := hbel.size
      by_cases hlt : k < l.length
      · have hx : l[k]? = some l[k] := List.getElem?_eq_getElem hlt
        have hcs := T.deepL_take_succ l k _ hx
        have hcl := T.count_lt (a := kd) (b := nm) hx
        have hd1 := l[k].deep_le
        obtain ⟨ad, u, rfl, hP, hel, hinx⟩ := T.In.el hrd hrow hx
        obtain ⟨r0, r1, r2⟩ := hel.keep (hbel.block _ (hold _ hP))
        have hinr := hinx.old hold (hbel.trans ((Below.refl _ _).alloc hsz (.cells #[.int .i64 l[k].kind, .int .i64 l[k].num, u] 34)))
        have hd2 : T.deepL (l.take k) ≤ T.deepL l := T.deepL_take_le l k
        have hd3 := T.deepL_le l
        simp only [T.count] at hm hcl hK
        generalize l[k] = x at *
        have HS := Lib.hid hcs
        obtain ⟨A', n', c', rfl⟩ := hinx.form
        clear hcs hx hel
        go_wp2_with fail
        refine (ih x _ _ P (by omega) (by omega) hinr (hold.le (by simp; omega))).mono ?_
        rintro e w1 ⟨rfl, hb1⟩
        simp only [World.size_alloc] at hb1
        go_wp2_with fail
        go_roundw
        case rel => exact ⟨k + 1, by omega, by go_num, congrArg (Value.int .i64) (by have h2 := HS.out; omega), hbel.trans (((Below.refl _ _).alloc hsz _).trans (hb1.mono (by omega)))⟩
        case measure => simp [intOf]; omega
      · have hfin : ((T.deepL (l.take k) : Nat) : Int) + 1 = ((T.mk kd nm l).deep : Int) := by rw [List.take_of_length_le (by omega)]; simp [T.deep]
        have hd2 : T.deepL (l.take k) ≤ T.deepL l := T.deepL_take_le l k
        have hd3 := T.deepL_le l
        simp only [T.count] at hm
        have HF := Lib.hid hfin
        clear hfin
        go_wp2_with fail
        go_ret
        exact ⟨ret_int HF.out, hbel⟩

/-- More nodes than 100,000. -/
def T.large (t : T) : Bool := decide (100000 < t.count)
/-- What Size returns. -/
def T.sizes (t : T) : Nat × Nat := if t.count ≤ 100000 then (t.count, t.deep) else (100001, 0)

set_option maxHeartbeats 400000 in
theorem large_any (t : T) (v : Value) (w : World) (P : Nat → Prop) (hin : t.In w P v) (hold : Old P w) :
    Calls Tryz.prog 45 #[.agg #[.int .i64 t.kind, .int .i64 t.num, v]] w fun e w' => e = .returned (.bool t.large) ∧ Below w.heap.size w w' := by
  have hw1 : Below w.heap.size w (w.alloc (.cells #[.int .i64 t.kind, .int .i64 t.num, v] 34)) := (Below.refl _ _).alloc (Nat.le_refl _) _
  obtain ⟨A, n, c, rfl⟩ := hin.form
  have HC := Lib.hid (nodesT_any _ t _ 100000 _ P (Nat.le_refl _) (by omega) (by omega) (hin.old hold hw1) (hold.bel hw1))
  have HF : Hid (decide (100000 < min (t.count : Int) (100000 + 1)) = t.large) := Lib.hid (decide_eq_decide.2 (by omega))
  generalize min (t.count : Int) (100000 + 1) = N at *
  go_enter Tryz.func45, Tryz.ntmps45
  go_wp2_with fail
  refine HC.out.mono ?_
  rintro e w1 ⟨rfl, hb1⟩
  simp only [World.size_alloc] at hb1
  go_wp2_with fail
  go_ret
  exact ⟨ret_bool HF.out, hw1.trans (hb1.mono (by omega))⟩

end Go.Proofs.YtbbejhhohppdhaaGreatDoor

namespace Go.Proofs.YtbbejhhohppdhaaGreatDoor
open Go.RowKit

section
variable {σ : Type} (step : σ → T → Nat → Bool × σ)
mutual
def visitT : σ → Nat → T → Bool × σ
  | st, lvl, .mk k n l => if (step st (.mk k n l) lvl).1 then visitTL (step st (.mk k n l) lvl).2 (lvl + 1) l else (false, (step st (.mk k n l) lvl).2)
def visitTL : σ → Nat → List T → Bool × σ
  | st, _, [] => (true, st)
  | st, lvl, x :: r => if (visitT st lvl x).1 then visitTL (visitT st lvl x).2 lvl r else (false, (visitT st lvl x).2)
end
theorem visitTL_succ (lvl : Nat) (l : List T) : ∀ (st : σ) (k : Nat) (x : T), l[k]? = some x → (visitTL step st lvl (l.take k)).1 = true →
    visitTL step st lvl (l.take (k + 1)) = visitT step (visitTL step st lvl (l.take k)).2 lvl x := by
  induction l with
  | nil => intro st k x h; simp at h
  | cons a r ih =>
    intro st k x h ht
    cases k with
    | zero =>
      simp at h; subst h
      simp only [List.take_succ_cons, List.take_zero, visitTL]
      split
      · rename_i hb; rw [Prod.ext_iff]; simp [hb]
      · rename_i hb; rw [Prod.ext_iff]; simp at hb; simp [hb]
    | succ k =>
      simp at h
      simp only [List.take_succ_cons, visitTL] at ht ⊢
      split at ht
      · rename_i hb; rw [if_pos hb]; rw [ih _ k x h ht]; simp [hb]
      · cases ht
theorem visitTL_false (lvl : Nat) (l : List T) : ∀ (st : σ) (k : Nat), (visitTL step st lvl (l.take k)).1 = false → visitTL step st lvl l = visitTL step st lvl (l.take k) := by
  induction l with
  | nil => intro st k h; simp
  | cons a r ih =>
    intro st k h
    cases k with
    | zero => simp [visitTL] at h
    | succ k =>
      simp only [List.take_succ_cons, visitTL] at h ⊢
      split at h
      · rename_i hb; rw [if_pos hb, if_pos hb]; exact ih _ k h
      · rename_i hb; rw [if_neg hb, if_neg hb]

theorem partsT_any (k n : Int) (v : Value) (A : Option Addr) (m c : Nat) (hv : v = .slice A m c) (w : World) :
    Calls Tryz.prog 168 #[.agg #[.int .i64 k, .int .i64 n, v]] w fun e w' => e = .returned v ∧ Below w.heap.size w w' := by
  subst hv
  go_enter Tryz.func168, Tryz.ntmps168
  go_wp2_with fail
  go_ret
  exact ⟨rfl, (Below.refl _ _).alloc (Nat.le_refl _) _⟩

variable {step}
set_option maxHeartbeats 400000 in
theorem visitT_any {I : σ → World → Prop} {M : Nat → Prop} {ok : σ → T → Nat → Prop} {F : Nat} {cap : Array Value} {P : Nat → Prop}
    (hI : ∀ st w w', I st w → Below w.heap.size w w' → I st w')
    (hM : ∀ w k st, I st w → M k → k < w.heap.size)
    (hF : ∀ args w, (callFunc F args).run Tryz.prog w = .ok (.enter F args) w)
    (hMh : ∀ k, P k → ¬ M k)
    (hok : ∀ st k n l lvl, ok st (.mk k n l) lvl → lvl ≤ 1000000 ∧ ((step st (.mk k n l) lvl).1 = true → ∀ j x, l[j]? = some x → (visitTL step (step st (.mk k n l) lvl).2 (lvl + 1) (l.take j)).1 = true →
      ok (visitTL step (step st (.mk k n l) lvl).2 (lvl + 1) (l.take j)).2 x (lvl + 1)))
    (hstep : ∀ st x v lvl w, ok st x lvl → I st w → x.In w P v → Old P w → Calls Tryz.prog F (#[.agg #[.int .i64 x.kind, .int .i64 x.num, v], .int .i64 (lvl : Int)] ++ cap) w fun e w' =>
      e = .returned (.bool (step st x lvl).1) ∧ I (step st x lvl).2 w' ∧ Saves M w w')
    (K : Nat) : ∀ (s : T) (v : Value) (lvl : Nat) (w : World) (st : σ), s.count ≤ K → ok st s lvl → I st w → s.In w P v → Old P w →
    Calls Tryz.prog 197 #[.agg #[.int .i64 s.kind, .int .i64 s.num, v], .int .i64 (lvl : Int), .func (.func 168) #[] #[], .func (.func F) #[] cap] w fun e w' =>
      e = .returned (.bool (visitT step st lvl s).1) ∧ I (visitT step st lvl s).2 w' ∧ Saves M w w' := by
  induction K with
  | zero => intro s; have := s.count_pos; omega
  | succ K ih =>
    intro s v lvl w st hK hoks hIs hin hold
    obtain ⟨kd, nm, l⟩ := s
    have hin0 := hin
    simp only [T.In] at hin
    obtain ⟨A, _, c, us, rfl, rfl, hnc, hc, hrd, hrow⟩ := hin
    have hw1 : Below w.heap.size w (w.alloc (.cells #[.int .i64 kd, .int .i64 nm, .slice A l.length c] 34)) := (Below.refl _ _).alloc (Nat.le_refl _) _
    have hbk := Blk.new w 34 #[.int .i64 kd, .int .i64 nm, .slice A l.length c]
    have hS := hstep st (.mk kd nm l) _ lvl _ hoks (hI _ _ _ hIs hw1) (hin0.old hold hw1) (hold.bel hw1)
    obtain ⟨hlv, hdown⟩ := hok st kd nm l lvl hoks
    have hnM : ¬ M w.heap.size := fun h => by have := hM w _ st hIs h; omega
    simp only [T.kind, T.num] at hS ⊢
    cases hb : (step st (.mk kd nm l) lvl).1 with
    | false =>
      have hv : visitT step st lvl (.mk kd nm l) = (false, (step st (.mk kd nm l) lvl).2) := by simp [visitT, hb]
      rw [hv]
      rw [hb] at hS
      have HS := Lib.hid hS
      clear hS hok hstep hM hI hMh ih hdown hb hv
      go_enter Tryz.func197, Tryz.ntmps197
      go_wp2_with fail
      refine HS.out.mono ?_
      rintro e w1 ⟨rfl, hI1, hs1⟩
      go_wp2_with fail
      go_ret
      exact ⟨rfl, hI1, (Saves.of_below hw1).trans hs1⟩
    | true =>
      have hv : visitT step st lvl (.mk kd nm l) = visitTL step (step st (.mk kd nm l) lvl).2 (lvl + 1) l := by simp [visitT, hb]
      rw [hv]
      rw [hb] at hS
      replace hdown := hdown hb
      generalize (step st (.mk kd nm l) lvl).2 = st1 at *
      have hsucc := visitTL_succ step (lvl + 1) l st1
      have hfalse := visitTL_false step (lvl + 1) l st1
      have HS := Lib.hid hS
      have HD := Lib.hid hdown
      have Hih := Lib.hid ih
      have HI := Lib.hid hI
      have Hsucc := Lib.hid hsucc
      have Hfalse := Lib.hid hfalse
      have HMh := Lib.hid hMh
      clear hS hok hstep hM hI hMh ih hdown hb hv hsucc hfalse
      go_enter Tryz.func197, Tryz.ntmps197
      go_wp2_with fail
      refine HS.out.mono ?_
      rintro e w1 ⟨rfl, hI1, hs1⟩
      have hbk1 := hbk.saves hs1 hnM
      have hc0 := hbk1.cell 0
      have hc1 := hbk1.cell 1
      have hc2 := hbk1.cell 2
      have hz1 := hs1.size
      simp only [World.size_alloc] at hz1
      go_wp2_with fail
      refine (partsT_any kd nm _ A l.length c rfl _).mono ?_
      rintro e w1b ⟨rfl, hb1b⟩
      replace hs1 := hs1.trans (Saves.of_below hb1b)
      replace hI1 := HI.out _ _ _ hI1 hb1b
      have hz1b := hb1b.size
      clear hc0 hc1 hc2
      go_wp2_with fail
      go_loopw [20] (fun i wr => ∃ k : Nat, k ≤ l.length ∧ i = .int .i64 k ∧ Hid ((visitTL step st1 (lvl + 1) (l.take k)).1 = true) ∧ I (visitTL step st1 (lvl + 1) (l.take k)).2 wr ∧ Saves M w wr) (fun i _ => l.length - (intOf i).toNat)
      case atStart => exact ⟨0, Nat.zero_le _, rfl, Lib.hid (by simp [visitTL]), by simpa [visitTL] using hI1, (Saves.of_below hw1).trans hs1⟩
      case round =>
        obtain ⟨k, hk, rfl, hf, hIk, hsk⟩ := hrel
        have hzk := hsk.size
        by_cases hlt : k < l.length
        · have hx : l[k]? = some l[k] := List.getElem?_eq_getElem hlt
          have hcl := T.count_lt (a := kd) (b := nm) hx
          obtain ⟨ad, u, rfl, hP, hel, hinx⟩ := T.In.el hrd hrow hx
          obtain ⟨r0, r1, r2⟩ := hel.keep (hsk.block _ (hold _ hP) (HMh.out _ hP))
          obtain ⟨A', n', c', rfl⟩ := hinx.form
          have hw2 : Below wr.heap.size wr (wr.alloc (.cells #[.int .i64 l[k].kind, .int .i64 l[k].num, .slice A' n' c'] 34)) := (Below.refl _ _).alloc (Nat.le_refl _) _
          have hinr := (hinx.saves hsk (fun b hb => ⟨hold b hb, HMh.out b hb⟩)).old (hold.le hzk) hw2
          have hokx := HD.out k _ hx hf.out
          have hs := Hsucc.out k _ hx hf.out
          have hct := Hih.out l[k] _ (lvl + 1) _ _ (by omega) hokx (HI.out _ _ _ hIk hw2) hinr ((hold.le hzk).bel hw2)
          rw [← hs] at hct
          generalize l[k] = x at *
          cases hb2 : (visitTL step st1 (lvl + 1) (l.take (k + 1))).1 with
          | true =>
            rw [hb2] at hct
            have HC := Lib.hid hct
            have HB2 := Lib.hid hb2
            clear hx hel hs hokx hct hb2
            go_wp2_with fail
            refine HC.out.mono ?_
            rintro e w2 ⟨rfl, hI2, hs2⟩
            go_wp2_with fail
            go_roundw
            case rel => exact ⟨k + 1, by omega, by go_num, HB2, hI2, hsk.trans ((Saves.of_below hw2).trans hs2)⟩
            case measure => simp [intOf]; omega
          | false =>
            have hfin := Hfalse.out (k + 1) hb2
            rw [hb2] at hct
            have HC := Lib.hid hct
            have HF := Lib.hid hfin
            have HB2 := Lib.hid hb2
            clear hx hel hs hokx hct hb2 hfin
            go_wp2_with fail
            refine HC.out.mono ?_
            rintro e w2 ⟨rfl, hI2, hs2⟩
            go_wp2_with fail
            go_ret
            rw [HF.out, HB2.out]
            exact ⟨rfl, hI2, hsk.trans ((Saves.of_below hw2).trans hs2)⟩
        · have hll : l.take k = l := List.take_of_length_le (by omega)
          rw [hll] at hIk hf
          clear hll
          go_wp2_with fail
          go_ret
          rw [hf.out]
          exact ⟨rfl, hIk, hsk⟩
end
end Go.Proofs.YtbbejhhohppdhaaGreatDoor

namespace Go.Proofs.YtbbejhhohppdhaaGreatDoor
open Go.RowKit

def sizeStepT (st : Nat × Nat) (_ : T) (lvl : Nat) : Bool × (Nat × Nat) := (decide (st.1 + 1 ≤ 100000), (st.1 + 1, max st.2 lvl))
mutual
theorem visitT_size : ∀ (s : T) (st : Nat × Nat) (lvl : Nat), (visitT sizeStepT st lvl s).1 = decide (st.1 + s.count ≤ 100000) ∧
    ((visitT sizeStepT st lvl s).1 = true → (visitT sizeStepT st lvl s).2 = (st.1 + s.count, max st.2 (lvl + s.deep - 1)))
  | .mk k n l, st, lvl => by
    have hp : T.countL l + 1 = (T.mk k n l).count := by simp only [T.count]; omega
    have hq : T.deepL l + 1 = (T.mk k n l).deep := by simp only [T.deep]
    by_cases hc : st.1 + 1 ≤ 100000
    · have h := visitTL_size l (st.1 + 1, max st.2 lvl) (lvl + 1) hc (by show lvl + 1 ≤ max st.2 lvl + 1; omega)
      have hv : visitT sizeStepT st lvl (.mk k n l) = visitTL sizeStepT (st.1 + 1, max st.2 lvl) (lvl + 1) l := by simp [visitT, sizeStepT, hc]
      rw [hv]
      refine ⟨h.1.trans (decide_eq_decide.2 (by simp only; omega)), fun ht => ?_⟩
      rw [h.2 ht, Prod.mk.injEq]
      constructor
      · simp only; omega
      · simp only; omega
    · have hv : visitT sizeStepT st lvl (.mk k n l) = (false, (st.1 + 1, max st.2 lvl)) := by simp [visitT, sizeStepT, hc]
      rw [hv]
      refine ⟨?_, fun ht => by cases ht⟩
      have : ¬ st.1 + (T.mk k n l).count ≤ 100000 := by omega
      simp [this]
theorem visitTL_size : ∀ (l : List T) (st : Nat × Nat) (lvl : Nat), st.1 ≤ 100000 → lvl ≤ st.2 + 1 → (visitTL sizeStepT st lvl l).1 = decide (st.1 + T.countL l ≤ 100000) ∧
    ((visitTL sizeStepT st lvl l).1 = true → (visitTL sizeStepT st lvl l).2 = (st.1 + T.countL l, max st.2 (lvl + T.deepL l - 1)))
  | [], st, lvl, h1, h2 => by
    simp only [visitTL, T.countL, T.deepL]
    refine ⟨by simp [h1], fun _ => ?_⟩
    rw [Prod.ext_iff]
    constructor
    · simp
    · simp only; omega
  | x :: r, st, lvl, h1, h2 => by
    have h := visitT_size x st lvl
    have hcx := x.count_pos
    have hdx : 0 < x.deep := by cases x; simp [T.deep]
    by_cases hb : (visitT sizeStepT st lvl x).1 = true
    · have hs := h.2 hb
      have hb0 := hb
      rw [h.1] at hb
      have hb' : st.1 + x.count ≤ 100000 := by simpa using hb
      have hr := visitTL_size r (st.1 + x.count, max st.2 (lvl + x.deep - 1)) lvl hb' (by show lvl ≤ max st.2 (lvl + x.deep - 1) + 1; omega)
      have hv : visitTL sizeStepT st lvl (x :: r) = visitTL sizeStepT (st.1 + x.count, max st.2 (lvl + x.deep - 1)) lvl r := by
        simp only [visitTL]; rw [if_pos hb0, hs]
      rw [hv]
      refine ⟨hr.1.trans (decide_eq_decide.2 (by simp only [T.countL]; omega)), fun ht => ?_⟩
      rw [hr.2 ht, Prod.mk.injEq]
      constructor
      · simp only [T.countL]; omega
      · simp only [T.deepL]; omega
    · have hb2 : (visitT sizeStepT st lvl x).1 = false := by simpa using hb
      have hv : visitTL sizeStepT st lvl (x :: r) = (false, (visitT sizeStepT st lvl x).2) := by simp [visitTL, hb2]
      rw [hv]
      rw [h.1] at hb2
      have hb' : ¬ st.1 + x.count ≤ 100000 := by simpa using hb2
      refine ⟨?_, fun ht => by cases ht⟩
      have : ¬ st.1 + T.countL (x :: r) ≤ 100000 := by simp only [T.countL]; omega
      simp [this]
end

theorem sizeOkT (st : Nat × Nat) (k n : Int) (l : List T) (lvl : Nat) (h : lvl ≤ st.1 + 1 ∧ st.1 ≤ 100000) :
    lvl ≤ 1000000 ∧ ((sizeStepT st (.mk k n l) lvl).1 = true → ∀ j x, l[j]? = some x → (visitTL sizeStepT (sizeStepT st (.mk k n l) lvl).2 (lvl + 1) (l.take j)).1 = true →
      lvl + 1 ≤ (visitTL sizeStepT (sizeStepT st (.mk k n l) lvl).2 (lvl + 1) (l.take j)).2.1 + 1 ∧ (visitTL sizeStepT (sizeStepT st (.mk k n l) lvl).2 (lvl + 1) (l.take j)).2.1 ≤ 100000) := by
  refine ⟨by omega, fun hs j x _ ht => ?_⟩
  have hs' : st.1 + 1 ≤ 100000 := by simpa [sizeStepT] using hs
  have hr := visitTL_size (l.take j) (sizeStepT st (.mk k n l) lvl).2 (lvl + 1) hs' (by show lvl + 1 ≤ max st.2 lvl + 1; omega)
  have hr1 := hr.1
  rw [ht] at hr1
  rw [hr.2 ht]
  have : (sizeStepT st (.mk k n l) lvl).2.1 + T.countL (l.take j) ≤ 100000 := by simpa using hr1.symm
  refine ⟨?_, this⟩
  show lvl + 1 ≤ (st.1 + 1) + T.countL (l.take j) + 1
  omega


/-- The cells of a count: the most (100,000), the nodes, the depth. -/
def TwoT (B b : Nat) (st : Nat × Nat) (w : World) : Prop := B ≤ b ∧ Blk w b 3 #[.int .i64 100000] ∧ Blk w (b + 1) 3 #[.int .i64 (st.1 : Int)] ∧ Blk w (b + 2) 3 #[.int .i64 (st.2 : Int)]

set_option maxHeartbeats 400000 in
theorem size1T_any (s : T) (v : Value) (lvl : Nat) (w : World) (B b : Nat) (st : Nat × Nat) (h100000 : st.1 ≤ 100000) (h2 : TwoT B b st w) (P : Nat → Prop) (hin : s.In w P v) :
    Calls Tryz.prog 198 #[.agg #[.int .i64 s.kind, .int .i64 s.num, v], .int .i64 (lvl : Int), .pointer (some ⟨b + 1, 0, none⟩), .pointer (some ⟨b + 2, 0, none⟩), .pointer (some ⟨b, 0, none⟩)] w fun e w' =>
      e = .returned (.bool (sizeStepT st s lvl).1) ∧ TwoT B b (sizeStepT st s lvl).2 w' ∧ Saves (fun k => k = b + 1 ∨ k = b + 2) w w' := by
  obtain ⟨A, n, c, rfl⟩ := hin.form
  obtain ⟨n0, d0⟩ := st
  obtain ⟨hB, hb0, hb1, hb2⟩ := h2
  simp only at h100000 hb1 hb2
  have hl0 := hb0.lt
  have hl1 := hb1.lt
  have hl2 := hb2.lt
  have hc0 := hb0.cell 0
  have hc1 := hb1.cell 0
  have hc2 := hb2.cell 0
  have hf1 := hb1.frozen 0
  have hf2 := hb2.frozen 0
  go_enter Tryz.func198, Tryz.ntmps198
  go_wp2_with fail
  all_goals
    go_ret
    refine ⟨ret_bool (decide_eq_decide.2 (by show (n0 : Int) + 1 ≤ 100000 ↔ n0 + 1 ≤ 100000; omega)), ⟨hB, ?_, ?_, ?_⟩, (((Saves.refl _ _).setCell (.inl (.inl rfl)) _).setCell (.inl (.inr rfl)) _).alloc _⟩
    · exact ((hb0.far (p := ⟨b + 1, 0, none⟩) (by simp) _).far (p := ⟨b + 2, 0, none⟩) (by simp) _).alloc _
    · exact ((hb1.set_ 0 _).far (p := ⟨b + 2, 0, none⟩) (by simp) _).alloc _
    · refine (((hb2.far (p := ⟨b + 1, 0, none⟩) (by simp) _).set_ 0 _).alloc _).eq_ (congrArg (fun z : Int => #[Value.int .i64 z]) ?_)
      show _ = ((max d0 lvl : Nat) : Int)
      omega

theorem twoT_kept {B b : Nat} {st : Nat × Nat} {w w' : World} (h : TwoT B b st w) (hb : Below w.heap.size w w') : TwoT B b st w' :=
  ⟨h.1, h.2.1.below hb h.2.1.lt, h.2.2.1.below hb h.2.2.1.lt, h.2.2.2.below hb h.2.2.2.lt⟩

theorem sizeT_visit (s : T) (v : Value) (w : World) (b : Nat) (st : Nat × Nat) (h100000 : st.1 ≤ 100000) (B : Nat) (P : Nat → Prop) (hPB : ∀ k, P k → k < B) (h2 : TwoT B b st w) (hin : s.In w P v) (hold : Old P w) :
    Calls Tryz.prog 197 #[.agg #[.int .i64 s.kind, .int .i64 s.num, v], .int .i64 ((1 : Nat) : Int), .func (.func 168) #[] #[], .func (.func 198) #[] #[.pointer (some ⟨b + 1, 0, none⟩), .pointer (some ⟨b + 2, 0, none⟩), .pointer (some ⟨b, 0, none⟩)]] w fun e w' =>
      e = .returned (.bool (visitT sizeStepT st 1 s).1) ∧ TwoT B b (visitT sizeStepT st 1 s).2 w' ∧ Saves (fun k => k = b + 1 ∨ k = b + 2) w w' := by
  refine visitT_any (I := TwoT B b) (M := fun k => k = b + 1 ∨ k = b + 2) (ok := fun st _ lvl => lvl ≤ st.1 + 1 ∧ st.1 ≤ 100000) (fun _ _ _ h hb => twoT_kept h hb) ?_ Tryz.call198 ?_ ?_ ?_ _ s v 1 w st (Nat.le_refl _) ⟨by omega, h100000⟩ h2 hin hold
  · rintro w k st ⟨_, h0, h1, h2⟩ (rfl | rfl)
    · exact h1.lt
    · exact h2.lt
  · rintro k hk (rfl | rfl)
    · have := h2.1; have := hPB _ hk; omega
    · have := h2.1; have := hPB _ hk; omega
  · exact fun st k n l lvl h => sizeOkT st k n l lvl h
  · exact fun st x v lvl w h hI hin _ => size1T_any x v lvl w B b st h.2 hI P hin

theorem sizeT_results {tmps : Array Value} {w : World} {a b : Nat} {x y : Int} (h2 : tmps.getD 6 undef = .pointer (some ⟨a, 0, none⟩)) (h3 : tmps.getD 7 undef = .pointer (some ⟨b, 0, none⟩))
    (ha : Blk w a 3 #[.int .i64 x]) (hb : Blk w b 3 #[.int .i64 y]) : (results Tryz.f167 tmps).run Tryz.prog w = .ok (.tuple #[.int .i64 x, .int .i64 y]) w := by
  have h4 := ha.cell 0
  have h5 := hb.cell 0
  simp at h4 h5
  have h2' : tmps[6]?.getD undef = .pointer (some ⟨a, 0, none⟩) := by simpa using h2
  have h3' : tmps[7]?.getD undef = .pointer (some ⟨b, 0, none⟩) := by simpa using h3
  simp [results, Tryz.results167, go_sem, h2', h3', h4, h5]

set_option maxHeartbeats 400000 in
theorem nestSizeT_any (s : T) (v : Value) (w : World) (P : Nat → Prop) (hin : s.In w P v) (hold : Old P w) :
    Calls Tryz.prog 167 #[.agg #[.int .i64 s.kind, .int .i64 s.num, v], .func (.func 168) #[] #[], .int .i64 100000] w fun e w' => e = .returned (.tuple #[.int .i64 (s.sizes.1 : Int), .int .i64 (s.sizes.2 : Int)]) ∧ Below w.heap.size w w' := by
  obtain ⟨A, n, c, rfl⟩ := hin.form
  have hv := visitT_size s (0, 0) 1
  have hw3 : Below w.heap.size w ((((w.alloc (.cells #[.int .i64 s.kind, .int .i64 s.num, .slice A n c] 34)).alloc (.cells #[.int .i64 100000] 3)).alloc (.cells #[.int .i64 0] 3)).alloc (.cells #[.int .i64 0] 3)) :=
    ((((Below.refl _ _).alloc (Nat.le_refl _) _).alloc (by simp) _).alloc (by simp; omega) _).alloc (by simp; omega) _
  have h2 : TwoT w.heap.size (w.heap.size + 1) (0, 0) ((((w.alloc (.cells #[.int .i64 s.kind, .int .i64 s.num, .slice A n c] 34)).alloc (.cells #[.int .i64 100000] 3)).alloc (.cells #[.int .i64 0] 3)).alloc (.cells #[.int .i64 0] 3)) :=
    ⟨by omega, (by simpa using ((Blk.new (w.alloc (.cells #[.int .i64 s.kind, .int .i64 s.num, .slice A n c] 34)) 3 #[.int .i64 100000]).alloc _).alloc _),
      (by simpa using (Blk.new ((w.alloc (.cells #[.int .i64 s.kind, .int .i64 s.num, .slice A n c] 34)).alloc (.cells #[.int .i64 100000] 3)) 3 #[.int .i64 0]).alloc _),
      (by simpa using Blk.new (((w.alloc (.cells #[.int .i64 s.kind, .int .i64 s.num, .slice A n c] 34)).alloc (.cells #[.int .i64 100000] 3)).alloc (.cells #[.int .i64 0] 3)) 3 #[.int .i64 0])⟩
  have hct := sizeT_visit s _ _ (w.heap.size + 1) (0, 0) (by simp) w.heap.size P hold h2 (hin.old hold hw3) (hold.bel hw3)
  by_cases h100000 : s.count ≤ 100000
  · have hv1 : (visitT sizeStepT (0, 0) 1 s).1 = true := by rw [hv.1]; simpa using h100000
    have hv2 := hv.2 hv1
    rw [hv1, hv2] at hct
    have HS : Hid (s.sizes = (s.count, s.deep)) := Lib.hid (by simp [T.sizes, h100000])
    have HC := Lib.hid hct
    clear hct hv2 hv1 hv h2
    go_enter Tryz.func167, Tryz.ntmps167
    go_wp2_with fail
    refine HC.out.mono ?_
    rintro e w1 ⟨rfl, ⟨_, _, hk1, hk2⟩, hs1⟩
    have hc1 := hk1.cell 0
    have hc2 := hk2.cell 0
    have hf1 := hk1.frozen 0
    have hf2 := hk2.frozen 0
    have hb1 := hs1.below (B := w.heap.size) (by simp; omega) (fun k hk => by rintro (rfl | rfl) <;> omega)
    go_wp2_with fail
    go_region
    go_wp2
    refine bodyPost_ret (sizeT_results rfl rfl (((hk1.set_ 0 _).far (p := ⟨w.heap.size + 1 + 2, 0, none⟩) (by simp) _).drew) (((hk2.far (p := ⟨w.heap.size + 1 + 1, 0, none⟩) (by simp) _).set_ 0 _).drew)) rfl ⟨by rw [HS.out], ?_⟩
    exact (((hw3.trans hb1).setCell (by simp; omega) _).setCell (by simp; omega) _).drew
  · have hv1 : (visitT sizeStepT (0, 0) 1 s).1 = false := by rw [hv.1]; simpa using h100000
    rw [hv1] at hct
    have HS : Hid (s.sizes = (100001, 0)) := Lib.hid (by simp [T.sizes, h100000])
    have HC := Lib.hid hct
    clear hct hv1 hv h2
    go_enter Tryz.func167, Tryz.ntmps167
    go_wp2_with fail
    refine HC.out.mono ?_
    rintro e w1 ⟨rfl, ⟨_, hk0, hk1, hk2⟩, hs1⟩
    have hc0 := hk0.cell 0
    have hc1 := hk1.cell 0
    have hc2 := hk2.cell 0
    have hf1 := hk1.frozen 0
    have hf2 := hk2.frozen 0
    have hb1 := hs1.below (B := w.heap.size) (by simp; omega) (fun k hk => by rintro (rfl | rfl) <;> omega)
    go_wp2_with fail
    refine bodyPost_ret (sizeT_results (x := 100001) (y := 0) rfl rfl ((hk1.set_ 0 _).far (p := ⟨w.heap.size + 1 + 2, 0, none⟩) (by simp) _) ((hk2.far (p := ⟨w.heap.size + 1 + 1, 0, none⟩) (by simp) _).set_ 0 _)) rfl ⟨by rw [HS.out]; rfl, ?_⟩
    exact ((hw3.trans hb1).setCell (by simp; omega) _).setCell (by simp; omega) _

set_option maxHeartbeats 400000 in
theorem sizeT_any (s : T) (v : Value) (w : World) (P : Nat → Prop) (hin : s.In w P v) (hold : Old P w) :
    Calls Tryz.prog 133 #[.agg #[.int .i64 s.kind, .int .i64 s.num, v]] w fun e w' => e = .returned (.tuple #[.int .i64 (s.sizes.1 : Int), .int .i64 (s.sizes.2 : Int)]) ∧ Below w.heap.size w w' := by
  obtain ⟨A, n, c, rfl⟩ := hin.form
  have hw1 : Below w.heap.size w (w.alloc (.cells #[.int .i64 s.kind, .int .i64 s.num, .slice A n c] 34)) := (Below.refl _ _).alloc (Nat.le_refl _) _
  have HC := Lib.hid (nestSizeT_any s _ _ P (hin.old hold hw1) (hold.bel hw1))
  generalize s.sizes.1 = z1 at *
  generalize s.sizes.2 = z2 at *
  go_enter Tryz.func133, Tryz.ntmps133
  go_wp2_with fail
  refine HC.out.mono ?_
  rintro e w1 ⟨rfl, hb1⟩
  simp only [World.size_alloc] at hb1
  go_wp2_with fail
  go_ret2
  exact ⟨rfl, hw1.trans (hb1.mono (by omega))⟩


set_option maxHeartbeats 400000 in
theorem tooLarge_any (t : T) (v : Value) (w : World) (P : Nat → Prop) (hin : t.In w P v) (hold : Old P w) :
    Calls Tryz.prog 94 #[.agg #[.int .i64 t.kind, .int .i64 t.num, v]] w fun e w' => e = .returned (.bool t.large) ∧ Below w.heap.size w w' := by
  obtain ⟨A, n, c, rfl⟩ := hin.form
  have hw1 : Below w.heap.size w (w.alloc (.cells #[.int .i64 t.kind, .int .i64 t.num, .slice A n c] 34)) := (Below.refl _ _).alloc (Nat.le_refl _) _
  have HC := Lib.hid (sizeT_any t _ _ P (hin.old hold hw1) (hold.bel hw1))
  have hle : ∃ m : Nat, t.sizes.1 = m ∧ (100000 < m ↔ 100000 < t.count) := by
    refine ⟨_, rfl, ?_⟩
    by_cases h1 : t.count ≤ 100000
    · simp [T.sizes, h1]
    · simp [T.sizes, h1]; omega
  obtain ⟨m, hm, hmm⟩ := hle
  rw [hm] at HC
  have HF : Hid (decide (100000 < (m : Int)) = t.large) := Lib.hid (decide_eq_decide.2 (by omega))
  clear hm hmm
  go_enter Tryz.func94, Tryz.ntmps94
  go_wp2_with fail
  refine HC.out.mono ?_
  rintro e w1 ⟨rfl, hb1⟩
  simp only [World.size_alloc] at hb1
  go_wp2_with fail
  go_ret
  exact ⟨ret_bool HF.out, hw1.trans (hb1.mono (by omega))⟩

end Go.Proofs.YtbbejhhohppdhaaGreatDoor

namespace Go.Proofs.YtbbejhhohppdhaaGreatDoor
open Go.RowKit

mutual
def T.eqb : T → T → Bool
  | .mk a b l, .mk c d m => decide (a = c) && (decide (b = d) && T.eqL l m)
def T.eqL : List T → List T → Bool
  | [], [] => true
  | x :: r, y :: t => x.eqb y && T.eqL r t
  | _, _ => false
end
mutual
theorem T.eqb_iff : ∀ s t : T, s.eqb t = true ↔ s = t
  | .mk a b l, .mk c d m => by simp only [T.eqb, T.mk.injEq, Bool.and_eq_true, decide_eq_true_eq]; rw [T.eqL_iff l m]
theorem T.eqL_iff : ∀ l m : List T, T.eqL l m = true ↔ l = m
  | [], [] => by simp [T.eqL]
  | x :: r, [] => by simp [T.eqL]
  | [], y :: t => by simp [T.eqL]
  | x :: r, y :: t => by simp only [T.eqL, Bool.and_eq_true, List.cons.injEq, T.eqb_iff x y, T.eqL_iff r t]
end
theorem T.eqL_len (l m : List T) (h : l.length ≠ m.length) : T.eqL l m = false := by
  rw [Bool.eq_false_iff]; intro hh; exact h (congrArg List.length ((T.eqL_iff l m).1 hh))
theorem T.eqL_take_succ (l m : List T) (k : Nat) (x y : T) (hx : l[k]? = some x) (hy : m[k]? = some y) (h : T.eqL (l.take k) (m.take k) = true) :
    T.eqL (l.take (k + 1)) (m.take (k + 1)) = x.eqb y := by
  have e := (T.eqL_iff _ _).1 h
  rw [Bool.eq_iff_iff, T.eqL_iff, T.eqb_iff, List.take_add_one, List.take_add_one, hx, hy, e]
  simp
theorem T.eqL_false (l m : List T) (k : Nat) (x y : T) (hx : l[k]? = some x) (hy : m[k]? = some y) (h : x.eqb y = false) : T.eqL l m = false := by
  rw [Bool.eq_false_iff]; intro hh
  have e := (T.eqL_iff _ _).1 hh
  subst e
  rw [hx] at hy
  have hxy : x = y := by simpa using hy
  rw [(T.eqb_iff x y).2 hxy] at h
  cases h

set_option maxHeartbeats 1600000 in
theorem refEqualT_any (K : Nat) : ∀ (s t : T) (v u : Value) (w : World) (P Q : Nat → Prop), s.count ≤ K → s.In w P v → Old P w → t.In w Q u → Old Q w →
    Calls Tryz.prog 31 #[.agg #[.int .i64 s.kind, .int .i64 s.num, v], .agg #[.int .i64 t.kind, .int .i64 t.num, u]] w fun e w' => e = .returned (.bool (s.eqb t)) ∧ Below w.heap.size w w' := by
  induction K with
  | zero => intro s; have := s.count_pos; omega
  | succ K ih =>
    intro s t v u w P Q hK hin hold hin2 hold2
    obtain ⟨kd, nm, l⟩ := s
    obtain ⟨kd2, nm2, m⟩ := t
    simp only [T.In] at hin hin2
    obtain ⟨A, _, c, us, rfl, rfl, hnc, hc, hrd, hrow⟩ := hin
    obtain ⟨A2, n2, c2, us2, rfl, hm2, hnc2, hc2, hrd2, hrow2⟩ := hin2
    simp only [T.kind, T.num]
    have Hih := Lib.hid ih
    clear ih
    by_cases h1 : kd = kd2
    · by_cases h2 : nm = nm2
      · subst h1 h2
        by_cases hlen : l.length = n2
        · subst hlen
          have HM0 := Lib.hid hm2
          clear hm2
          have HF0 : Hid ((T.mk kd nm l).eqb (T.mk kd nm m) = T.eqL l m) := Lib.hid (by simp [T.eqb])
          go_enter Tryz.func31, Tryz.ntmps31
          go_wp2_with fail
          go_loopw [30] (fun i wr => ∃ k : Nat, k ≤ l.length ∧ i = .int .i64 k ∧ Hid (T.eqL (l.take k) (m.take k) = true) ∧ Blk wr w.heap.size 34 #[.int .i64 kd, .int .i64 nm, .slice A l.length c] ∧ Blk wr (w.heap.size + 1) 34 #[.int .i64 kd, .int .i64 nm, .slice A2 l.length c2] ∧ Below w.heap.size w wr) (fun i _ => l.length - (intOf i).toNat)
          case atStart => exact ⟨0, Nat.zero_le _, rfl, Lib.hid (by simp [T.eqL]), (Blk.new _ _ _).alloc _, by simpa using Blk.new (w.alloc (.cells #[.int .i64 kd, .int .i64 nm, .slice A l.length c] 34)) 34 #[.int .i64 kd, .int .i64 nm, .slice A2 l.length c2], ((Below.refl _ _).alloc (Nat.le_refl _) _).alloc (by simp) _⟩
          case round =>
            obtain ⟨k, hk, rfl, hf, hb1, hb2, hbel⟩ := hrel
            have hsz := hb2.lt
            have hd2 := hb1.cell 2
            have hd5 := hb2.cell 2
            by_cases hlt : k < l.length
            · have hx : l[k]? = some l[k] := List.getElem?_eq_getElem hlt
              have hlt2 : k < m.length := by have := HM0.out; omega
              have hy : m[k]? = some m[k] := List.getElem?_eq_getElem hlt2
              have hcl := T.count_lt (a := kd) (b := nm) hx
              obtain ⟨ad, u, rfl, hP, hel, hinx⟩ := T.In.el hrd hrow hx
              obtain ⟨ad2, u2, rfl, hQ, hel2, hinx2⟩ := T.In.el hrd2 hrow2 hy
              obtain ⟨r0, r1, r2⟩ := hel.keep (hbel.block _ (hold _ hP))
              obtain ⟨q0, q1, q2⟩ := hel2.keep (hbel.block _ (hold2 _ hQ))
              have hbA := hold _ hP
              have hbQ := hold2 _ hQ
              have hct := Hih.out l[k] m[k] u u2 wr.drew P Q (by omega) (hinx.old hold hbel.drew) (hold.bel hbel.drew) (hinx2.old hold2 hbel.drew) (hold2.bel hbel.drew)
              have hsucc := T.eqL_take_succ l m k _ _ hx hy hf.out
              have hfalse := T.eqL_false l m k _ _ hx hy
              generalize l[k] = x at *
              generalize m[k] = y at *
              cases hb : x.eqb y with
              | true =>
                have hrel' : Hid (T.eqL (l.take (k + 1)) (m.take (k + 1)) = true) := Lib.hid (hsucc.trans hb)
                rw [hb] at hct
                have HC := Lib.hid hct
                clear hx hy hel hel2 hsucc hfalse hct hb
                go_wp2_with fail
                go_region_held3 (fun w' => w'.cell? ⟨w.heap.size, 2, none⟩ = some (.slice (some ad) l.length c) ∧ w'.cell? ⟨w.heap.size + 1, 2, none⟩ = some (.slice (some ad2) l.length c2) ∧ w'.cell? (ad.add (k * 3)) = some (.int .i64 x.kind) ∧ w'.cell? ⟨(ad.add (k * 3)).block, (ad.add (k * 3)).off + 1, none⟩ = some (.int .i64 x.num) ∧ w'.cell? ⟨(ad.add (k * 3)).block, (ad.add (k * 3)).off + 2, none⟩ = some u ∧ w'.cell? (ad2.add (k * 3)) = some (.int .i64 y.kind) ∧ w'.cell? ⟨(ad2.add (k * 3)).block, (ad2.add (k * 3)).off + 1, none⟩ = some (.int .i64 y.num) ∧ w'.cell? ⟨(ad2.add (k * 3)).block, (ad2.add (k * 3)).off + 2, none⟩ = some u2) (first | go_keep | assumption)
                  (first
                    | (go_at_call 31
                       refine HC.out.mono ?_
                       rintro e w1 ⟨rfl, hw1⟩
                       have QK : ∀ (p : Addr) (z : Value), p.block < wr.heap.size → wr.cell? p = some z → w1.cell? p = some z := fun p z hp h => (hw1.cell hp).trans h
                       have Q := And.intro (QK _ _ (by simp; omega) hd2) (And.intro (QK _ _ (by simp; omega) hd5) (And.intro (QK _ _ (by rw [block_of_add]; omega) r0) (And.intro (QK _ _ (by simp only [block_of_add]; omega) r1) (And.intro (QK _ _ (by simp only [block_of_add]; omega) r2) (And.intro (QK _ _ (by rw [block_of_add]; omega) q0) (And.intro (QK _ _ (by simp only [block_of_add]; omega) q1) (QK _ _ (by simp only [block_of_add]; omega) q2)))))))
                       clear QK))
                all_goals
                  replace hw1 : Below wr.heap.size wr.drew w1 := hw1
                  go_wp2_with fail
                  go_roundw
                  case rel => exact ⟨k + 1, by omega, by go_num, hrel', hb1.drew.below hw1 (by omega), hb2.drew.below hw1 (by omega), hbel.drew.trans (hw1.mono (by omega))⟩
                  case measure => simp [intOf]; omega
              | false =>
                have HF := Lib.hid (hfalse hb)
                rw [hb] at hct
                have HC := Lib.hid hct
                clear hx hy hel hel2 hsucc hfalse hct hb
                go_wp2_with fail
                go_region_held3 (fun w' => w'.cell? ⟨w.heap.size, 2, none⟩ = some (.slice (some ad) l.length c) ∧ w'.cell? ⟨w.heap.size + 1, 2, none⟩ = some (.slice (some ad2) l.length c2) ∧ w'.cell? (ad.add (k * 3)) = some (.int .i64 x.kind) ∧ w'.cell? ⟨(ad.add (k * 3)).block, (ad.add (k * 3)).off + 1, none⟩ = some (.int .i64 x.num) ∧ w'.cell? ⟨(ad.add (k * 3)).block, (ad.add (k * 3)).off + 2, none⟩ = some u ∧ w'.cell? (ad2.add (k * 3)) = some (.int .i64 y.kind) ∧ w'.cell? ⟨(ad2.add (k * 3)).block, (ad2.add (k * 3)).off + 1, none⟩ = some (.int .i64 y.num) ∧ w'.cell? ⟨(ad2.add (k * 3)).block, (ad2.add (k * 3)).off + 2, none⟩ = some u2) (first | go_keep | assumption)
                  (first
                    | (go_at_call 31
                       refine HC.out.mono ?_
                       rintro e w1 ⟨rfl, hw1⟩
                       have QK : ∀ (p : Addr) (z : Value), p.block < wr.heap.size → wr.cell? p = some z → w1.cell? p = some z := fun p z hp h => (hw1.cell hp).trans h
                       have Q := And.intro (QK _ _ (by simp; omega) hd2) (And.intro (QK _ _ (by simp; omega) hd5) (And.intro (QK _ _ (by rw [block_of_add]; omega) r0) (And.intro (QK _ _ (by simp only [block_of_add]; omega) r1) (And.intro (QK _ _ (by simp only [block_of_add]; omega) r2) (And.intro (QK _ _ (by rw [block_of_add]; omega) q0) (And.intro (QK _ _ (by simp only [block_of_add]; omega) q1) (QK _ _ (by simp only [block_of_add]; omega) q2)))))))
                       clear QK))
                all_goals
                  replace hw1 : Below wr.heap.size wr.drew w1 := hw1
                  go_wp2_with fail
                  go_ret
                  exact ⟨ret_bool (by rw [HF0.out]; exact HF.out.symm), hbel.drew.trans (hw1.mono (by omega))⟩
            · have h1 : l.take k = l := List.take_of_length_le (by omega)
              have h2 : m.take k = m := List.take_of_length_le (by have := HM0.out; omega)
              rw [h1, h2] at hf
              clear h1 h2
              go_wp2_with fail
              go_ret
              exact ⟨ret_bool (by rw [HF0.out]; exact hf.out.symm), hbel⟩
        · have hF : (T.mk kd nm l).eqb (T.mk kd nm m) = false := by simp [T.eqb]; exact T.eqL_len l m (by omega)
          have HF := Lib.hid hF
          clear hF hm2
          go_enter Tryz.func31, Tryz.ntmps31
          go_wp2_with fail
          go_ret
          exact ⟨ret_bool HF.out.symm, ((Below.refl _ _).alloc (Nat.le_refl _) _).alloc (by simp) _⟩
      · have HF : Hid ((T.mk kd nm l).eqb (T.mk kd2 nm2 m) = false) := Lib.hid (by simp [T.eqb, h2])
        have h2' : (nm == nm2) = false := by simpa using h2
        have h2n : (nm != nm2) = true := by simpa using h2
        subst h1
        clear hm2
        go_enter Tryz.func31, Tryz.ntmps31
        go_wp2_with fail
        go_ret
        exact ⟨ret_bool HF.out.symm, ((Below.refl _ _).alloc (Nat.le_refl _) _).alloc (by simp) _⟩
    · have HF : Hid ((T.mk kd nm l).eqb (T.mk kd2 nm2 m) = false) := Lib.hid (by simp [T.eqb, h1])
      have h1' : (kd == kd2) = false := by simpa using h1
      have h1n : (kd != kd2) = true := by simpa using h1
      clear hm2
      go_enter Tryz.func31, Tryz.ntmps31
      go_wp2_with fail
      go_ret
      exact ⟨ret_bool HF.out.symm, ((Below.refl _ _).alloc (Nat.le_refl _) _).alloc (by simp) _⟩

/-- Two terms and their boxes, kept. -/
structure Pair (s t : T) (v u : Value) (P Q : Nat → Prop) (B : Nat) (w0 w : World) : Prop where
  b1 : Blk w B 34 #[.int .i64 s.kind, .int .i64 s.num, v]
  b2 : Blk w (B + 1) 34 #[.int .i64 t.kind, .int .i64 t.num, u]
  i1 : s.In w P v
  i2 : t.In w Q u
  o1 : Old P w
  o2 : Old Q w
  bel : Below B w0 w
theorem Pair.next {s t : T} {v u : Value} {P Q : Nat → Prop} {B : Nat} {w0 w w' : World} (h : Pair s t v u P Q B w0 w) (hb : Below w.heap.size w w') : Pair s t v u P Q B w0 w' :=
  ⟨h.b1.below hb h.b1.lt, h.b2.below hb h.b2.lt, h.i1.old h.o1 hb, h.i2.old h.o2 hb, h.o1.bel hb, h.o2.bel hb, h.bel.trans (hb.mono (by have := h.b1.lt; omega))⟩
theorem Pair.start {s t : T} {v u : Value} {P Q : Nat → Prop} {w : World} (h1 : s.In w P v) (o1 : Old P w) (h2 : t.In w Q u) (o2 : Old Q w) :
    Pair s t v u P Q w.heap.size w ((w.alloc (.cells #[.int .i64 s.kind, .int .i64 s.num, v] 34)).alloc (.cells #[.int .i64 t.kind, .int .i64 t.num, u] 34)) := by
  have hw2 : Below w.heap.size w ((w.alloc (.cells #[.int .i64 s.kind, .int .i64 s.num, v] 34)).alloc (.cells #[.int .i64 t.kind, .int .i64 t.num, u] 34)) := ((Below.refl _ _).alloc (Nat.le_refl _) _).alloc (by simp) _
  exact ⟨(Blk.new _ _ _).alloc _, by simpa using Blk.new (w.alloc (.cells #[.int .i64 s.kind, .int .i64 s.num, v] 34)) 34 #[.int .i64 t.kind, .int .i64 t.num, u], h1.old o1 hw2, h2.old o2 hw2, o1.bel hw2, o2.bel hw2, hw2⟩

set_option maxHeartbeats 400000 in
theorem refSameT_any (s t : T) (v u : Value) (w : World) (P Q : Nat → Prop) (hin : s.In w P v) (hold : Old P w) (hin2 : t.In w Q u) (hold2 : Old Q w) :
    Calls Tryz.prog 21 #[.agg #[.int .i64 s.kind, .int .i64 s.num, v], .agg #[.int .i64 t.kind, .int .i64 t.num, u]] w fun e w' => e = .returned (.bool (!s.large && (!t.large && s.eqb t))) ∧ Below w.heap.size w w' := by
  have hk0 := Pair.start hin hold hin2 hold2
  obtain ⟨A1, n1, c1, rfl⟩ := hin.form
  obtain ⟨A3, n3, c3, rfl⟩ := hin2.form
  have HC := Lib.hid (large_any s _ _ P hk0.i1 hk0.o1)
  cases hg : s.large with
  | true =>
    rw [hg] at HC
    have hw2 := hk0.bel
    clear hg hk0
    simp only [Bool.not_true, Bool.false_and]
    go_enter Tryz.func21, Tryz.ntmps21
    go_wp2_with fail
    refine HC.out.mono ?_
    rintro e w1 ⟨rfl, hb1⟩
    simp only [World.size_alloc] at hb1
    go_wp2_with fail
    go_ret
    exact ⟨rfl, hw2.trans (hb1.mono (by omega))⟩
  | false =>
    rw [hg] at HC
    clear hg
    simp only [Bool.not_false, Bool.true_and]
    go_enter Tryz.func21, Tryz.ntmps21
    go_wp2_with fail
    refine HC.out.mono ?_
    rintro e w1 ⟨rfl, hb1⟩
    have hk1 := hk0.next hb1
    clear hk0
    have d0 := hk1.b1.cell 0
    have d1 := hk1.b1.cell 1
    have d2 := hk1.b1.cell 2
    have d3 := hk1.b2.cell 0
    have d4 := hk1.b2.cell 1
    have d5 := hk1.b2.cell 2
    have HL := Lib.hid (large_any t _ _ Q hk1.i2 hk1.o2)
    cases hg2 : t.large with
    | true =>
      rw [hg2] at HL
      have HG := Lib.hid hg2
      clear hg2
      go_wp2_with fail
      refine HL.out.mono ?_
      rintro e w2 ⟨rfl, hb2⟩
      go_wp2_with fail
      go_ret
      exact ⟨ret_bool (by rw [HG.out]; rfl), (hk1.next hb2).bel⟩
    | false =>
      rw [hg2] at HL
      have HG := Lib.hid hg2
      clear hg2
      go_wp2_with fail
      refine HL.out.mono ?_
      rintro e w2 ⟨rfl, hb2⟩
      have hk2 := hk1.next hb2
      clear hk1 d0 d1 d2 d3 d4 d5
      have d0 := hk2.b1.cell 0
      have d1 := hk2.b1.cell 1
      have d2 := hk2.b1.cell 2
      have d3 := hk2.b2.cell 0
      have d4 := hk2.b2.cell 1
      have d5 := hk2.b2.cell 2
      go_wp2_with fail
      refine (refEqualT_any _ s t _ _ _ P Q (Nat.le_refl _) hk2.i1 hk2.o1 hk2.i2 hk2.o2).mono ?_
      rintro e w3 ⟨rfl, hw3⟩
      go_wp2_with fail
      go_ret
      exact ⟨ret_bool (by rw [HG.out]; rfl), (hk2.next hw3).bel⟩
end Go.Proofs.YtbbejhhohppdhaaGreatDoor

namespace Go.Proofs.YtbbejhhohppdhaaGreatDoor
open Go.RowKit

theorem owns_kept3 {w w' : World} {base : Nat} {e : TypeId} {size : Nat} {v : Value} {n : Nat} {xs : List Value} (h : w.ownsRow base e size v n xs) (hk : ∀ b, v.ownBlock = some b → w'.heap[b]? = w.heap[b]?) : w'.ownsRow base e size v n xs := by
  refine ⟨h.1, ?_⟩
  rcases h.2 with h2 | ⟨g, cap, cur, rfl, h3, h4, h5⟩
  · exact .inl h2
  · exact .inr ⟨g, cap, cur, rfl, h3, (hk g rfl).trans h4, h5⟩
theorem owns_less {w : World} {base base' : Nat} {e : TypeId} {size : Nat} {v : Value} {n : Nat} {xs : List Value} (h : w.ownsRow base e size v n xs) (hb : base' ≤ base) : w.ownsRow base' e size v n xs := by
  refine ⟨h.1, ?_⟩
  rcases h.2 with h2 | ⟨g, cap, cur, rfl, h3, h4, h5⟩
  · exact .inl h2
  · exact .inr ⟨g, cap, cur, rfl, by omega, h4, h5⟩
mutual
/-- A term's arguments, each level an array of its own block, from its first cell on. -/
def T.NIn (w : World) (P : Nat → Prop) : T → Value → Prop
  | .mk _ _ l, v => ∃ us, w.ownsRow 0 34 3 v l.length us ∧ (∀ b, v.ownBlock = some b → P b) ∧ T.NRow w P l us
def T.NRow (w : World) (P : Nat → Prop) : List T → List Value → Prop
  | [], us => us = []
  | s :: r, us => ∃ u ut, us = .int .i64 s.kind :: .int .i64 s.num :: u :: ut ∧ s.NIn w P u ∧ T.NRow w P r ut
end
mutual
theorem T.NIn.keep {w w' : World} {P : Nat → Prop} (hb : ∀ b, P b → w'.heap[b]? = w.heap[b]?) : ∀ (s : T) {v : Value}, s.NIn w P v → s.NIn w' P v
  | .mk _ _ l, v, h => by
    simp only [T.NIn] at h ⊢
    obtain ⟨us, h1, h2, h3⟩ := h
    exact ⟨us, owns_kept3 h1 (fun b hh => hb b (h2 b hh)), h2, T.NRow.keep hb l h3⟩
theorem T.NRow.keep {w w' : World} {P : Nat → Prop} (hb : ∀ b, P b → w'.heap[b]? = w.heap[b]?) : ∀ (l : List T) {us : List Value}, T.NRow w P l us → T.NRow w' P l us
  | [], us, h => by simpa [T.NRow] using h
  | s :: r, us, h => by
    simp only [T.NRow] at h ⊢
    obtain ⟨u, ut, h1, h2, h3⟩ := h
    exact ⟨u, ut, h1, T.NIn.keep hb s h2, T.NRow.keep hb r h3⟩
end
mutual
theorem T.NIn.more {w : World} {P Q : Nat → Prop} (hb : ∀ b, P b → Q b) : ∀ (s : T) {v : Value}, s.NIn w P v → s.NIn w Q v
  | .mk _ _ l, v, h => by
    simp only [T.NIn] at h ⊢
    obtain ⟨us, h1, h2, h3⟩ := h
    exact ⟨us, h1, fun b hh => hb b (h2 b hh), T.NRow.more hb l h3⟩
theorem T.NRow.more {w : World} {P Q : Nat → Prop} (hb : ∀ b, P b → Q b) : ∀ (l : List T) {us : List Value}, T.NRow w P l us → T.NRow w Q l us
  | [], us, h => by simpa [T.NRow] using h
  | s :: r, us, h => by
    simp only [T.NRow] at h ⊢
    obtain ⟨u, ut, h1, h2, h3⟩ := h
    exact ⟨u, ut, h1, T.NIn.more hb s h2, T.NRow.more hb r h3⟩
end
mutual
theorem T.NIn.in_ {w : World} {P : Nat → Prop} : ∀ (s : T) {v : Value}, s.NIn w P v → s.In w P v
  | .mk k n l, v, h => by
    simp only [T.NIn] at h
    obtain ⟨us, h1, h2, h3⟩ := h
    have hr := T.NRow.row l h3
    rcases h1.2 with ⟨rfl, h0⟩ | ⟨g, cap, cur, rfl, _, _, hn, hc, _, _⟩
    · have : l = [] := List.eq_nil_of_length_eq_zero h0
      subst this
      exact T.In.mk_ rfl (Nat.le_refl _) (by omega) (.inl rfl) (by simp [T.Row])
    · exact T.In.mk_ rfl hn (by simpa [maxLen] using hc) (.inr ⟨_, rfl, h2 g rfl, h1.cells (g := g) rfl⟩) hr
theorem T.NRow.row {w : World} {P : Nat → Prop} : ∀ (l : List T) {us : List Value}, T.NRow w P l us → T.Row w P l us
  | [], us, h => by simpa [T.NRow, T.Row] using h
  | s :: r, us, h => by
    simp only [T.NRow] at h
    obtain ⟨u, ut, h1, h2, h3⟩ := h
    simp only [T.Row]
    exact ⟨u, ut, h1, T.NIn.in_ s h2, T.NRow.row r h3⟩
end
theorem T.NRow.snoc {w : World} {P : Nat → Prop} {x : T} {u : Value} (hx : x.NIn w P u) : ∀ {l : List T} {us : List Value}, T.NRow w P l us → T.NRow w P (l ++ [x]) (us ++ [.int .i64 x.kind, .int .i64 x.num, u])
  | [], us, h => by
    simp only [T.NRow] at h
    subst h
    simp only [List.nil_append, T.NRow]
    exact ⟨u, [], rfl, hx, rfl⟩
  | s :: r, us, h => by
    simp only [T.NRow] at h
    obtain ⟨u', ut, rfl, h2, h3⟩ := h
    simp only [List.cons_append, T.NRow]
    exact ⟨u', _, rfl, h2, h3.snoc hx⟩
theorem T.NIn.nil {w : World} {P : Nat → Prop} (k n : Int) : (T.mk k n []).NIn w P (.slice none 0 0) := by
  simp only [T.NIn]
  exact ⟨[], ⟨by simp, .inl ⟨rfl, rfl⟩⟩, by simp [Value.ownBlock], by simp [T.NRow]⟩
/-- v is a slice of an array of its own, from block B on, that holds the terms l; what they hold lies in other blocks, from B on. -/
structure Mk (B : Nat) (w : World) (l : List T) (v : Value) (us : List Value) : Prop where
  own : w.ownsRow B 34 3 v l.length us
  nrow : T.NRow w (fun b => B ≤ b ∧ b < w.heap.size ∧ v.ownBlock ≠ some b) l us

theorem Mk.row {B : Nat} {w : World} {l : List T} {v : Value} {us : List Value} (h : Mk B w l v us) : T.Row w (fun b => B ≤ b ∧ b < w.heap.size ∧ v.ownBlock ≠ some b) l us := h.nrow.row
theorem Mk.nil (B : Nat) (w : World) : Mk B w [] (.slice none 0 0) [] := ⟨⟨by simp, .inl ⟨rfl, rfl⟩⟩, by simp [T.NRow]⟩
theorem Mk.lt {B : Nat} {w : World} {l : List T} {v : Value} {us : List Value} (h : Mk B w l v us) {b : Nat} (hb : v.ownBlock = some b) : B ≤ b ∧ b < w.heap.size := h.own.lt b hb
theorem Mk.form {B : Nat} {w : World} {l : List T} {v : Value} {us : List Value} (h : Mk B w l v us) : ∃ A c, v = .slice A l.length c := by
  rcases h.own.2 with ⟨rfl, h0⟩ | ⟨g, cap, cur, rfl, _⟩
  · exact ⟨none, 0, by rw [h0]⟩
  · exact ⟨_, cap, rfl⟩
/-- Kept where no block from B on has turned. -/
theorem Mk.keep {B : Nat} {w w' : World} {l : List T} {v : Value} {us : List Value} (h : Mk B w l v us) (hz : w.heap.size ≤ w'.heap.size) (hk : ∀ b, B ≤ b → b < w.heap.size → w'.heap[b]? = w.heap[b]?) : Mk B w' l v us :=
  ⟨owns_kept3 h.own (fun b hb => hk b (h.lt hb).1 (h.lt hb).2), (T.NRow.keep (fun b hb => hk b hb.1 hb.2.1) l h.nrow).more (fun _ hb => ⟨hb.1, Nat.lt_of_lt_of_le hb.2.1 hz, hb.2.2⟩) l⟩
theorem Mk.below {B : Nat} {w w' : World} {l : List T} {v : Value} {us : List Value} (h : Mk B w l v us) (hb : Below w.heap.size w w') : Mk B w' l v us := h.keep hb.size (fun _ _ hl => hb.block _ hl)
theorem Mk.set {B : Nat} {w : World} {l : List T} {v : Value} {us : List Value} (h : Mk B w l v us) {p : Addr} (hp : p.block < B) (u : Value) : Mk B (w.setCell p u) l v us :=
  h.keep (by simp [World.setCell]) (fun b hb _ => Below.heap_setCell w p u b (by omega))
theorem Mk.put {B : Nat} {w : World} {l : List T} {v : Value} {us : List Value} (h : Mk B w l v us) {b o : Nat} (hp : b < B) (u : Value) : Mk B (w.setCell ⟨b, o, none⟩ u) l v us := h.set (p := ⟨b, o, none⟩) hp u
theorem Mk.drew {B : Nat} {w : World} {l : List T} {v : Value} {us : List Value} (h : Mk B w l v us) : Mk B w.drew l v us := h.keep (Nat.le_refl _) (fun _ _ _ => rfl)
theorem Mk.less {B B' : Nat} {w : World} {l : List T} {v : Value} {us : List Value} (h : Mk B w l v us) (hb : B' ≤ B) : Mk B' w l v us :=
  ⟨owns_less h.own hb, h.nrow.more (fun b hh => ⟨by have := hh.1; omega, hh.2⟩) l⟩
/-- It is the list of terms, all in blocks from B on. -/
theorem Mk.in_ {B : Nat} {w : World} {l : List T} {v : Value} {us : List Value} (h : Mk B w l v us) : T.InL w (fun b => B ≤ b ∧ b < w.heap.size) l v := by
  unfold T.InL
  rcases h.own.2 with ⟨rfl, h0⟩ | ⟨g, cap, cur, rfl, h1, h2, h3, h4, h5, h6⟩
  · have : l = [] := List.eq_nil_of_length_eq_zero h0
    subst this
    exact T.In.mk_ rfl (Nat.le_refl _) (by omega) (.inl rfl) (by simp [T.Row])
  · have hg := h.lt (b := g) rfl
    refine T.In.mk_ rfl h3 (by simpa [maxLen] using h4) (.inr ⟨_, rfl, hg, ?_⟩) (h.row.more (fun b hb => ⟨hb.1, hb.2.1⟩) l)
    exact h.own.cells (g := g) rfl

/-- The term with these arguments. -/
theorem Mk.nterm {B : Nat} {w : World} {t : T} {v : Value} {us : List Value} (h : Mk B w t.args v us) : t.NIn w (fun b => B ≤ b ∧ b < w.heap.size) v := by
  obtain ⟨k, n, l⟩ := t
  simp only [T.NIn]
  exact ⟨us, owns_less h.own (Nat.zero_le _), fun b hb => h.lt hb, h.nrow.more (fun _ hb => ⟨hb.1, hb.2.1⟩) l⟩
/-- One more term. -/
theorem Mk.push {B : Nat} {wr w1 w2 : World} {l : List T} {v : Value} {us : List Value} (h : Mk B wr l v us) (hBr : B ≤ wr.heap.size) (hb : ∀ b, b < wr.heap.size → w1.heap[b]? = wr.heap[b]?) (hz : wr.heap.size ≤ w1.heap.size) {y : T} {u : Value}
    (hy : y.NIn w1 (fun b => wr.heap.size ≤ b ∧ b < w1.heap.size) u) {o1 : Obj} {g cap : Nat}
    (hown2 : w2.ownsRow B 34 3 (.slice (some ⟨g, 0, none⟩) (l.length + 1) cap) (l.length + 1) (us ++ [.int .i64 y.kind, .int .i64 y.num, u])) (hgrow : (w1.alloc o1).grownBy w2 v.ownBlock)
    (hat : v.ownBlock = some g ∨ g = w1.heap.size + 1) :
    Mk B w2 (l ++ [y]) (.slice (some ⟨g, 0, none⟩) (l.length + 1) cap) (us ++ [.int .i64 y.kind, .int .i64 y.num, u]) := by
  have hgs := hgrow.size
  simp only [World.size_alloc] at hgs
  have hfar : ∀ b, b < w1.heap.size → v.ownBlock ≠ some b → w2.heap[b]? = w1.heap[b]? := fun b hb' hne => by
    rw [hgrow.block b (by simp; omega) (fun e => hne e.symm), Below.heap_alloc _ _ _ hb']
  have hvlt : ∀ b, v.ownBlock = some b → b < wr.heap.size := fun b hb' => (h.lt hb').2
  refine ⟨by rw [List.length_append]; exact hown2, ?_⟩
  have hQ : ∀ b, (B ≤ b ∧ b < wr.heap.size ∧ v.ownBlock ≠ some b) → (B ≤ b ∧ b < w2.heap.size ∧ (Value.slice (some ⟨g, 0, none⟩) (l.length + 1) cap).ownBlock ≠ some b) := by
    rintro b ⟨q1, q2, q3⟩
    refine ⟨q1, by omega, fun e => ?_⟩
    have e' : g = b := by simpa [Value.ownBlock] using e
    rcases hat with ha | ha
    · exact q3 (by rw [ha, e'])
    · omega
  have hQ2 : ∀ b, (wr.heap.size ≤ b ∧ b < w1.heap.size) → (B ≤ b ∧ b < w2.heap.size ∧ (Value.slice (some ⟨g, 0, none⟩) (l.length + 1) cap).ownBlock ≠ some b) := by
    rintro b ⟨q1, q2⟩
    refine ⟨by omega, by omega, fun e => ?_⟩
    have e' : g = b := by simpa [Value.ownBlock] using e
    rcases hat with ha | ha
    · have := hvlt g ha; omega
    · omega
  refine T.NRow.snoc ?_ ?_
  · exact (hy.keep (fun b hb' => hfar b hb'.2 (fun e => by have := hvlt b e; omega)) _).more hQ2 _
  · exact (h.nrow.keep (fun b hb' => (hfar b (by omega) hb'.2.2).trans (hb b hb'.2.1)) l).more hQ l

theorem term_info : (Tryz.prog.info? 34).map (fun i => (i.zero, i.size, i.bytes)) = some (some (.agg #[.int .i64 0, .int .i64 0, .slice none 0 0]), 3, 40) := by kernel_rfl

def growRen : Go.Shelf.Ren := ⟨fun | 4 => 145 | n => n, fun | 0 => 0 | 3 => 3 | 4 => 4 | 9 => 9 | 20 => 20 | 22 => 32 | 25 => 34 | n => n, fun n => n⟩
theorem growLays : Lays8.n4 Tryz.prog growRen := {
  mixed := by kernel_rfl
  f4 := ⟨Tryz.f145.name, by decide, Tryz.func145.trans (congrArg some (by kernel_rfl))⟩
  t0 := Tryz.underlying0
  a0 := Tryz.isAgg0
  z0 := Tryz.sizeOf0
  v0 := Tryz.zeroValue0
  t3 := Tryz.underlying3
  a3 := Tryz.isAgg3
  z3 := Tryz.sizeOf3
  v3 := Tryz.zeroValue3
  t4 := Tryz.underlying4
  a4 := Tryz.isAgg4
  z4 := Tryz.sizeOf4
  v4 := Tryz.zeroValue4
  t9 := Tryz.underlying9
  a9 := Tryz.isAgg9
  z9 := Tryz.sizeOf9
  v9 := Tryz.zeroValue9
  t20 := Tryz.underlying20
  a20 := Tryz.isAgg20
  z20 := Tryz.sizeOf20
  v20 := Tryz.zeroValue20
  t22 := Tryz.underlying32
  a22 := Tryz.isAgg32
  z22 := Tryz.sizeOf32
  v22 := Tryz.zeroValue32 }

/-- slices.Grow of such a list: the same list, in the same array or in a new one. -/
theorem growT_any {B : Nat} {w : World} {l : List T} {v : Value} {us : List Value} (h : Mk B w l v us) (hB : B ≤ w.heap.size) (n : Nat) (hn : l.length + n ≤ 1000000) :
    Calls Tryz.prog 145 #[v, .int .i64 (n : Int)] w fun e w' => ∃ v', e = .returned v' ∧ Mk B w' l v' us ∧ Below w.heap.size w w' ∧ (v'.ownBlock = v.ownBlock ∨ ∃ g, v'.ownBlock = some g ∧ w.heap.size ≤ g) := by
  obtain ⟨i0, hi0, hz0, hz1, hz2⟩ := info_parts term_info
  obtain ⟨A, c, rfl⟩ := h.form
  have hlc : l.length ≤ c ∧ c ≤ 9223372036854775807 := by
    rcases h.own.2 with ⟨h0, h1⟩ | ⟨g, cap, cur, h0, h1, h2, h3, h4, h5, h6⟩
    · injection h0 with _ _ e; subst e; omega
    · injection h0 with _ _ e; subst e; exact ⟨h3, by simpa [maxLen] using h4⟩
  by_cases hroom : l.length + n ≤ c
  · exact (Any8.slices_Grow_room growLays A l.length c n w hlc.1 hlc.2 (by omega) hroom).mono fun e w' ⟨he, hw⟩ => ⟨_, he, by rw [hw]; exact h, by rw [hw]; exact Below.refl _ _, .inl rfl⟩
  · have hcells : ∃ cs : List Value, cs.length = c * i0.size ∧ (A = none → c = 0) ∧ (∀ a, A = some a → ∀ j v, cs[j]? = some v → w.cell? (a.add j) = some v) ∧ cs.take (l.length * 3) = us := by
      rcases h.own.2 with ⟨h0, h1⟩ | ⟨g, cap, cur, h0, h1, h2, h3, h4, h5, h6⟩
      · injection h0 with e1 _ e; subst e e1
        have hu : us = [] := List.eq_nil_of_length_eq_zero (by simpa [h1] using h.own.1)
        exact ⟨[], by simp, fun _ => rfl, fun a ha => by (cases ha), by simp [hu]⟩
      · injection h0 with e1 _ e; subst e e1
        refine ⟨cur.toList, by rw [hz1]; simpa using h5, fun ha => (by cases ha), fun a ha j v hj => ?_, h6⟩
        have ha := Option.some.inj ha
        subst ha
        exact World.news_of_block h2 j v hj
    obtain ⟨cs, hc1, hc2, hc3, hc4⟩ := hcells
    refine (Any8.slices_Grow_grow growLays i0 _ hi0 hz0 (by rw [hz1]; omega) A l.length c n cs w hlc.1 (by omega) (by rw [hz2]; omega) (by omega) hc1 hc2 hc3).mono fun e w' ⟨he, hw⟩ => ?_
    have hG := grownCap_ge w (l.length + n) c (growRen.t 25)
    have hG2 := grownCap_le_maxLen w (l.length + n) c (growRen.t 25) (by unfold maxLen; omega)
    generalize grownCap w (l.length + n) c (growRen.t 25) = G at *
    have hbel : Below w.heap.size w w' := by rw [hw]; exact ((Below.refl _ _).drew).alloc (Nat.le_refl _) _
    refine ⟨_, he, ⟨⟨h.own.1, .inr ⟨w.heap.size, G, _, rfl, hB, by rw [hw]; exact heap_alloc_new w.drew _, by omega, hG2, ?_, ?_⟩⟩, ?_⟩, hbel, .inr ⟨_, rfl, Nat.le_refl _⟩⟩
    · simp only [Array.size_append, size_zeroCells, List.size_toArray, hc1, hz1]
      show c * 3 + (l.length + n - c) * 3 + (G - (l.length + n)) * 3 = G * 3
      omega
    · have hlen : l.length * 3 ≤ cs.length := by rw [hc1, hz1]; have := hlc.1; omega
      simp only [Array.toList_append]
      rw [List.append_assoc, List.take_append_of_le_length hlen]
      exact hc4
    · refine (h.nrow.keep (fun b hb => hbel.block b hb.2.1) l).more (fun b hb => ⟨hb.1, Nat.lt_of_lt_of_le hb.2.1 hbel.size, fun e => ?_⟩) l
      have e' : w.heap.size = b := by simpa [Value.ownBlock] using e
      have := hb.2.1
      omega
end Go.Proofs.YtbbejhhohppdhaaGreatDoor

namespace Go.Proofs.YtbbejhhohppdhaaGreatDoor
open Go.RowKit

/-- A term in memory of its own, returned. -/
def Made (t : T) (w : World) (e : Ending) (w' : World) : Prop :=
  ∃ v us, e = .returned (.agg #[.int .i64 t.kind, .int .i64 t.num, v]) ∧ Mk w.heap.size w' t.args v us ∧ Below w.heap.size w w'
theorem Mk.term {B : Nat} {w : World} {t : T} {v : Value} {us : List Value} (h : Mk B w t.args v us) : t.In w (fun b => B ≤ b ∧ b < w.heap.size) v := by
  obtain ⟨k, n, l⟩ := t
  exact T.InL.to h.in_

theorem hones (a b : Int) (u1 : Value) (h : u1.oneCell' = true) : ∀ u ∈ [Value.int .i64 a, .int .i64 b, u1], u.oneCell' = true := by
  intro u hu
  simp only [List.mem_cons, List.not_mem_nil, or_false] at hu
  rcases hu with rfl | rfl | rfl
  · rfl
  · rfl
  · exact h
theorem saves_grown {M : Nat → Prop} {w0 w w1 : World} {o : Obj} {v : Value} (h : Saves M w0 w) (hg : (w.alloc o).grownBy w1 v.ownBlock) (hv : ∀ b, v.ownBlock = some b → M b ∨ w0.heap.size ≤ b) : Saves M w0 w1 := by
  have hk := h.alloc o
  refine ⟨hg.os.trans hk.os, hg.tape.trans hk.tape, hg.output.trans hk.output, Nat.le_trans hk.size hg.size, fun b hb hm => (hg.block b (Nat.lt_of_lt_of_le hb hk.size) (fun e => ?_)).trans (hk.block b hb hm)⟩
  rcases hv b e.symm with h1 | h1
  · exact hm h1
  · omega
/-- What the loop of appendEach holds behind k rounds. -/
def Each (B : Nat) (w : World) (m l : List T) (f : T → T) (v0 : Value) (i v : Value) (wr : World) : Prop :=
  ∃ (k : Nat) (us : List Value), k ≤ l.length ∧ i = .int .i64 k ∧ Mk B wr (m ++ (l.take k).map f) v us ∧ Saves (fun b => v0.ownBlock = some b) w wr ∧ (v.ownBlock = v0.ownBlock ∨ ∀ g, v.ownBlock = some g → w.heap.size ≤ g)

end Go.Proofs.YtbbejhhohppdhaaGreatDoor

namespace Go.Proofs.YtbbejhhohppdhaaGreatDoor
open Go.RowKit

/-- What the loop of Copy (and of Replace) holds behind k rounds: list so far ml, its slice cv in the box at B + 2. -/
structure RoundT (ml : List T) (kd nm : Int) (B : Nat) (w0 : World) (cv : Value) (us : List Value) (w : World) : Prop where
  lst : Mk (B + 3) w ml cv us
  out : Blk w (B + 1 + 1) 34 #[.int .i64 kd, .int .i64 nm, cv]
  res : Blk w (B + 1) 34 #[.int .i64 0, .int .i64 0, .slice none 0 0]
  bel : Below B w0 w

theorem RoundT.next {ml : List T} {kd nm : Int} {B : Nat} {w0 wr w1 w2 : World} {cv : Value} {us : List Value} {y : T} {u : Value} {us1 : List Value} {o o1 : Obj} {gg cap : Nat}
    (hr : RoundT ml kd nm B w0 cv us wr) (hm1 : Mk (wr.heap.size + 1) w1 y.args u us1) (hbb1 : Below (wr.heap.size + 1) (wr.alloc o).drew w1) (hwz : wr.heap.size + 1 ≤ w1.heap.size)
    (hown2 : w2.ownsRow (B + 3) 34 3 (.slice (some ⟨gg, 0, none⟩) (ml.length + 1) cap) (ml.length + 1) (us ++ [.int .i64 y.kind, .int .i64 y.num, u])) (hgrow : (w1.alloc o1).grownBy w2 cv.ownBlock)
    (hat : cv.ownBlock = some gg ∨ gg = w1.heap.size + 1) :
    RoundT (ml ++ [y]) kd nm B w0 (.slice (some ⟨gg, 0, none⟩) (ml.length + 1) cap) (us ++ [.int .i64 y.kind, .int .i64 y.num, u]) (w2.setCell ⟨B + 1 + 1, 2, none⟩ (.slice (some ⟨gg, 0, none⟩) (ml.length + 1) cap)) := by
  have hB3 : B + 1 + 1 < wr.heap.size := hr.out.lt
  have hcv : ∀ b, cv.ownBlock = some b → B + 3 ≤ b ∧ b < wr.heap.size := fun b hb => hr.lst.lt hb
  have hk1 : ∀ b, b < wr.heap.size → w1.heap[b]? = wr.heap[b]? := fun b hb => (hbb1.block b (by omega)).trans (Below.heap_alloc wr o b hb)
  have hk2 : ∀ b, b < wr.heap.size → cv.ownBlock ≠ some b → w2.heap[b]? = wr.heap[b]? := fun b hb hne => by
    rw [hgrow.block b (by simp; omega) (fun e => hne e.symm), Below.heap_alloc _ _ _ (by omega), hk1 b hb]
  have hin := hm1.nterm
  refine ⟨?_, ?_, ?_, ?_⟩
  · refine Mk.set ?_ (by show B + 1 + 1 < B + 3; omega) _
    exact hr.lst.push (by omega) hk1 (by omega) (hin.more (fun b hb => ⟨by have := hb.1; omega, hb.2⟩) _) hown2 hgrow hat
  · have h1 : Blk w2 (B + 1 + 1) 34 #[.int .i64 kd, .int .i64 nm, cv] := (hk2 _ hB3 (fun e => by have := hcv _ e; omega)).trans hr.out
    exact h1.set_ 2 _
  · have h1 : Blk w2 (B + 1) 34 #[.int .i64 0, .int .i64 0, .slice none 0 0] := (hk2 _ (by omega) (fun e => by have := hcv _ e; omega)).trans hr.res
    exact h1.far (by simp) _
  · refine Below.setCell (hr.bel.trans ?_) (by simp; omega) _
    have e1 : Below B wr w1 := ⟨(hbb1.os), (hbb1.tape), (hbb1.output), by omega, fun b hb => hk1 b (by omega)⟩
    exact (e1.alloc (by omega) o1).grown hgrow (by simp; omega) (fun b hb => by have := hcv b hb; omega)

theorem copyT_results {tmps : Array Value} {w : World} {a : Nat} {x y z : Value} (h2 : tmps.getD 2 undef = .pointer (some ⟨a, 0, none⟩))
    (ha : Blk w a 34 #[x, y, z]) : (results Tryz.f28 tmps).run Tryz.prog w = .ok (.agg #[x, y, z]) w := by
  have h4 := ha.cell 0
  have h5 := ha.cell 1
  have h6 := ha.cell 2
  simp at h4 h5 h6
  have h2' : tmps[2]?.getD undef = .pointer (some ⟨a, 0, none⟩) := by simpa using h2
  simp [results, Tryz.results28, go_sem, h2', h4, h5, h6]

set_option maxRecDepth 100000 in
set_option maxHeartbeats 3200000 in
theorem copyT_any (K : Nat) : ∀ (t : T) (v : Value) (w : World) (P : Nat → Prop), t.count ≤ K → t.count ≤ 100000 → t.In w P v → Old P w →
    Calls Tryz.prog 28 #[.agg #[.int .i64 t.kind, .int .i64 t.num, v]] w (Made t w) := by
  induction K with
  | zero => intro t; have := t.count_pos; omega
  | succ K ih =>
    intro t v w P hK hm hin hold
    obtain ⟨i0, hi0, hz0, hz1, hz2⟩ := info_parts term_info
    obtain ⟨kd, nm, l⟩ := t
    simp only [T.In] at hin
    obtain ⟨A, _, c, us0, rfl, rfl, hnc, hc, hrd, hrow⟩ := hin
    simp only [T.kind, T.num]
    have hlen := T.length_le l
    simp only [T.count] at hm hK
    go_enter Tryz.func28, Tryz.ntmps28
    go_wp2_with fail
    go_loopw [14] (fun i wr => ∃ k cv us, k ≤ l.length ∧ i = .int .i64 (k : Nat) ∧ RoundT (l.take k) kd nm w.heap.size w cv us wr) (fun i _ => l.length - (intOf i).toNat)
    case atStart =>
      refine ⟨0, _, [], Nat.zero_le _, rfl, ⟨by simpa using Mk.nil _ _, ?_, ?_, ?_⟩⟩
      · simpa using Blk.new ((w.alloc (.cells #[.int .i64 kd, .int .i64 nm, .slice A l.length c] 34)).alloc (.cells #[.int .i64 0, .int .i64 0, .slice none 0 0] 34)) 34 #[.int .i64 kd, .int .i64 nm, .slice none 0 0]
      · exact (by simpa using Blk.new (w.alloc (.cells #[.int .i64 kd, .int .i64 nm, .slice A l.length c] 34)) 34 #[.int .i64 0, .int .i64 0, .slice none 0 0] : Blk ((w.alloc (.cells #[.int .i64 kd, .int .i64 nm, .slice A l.length c] 34)).alloc (.cells #[.int .i64 0, .int .i64 0, .slice none 0 0] 34)) (w.heap.size + 1) 34 #[.int .i64 0, .int .i64 0, .slice none 0 0]).alloc _
      · exact (((Below.refl _ _).alloc (Nat.le_refl _) _).alloc (by simp) _).alloc (by simp; omega) _
    case round =>
      obtain ⟨k, cv, us, hk, rfl, hr⟩ := hrel
      have hsz := hr.bel.size
      have hsz1 := hr.out.lt
      by_cases hlt : k < l.length
      · have hx : l[k]? = some l[k] := List.getElem?_eq_getElem hlt
        have hcl := T.count_lt (a := kd) (b := nm) hx
        simp only [T.count] at hcl
        obtain ⟨ad, u, rfl, hPa, hel, hinx⟩ := T.In.el hrd hrow hx
        obtain ⟨r0, r1, r2⟩ := hel.keep (hr.bel.block _ (hold _ hPa))
        obtain ⟨A', n', c', rfl⟩ := hinx.form
        have hw1 := hr.bel.alloc hsz (.cells #[.int .i64 l[k].kind, .int .i64 l[k].num, .slice A' n' c'] 34)
        have hinr := hinx.old hold hw1
        have d0 := (hr.out.alloc (.cells #[.int .i64 l[k].kind, .int .i64 l[k].num, .slice A' n' c'] 34)).cell 2
        have hxB := Blk.new wr 34 #[.int .i64 l[k].kind, .int .i64 l[k].num, .slice A' n' c']
        have d1 := hxB.cell 0
        have d2 := hxB.cell 1
        have d3 := hxB.cell 2
        have hih := fun w' (h : Below (wr.heap.size + 1) (wr.alloc (.cells #[.int .i64 l[k].kind, .int .i64 l[k].num, .slice A' n' c'] 34)) w') => ih l[k] (.slice A' n' c') w' P (by omega) (by omega) (hinr.below h (fun b hb => by have := hold b hb; omega)) ((hold.bel hw1).le h.size)
        have hsnoc : l.take (k + 1) = l.take k ++ [l[k]] := by rw [List.take_add_one, hx]; rfl
        have hkl : (l.take k).length = k := by rw [List.length_take]; omega
        generalize l.take k = ml at *
        have HIH := Lib.hid hih
        have HX := Lib.hid hx
        have HS := Lib.hid hsnoc
        have HL := Lib.hid hkl
        generalize l[k] = x at *
        clear hih ih hx hel hsnoc hkl
        go_wp2_with fail
        go_region_law
          (first
            | (refine step_append_lies _ (by rfl) _ _ _ (by rfl) (w.heap.size + 3) 34 i0 _ 3 40 Tryz.underlying32 hi0 hz0 hz1 hz2 rfl (by omega) cv _ us (by rfl) (by exact (hown1.alloc _))
                ⟨w1.heap.size, 0, none⟩ 1 1 [.int .i64 x.kind, .int .i64 x.num, v1] (by rfl) (by rfl) (by exact World.news_of_block (cs := #[.int .i64 x.kind, .int .i64 x.num, v1]) (t := 34) (fr := (0, 0)) (heap_alloc_new w1 _)) (by exact hones _ _ _ hone) (by omega) (by rw [HL.out]; simp only [maxLen]; omega) (by rw [HL.out]; omega) (by simp; omega) (w1.heap.size + 1) (by simp) ?_; intro gg cap w2 hown2 hgrow hat hlt2
               have hblk2 : Blk w2 (w.heap.size + 1 + 1) 34 #[.int .i64 kd, .int .i64 nm, cv] := (hgrow.block _ (by simp; omega) (fun e => by have := (hr.lst.lt e.symm).1; omega)).trans (hblk1.alloc _)
               have hxb2 : Blk w2 wr.heap.size 34 #[.int .i64 x.kind, .int .i64 x.num, .slice A' n' c'] := (hgrow.block _ (by simp; omega) (fun e => by have := (hr.lst.lt e.symm).2; omega)).trans (hxb1.alloc _)
               have s1 := hblk2.cell 2
               have s2 := hxb2.cell 0
               have s3 := hxb2.cell 1
               have s4 := hxb2.cell 2
               have s5 := hblk2.frozen 2
               simp at s1 s2 s3 s4)
            | (go_simp; go_at_call 28; refine (HIH.out _ (by exact (Below.refl _ _).drew)).mono ?_; rintro e w1 ⟨v1, us1, rfl, hm1, hb1⟩
               have hone : v1.oneCell' = true := by obtain ⟨A1, c1, rfl⟩ := hm1.form; rfl
               have hwz : wr.heap.size + 1 ≤ w1.heap.size := by have h : (wr.alloc (.cells #[.int .i64 x.kind, .int .i64 x.num, .slice A' n' c'] 34)).heap.size ≤ w1.heap.size := hb1.size; simpa using h
               have hbb1 : Below (wr.heap.size + 1) (wr.alloc (.cells #[.int .i64 x.kind, .int .i64 x.num, .slice A' n' c'] 34)).drew w1 := hb1.mono (by show _ ≤ (wr.alloc _).heap.size; simp)
               have hown1 : w1.ownsRow (w.heap.size + 3) 34 3 cv ml.length us := owns_kept3 ((hr.lst.own.alloc _).drew) (fun b hb => hbb1.block b (by have := (hr.lst.lt hb).2; omega))
               have hblk1 : Blk w1 (w.heap.size + 1 + 1) 34 #[.int .i64 kd, .int .i64 nm, cv] := ((hr.out.alloc _).drew).below hbb1 (by omega)
               have hxb1 : Blk w1 wr.heap.size 34 #[.int .i64 x.kind, .int .i64 x.num, .slice A' n' c'] := ((Blk.new wr 34 _).drew).below hbb1 (by omega)
               have q1 := hblk1.cell 2
               have q2 := hxb1.cell 0
               have q3 := hxb1.cell 1
               have q4 := hxb1.cell 2
               have q5 : (w1.alloc (.cells #[.int .i64 x.kind, .int .i64 x.num, v1] 34)).cell? ⟨w.heap.size + 1 + 1, 2, none⟩ = some cv := (hblk1.alloc _).cell 2
               simp at q1 q2 q3 q4))
        all_goals
          go_wp2_with fail
          go_roundw
          case rel => exact ⟨k + 1, _, _, by omega, by go_num, by rw [HS.out]; exact hr.next (by simpa [World.drew] using hm1) hbb1 hwz hown2 hgrow hat⟩
          case measure => simp [intOf]; omega
      · have hll : l.take k = l := List.take_of_length_le (by omega)
        rw [hll] at hr
        obtain ⟨A3, c3, rfl⟩ := hr.lst.form
        have c0 := hr.out.cell 0
        have c1 := hr.out.cell 1
        have c2 := hr.out.cell 2
        have e0 := hr.res.cell 0
        have e1 := hr.res.cell 1
        have e2 := hr.res.cell 2
        have e3 := hr.res.frozen 0
        have e4 := hr.res.frozen 1
        have e5 := hr.res.frozen 2
        clear ih hll
        go_wp2_with fail
        refine bodyPost_ret (copyT_results rfl ((((hr.res.set_ 0 _).set_ 1 _).set_ 2 _).eq_ (by simp; exact ⟨rfl, rfl, rfl⟩))) rfl ⟨_, us, rfl, ?_, ?_⟩
        · exact (((hr.lst.set (by simp) _).set (by simp) _).set (by simp) _).less (by omega)
        · exact ((hr.bel.setCell (by simp) _).setCell (by simp) _).setCell (by simp) _
end Go.Proofs.YtbbejhhohppdhaaGreatDoor

namespace Go.Proofs.YtbbejhhohppdhaaGreatDoor

/-- The head that stands in the place of a head: an arg for a variable. -/
def T.head (gs : List T) (k n : Int) : T := if k = 0 then gs.getD n.toNat default else .mk k n []
mutual
def T.sub (gs : List T) : T → T
  | .mk k n l => .mk (T.head gs k n).kind (T.head gs k n).num ((T.head gs k n).args ++ T.subL gs l)
def T.subL (gs : List T) : List T → List T
  | [] => []
  | x :: r => x.sub gs :: T.subL gs r
end
/-- A head that is no variable, or the number of one of m args. -/
def cov1 (m : Nat) (k n : Int) : Bool := decide (k ≠ 0) || (decide (0 ≤ n) && decide (n < (m : Int)))
mutual
/-- All variables are numbers of m args. -/
def T.cov (m : Nat) : T → Bool
  | .mk k n l => cov1 m k n && T.covL m l
def T.covL (m : Nat) : List T → Bool
  | [] => true
  | x :: r => x.cov m && T.covL m r
end
theorem T.subL_map (gs : List T) : ∀ l : List T, T.subL gs l = l.map (T.sub gs)
  | [] => by simp [T.subL]
  | x :: r => by simp [T.subL, T.subL_map gs r]
theorem T.countL_append (l m : List T) : T.countL (l ++ m) = T.countL l + T.countL m := by
  induction l with
  | nil => simp [T.countL]
  | cons x r ih => simp [T.countL, ih]; omega
theorem T.count_eta (t : T) : t.count = 1 + T.countL t.args := by cases t; simp [T.count, T.args]
theorem T.eta (t : T) : T.mk t.kind t.num t.args = t := by cases t; rfl
theorem T.count_sub (gs : List T) (k n : Int) (l : List T) : ((T.mk k n l).sub gs).count = (T.head gs k n).count + T.countL (T.subL gs l) := by
  simp only [T.sub, T.count, T.countL_append]
  rw [T.count_eta (T.head gs k n)]
  omega
theorem T.covL_at {m : Nat} : ∀ {l : List T}, T.covL m l = true → ∀ {j : Nat} {x : T}, l[j]? = some x → x.cov m = true
  | [], _, j, x, h => by simp at h
  | a :: r, hc, j, x, h => by
    simp only [T.covL, Bool.and_eq_true] at hc
    cases j with
    | zero => simp at h; subst h; exact hc.1
    | succ j => simp at h; exact T.covL_at hc.2 h
theorem T.covL_mem {m : Nat} {l : List T} (h : T.covL m l = true) {x : T} (hx : x ∈ l) : x.cov m = true := by
  obtain ⟨j, hj⟩ := List.getElem?_of_mem hx
  exact T.covL_at h hj
theorem T.count_mem {l : List T} {x : T} (hx : x ∈ l) : x.count ≤ T.countL l := by
  obtain ⟨k, hk⟩ := List.getElem?_of_mem hx
  have := T.count_lt (a := 0) (b := 0) hk
  simp only [T.count] at this; omega
theorem T.subL_mem (gs : List T) {l : List T} {x : T} (hx : x ∈ l) : (x.sub gs).count ≤ T.countL (T.subL gs l) := by
  rw [T.subL_map]
  exact T.count_mem (List.mem_map_of_mem hx)
theorem T.head_var {gs : List T} {n : Int} {j : Nat} (hn : n = j) {a : T} (ha : gs[j]? = some a) : T.head gs 0 n = a := by
  subst hn
  simp [T.head, ha]
theorem T.head_not {gs : List T} {k n : Int} (hk : k ≠ 0) : T.head gs k n = .mk k n [] := by simp [T.head, hk]
end Go.Proofs.YtbbejhhohppdhaaGreatDoor
