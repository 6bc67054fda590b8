/-
  The statements' turn: it writes numbers into the arrays of the list that it is handed, and nowhere else.
-/
import Derived.Test.YtmggccgjhjknpaaTFill
namespace Go.Proofs.Ytmggccgjhjknpaa
open Go.RowKit

mutual
/-- A term's arguments in arrays of their own, whatever their kinds and numbers. -/
def T.EIn (w : World) (P : Nat → Prop) : T → Value → Prop
  | .mk _ _ l, v => ∃ us, w.ownsRow 0 35 3 v l.length us ∧ (∀ b, v.ownBlock = some b → P b) ∧ T.ERow w P l us
def T.ERow (w : World) (P : Nat → Prop) : List T → List Value → Prop
  | [], us => us = []
  | s :: r, us => ∃ (k m : Int) (u : Value) (ut : List Value), us = .int .i64 k :: .int .i64 m :: u :: ut ∧ s.EIn w P u ∧ T.ERow w P r ut
end
mutual
theorem T.NIn.ein {w : World} {P : Nat → Prop} : ∀ (s : T) {v : Value}, s.NIn w P v → s.EIn w P v
  | .mk _ _ l, v, h => by
    simp only [T.NIn] at h
    simp only [T.EIn]
    obtain ⟨us, h1, h2, h3⟩ := h
    exact ⟨us, h1, h2, T.NRow.erow l h3⟩
theorem T.NRow.erow {w : World} {P : Nat → Prop} : ∀ (l : List T) {us : List Value}, T.NRow w P l us → T.ERow w P l us
  | [], us, h => by simpa [T.NRow, T.ERow] using h
  | s :: r, us, h => by
    simp only [T.NRow] at h
    obtain ⟨u, ut, h1, h2, h3⟩ := h
    simp only [T.ERow]
    exact ⟨_, _, u, ut, h1, T.NIn.ein s h2, T.NRow.erow r h3⟩
end
mutual
theorem T.EIn.keep {w w' : World} {P : Nat → Prop} (hb : ∀ b, P b → w'.heap[b]? = w.heap[b]?) : ∀ (s : T) {v : Value}, s.EIn w P v → s.EIn w' P v
  | .mk _ _ l, v, h => by
    simp only [T.EIn] at h ⊢
    obtain ⟨us, h1, h2, h3⟩ := h
    exact ⟨us, owns_kept3 h1 (fun b hh => hb b (h2 b hh)), h2, T.ERow.keep hb l h3⟩
theorem T.ERow.keep {w w' : World} {P : Nat → Prop} (hb : ∀ b, P b → w'.heap[b]? = w.heap[b]?) : ∀ (l : List T) {us : List Value}, T.ERow w P l us → T.ERow w' P l us
  | [], us, h => by simpa [T.ERow] using h
  | s :: r, us, h => by
    simp only [T.ERow] at h ⊢
    obtain ⟨k, m, u, ut, h1, h2, h3⟩ := h
    exact ⟨k, m, u, ut, h1, T.EIn.keep hb s h2, T.ERow.keep hb r h3⟩
end
mutual
theorem T.EIn.more {w : World} {P Q : Nat → Prop} (hb : ∀ b, P b → Q b) : ∀ (s : T) {v : Value}, s.EIn w P v → s.EIn w Q v
  | .mk _ _ l, v, h => by
    simp only [T.EIn] at h ⊢
    obtain ⟨us, h1, h2, h3⟩ := h
    exact ⟨us, h1, fun b hh => hb b (h2 b hh), T.ERow.more hb l h3⟩
theorem T.ERow.more {w : World} {P Q : Nat → Prop} (hb : ∀ b, P b → Q b) : ∀ (l : List T) {us : List Value}, T.ERow w P l us → T.ERow w Q l us
  | [], us, h => by simpa [T.ERow] using h
  | s :: r, us, h => by
    simp only [T.ERow] at h ⊢
    obtain ⟨k, m, u, ut, h1, h2, h3⟩ := h
    exact ⟨k, m, u, ut, h1, T.EIn.more hb s h2, T.ERow.more hb r h3⟩
end
theorem T.ERow.set_ {w : World} {P : Nat → Prop} (x : Int) : ∀ {l : List T} {us : List Value} (j : Nat), T.ERow w P l us → T.ERow w P l (us.set (j * 3 + 1) (.int .i64 x))
  | [], us, j, h => by simp only [T.ERow] at h ⊢; subst h; rfl
  | s :: r, us, 0, h => by
    simp only [T.ERow] at h ⊢
    obtain ⟨k, m, u, ut, rfl, h2, h3⟩ := h
    exact ⟨k, x, u, ut, rfl, h2, h3⟩
  | s :: r, us, j + 1, h => by
    simp only [T.ERow] at h ⊢
    obtain ⟨k, m, u, ut, rfl, h2, h3⟩ := h
    refine ⟨k, m, u, ut.set (j * 3 + 1) (.int .i64 x), ?_, h2, T.ERow.set_ x j h3⟩
    rw [show (j + 1) * 3 + 1 = j * 3 + 1 + 1 + 1 + 1 from by omega]
    rfl
theorem T.ERow.at_ {w : World} {P : Nat → Prop} : ∀ {l : List T} {us : List Value}, T.ERow w P l us → ∀ {k : Nat} {x : T}, l[k]? = some x →
    ∃ (m : Int) (u : Value), us[k * 3 + 1]? = some (.int .i64 m) ∧ us[k * 3 + 2]? = some u ∧ x.EIn w P u
  | [], us, h, k, x, hx => by simp at hx
  | s :: r, us, h, k, x, hx => by
    simp only [T.ERow] at h
    obtain ⟨k0, m, u, ut, rfl, h2, h3⟩ := h
    cases k with
    | zero => simp at hx; subst hx; exact ⟨m, u, rfl, rfl, h2⟩
    | succ k =>
      simp at hx
      obtain ⟨m', u', g1, g2, g3⟩ := h3.at_ hx
      refine ⟨m', u', ?_, ?_, g3⟩
      · rw [show (k + 1) * 3 + 1 = k * 3 + 1 + 1 + 1 + 1 from by omega]; simpa using g1
      · rw [show (k + 1) * 3 + 2 = k * 3 + 2 + 1 + 1 + 1 from by omega]; simpa using g2
mutual
/-- A number's cell is stored. -/
theorem T.EIn.store {w : World} {P : Nat → Prop} (g j : Nat) (x : Int) : ∀ (s : T) {v : Value}, s.EIn w P v → s.EIn (w.setCell ⟨g, j * 3 + 1, none⟩ (.int .i64 x)) P v
  | .mk _ _ l, v, h => by
    simp only [T.EIn] at h ⊢
    obtain ⟨us, h1, h2, h3⟩ := h
    have h3' := T.ERow.store g j x l h3
    by_cases hg : v.ownBlock = some g
    · refine ⟨us.set (j * 3 + 1) (.int .i64 x), ⟨by simpa using h1.1, ?_⟩, h2, h3'.set_ x j⟩
      rcases h1.2 with ⟨rfl, h0⟩ | ⟨g', cap, cur, rfl, hB, hh, hn, hc, hz, ht⟩
      · simp [Value.ownBlock] at hg
      · have e : g' = g := by simpa [Value.ownBlock] using hg
        subst e
        refine .inr ⟨g', cap, cur.setIfInBounds (j * 3 + 1) (.int .i64 x), rfl, hB, Blk.set_ (show Blk w g' 35 cur from hh) (j * 3 + 1) (.int .i64 x), hn, hc, by simpa using hz, ?_⟩
        rw [Array.toList_setIfInBounds, List.take_set, ht]
    · exact ⟨us, owns_kept3 h1 (fun b hb => Below.heap_setCell w ⟨g, j * 3 + 1, none⟩ _ b (fun e => hg (by rw [hb, e]))), h2, h3'⟩
theorem T.ERow.store {w : World} {P : Nat → Prop} (g j : Nat) (x : Int) : ∀ (l : List T) {us : List Value}, T.ERow w P l us → T.ERow (w.setCell ⟨g, j * 3 + 1, none⟩ (.int .i64 x)) P l us
  | [], us, h => by simpa [T.ERow] using h
  | s :: r, us, h => by
    simp only [T.ERow] at h ⊢
    obtain ⟨k, m, u, ut, h1, h2, h3⟩ := h
    exact ⟨k, m, u, ut, h1, T.EIn.store g j x s h2, T.ERow.store g j x r h3⟩
end
/-- What can be turned can be turned afterwards. -/
def Keeps (P : Nat → Prop) (w w' : World) : Prop := ∀ (s : T) (u : Value), s.EIn w P u → s.EIn w' P u
theorem T.EIn.form {w : World} {P : Nat → Prop} {s : T} {v : Value} (h : s.EIn w P v) : ∃ A c, v = .slice A s.args.length c ∧ s.args.length ≤ c ∧ c ≤ 9223372036854775807 := by
  obtain ⟨_, _, l⟩ := s
  simp only [T.EIn] at h
  obtain ⟨us, h1, _, _⟩ := h
  rcases h1.2 with ⟨rfl, h0⟩ | ⟨g, cap, cur, rfl, _, _, hn, hc, _⟩
  · exact ⟨none, 0, by simp [T.args, h0], by simp [T.args, h0], by omega⟩
  · exact ⟨_, cap, rfl, hn, by simpa [maxLen] using hc⟩
/-- The cells of one of the terms. -/
theorem T.EIn.cells {w : World} {P : Nat → Prop} {l : List T} {A : Option Addr} {n c : Nat} (h : (T.mk 0 0 l).EIn w P (.slice A n c)) {k : Nat} {x : T} (hx : l[k]? = some x) :
    ∃ (g : Nat) (m : Int) (u : Value), A = some ⟨g, 0, none⟩ ∧ P g ∧ g < w.heap.size ∧ w.cell? ⟨g, k * 3 + 1, none⟩ = some (.int .i64 m) ∧ w.cell? ⟨g, k * 3 + 2, none⟩ = some u ∧ w.frozen? ⟨g, k * 3 + 1, none⟩ = false ∧ x.EIn w P u := by
  simp only [T.EIn] at h
  obtain ⟨us, h1, h2, h3⟩ := h
  obtain ⟨m, u, e1, e2, e3⟩ := h3.at_ hx
  rcases h1.2 with ⟨he, h0⟩ | ⟨g, cap, cur, he, _, hh, _⟩
  · have : l = [] := List.eq_nil_of_length_eq_zero h0
    subst this; simp at hx
  · injection he with e4 e5 e6
    subst e4
    have hadd : ∀ j, j ≠ 0 → (⟨g, 0, none⟩ : Addr).add j = ⟨g, j, none⟩ := fun j hj => by unfold Addr.add; rw [if_neg hj]; simp
    have c1 := World.ownsRow.cells h1 (g := g) rfl _ _ e1
    have c2 := World.ownsRow.cells h1 (g := g) rfl _ _ e2
    rw [hadd _ (by omega)] at c1 c2
    exact ⟨g, m, u, rfl, h2 g rfl, (h1.lt g rfl).2, c1, c2, Blk.frozen (show Blk w g 35 cur from hh) _, e3⟩
/-- What turn's loop holds. -/
def Trn (P : Nat → Prop) (l : List T) (v : Value) (w0 : World) (i : Value) (w : World) : Prop :=
  ∃ k : Nat, k ≤ l.length ∧ i = .int .i64 k ∧ (T.mk 0 0 l).EIn w P v ∧ Saves P w0 w ∧ Keeps P w0 w

set_option maxHeartbeats 1600000 in
theorem turnT_any (P : Nat → Prop) (K : Nat) : ∀ (l : List T) (v : Value) (w : World), T.countL l ≤ K → (T.mk 0 0 l).EIn w P v →
    Calls Try.prog 40 #[v] w fun e w' => e = .returned (.tuple #[]) ∧ Saves P w w' ∧ Keeps P w w' := by
  induction K with
  | zero =>
    intro l v w hK hin
    have hl : l = [] := List.eq_nil_of_length_eq_zero (by have := T.length_le l; omega)
    subst hl
    obtain ⟨A, c, rfl, _, _⟩ := hin.form
    simp only [T.args, List.length_nil]
    clear hin
    go_enter Try.func40, Try.ntmps40
    go_wp2_with fail
    go_loopw [5] (fun i wr => i = .int .i64 0 ∧ w = wr) (fun _ _ => 0)
    case atStart => exact ⟨rfl, rfl⟩
    case round =>
      obtain ⟨rfl, rfl⟩ := hrel
      go_wp2_with fail
      go_end0
      exact ⟨rfl, Saves.refl _ _, fun _ _ h => h⟩
  | succ K ih =>
    intro l v w hK hin
    obtain ⟨A, c, rfl, hlc, hcm⟩ := hin.form
    simp only [T.args] at hlc ⊢
    have HIH := Lib.hid ih
    clear ih
    go_enter Try.func40, Try.ntmps40
    go_wp2_with fail
    go_loopw [5] (fun i wr => Trn P l (.slice A l.length c) w i wr) (fun i _ => l.length - (intOf i).toNat)
    case atStart => exact ⟨0, Nat.zero_le _, rfl, hin, Saves.refl _ _, fun _ _ h => h⟩
    case round =>
      obtain ⟨k, hk, rfl, hin1, hsv, hkp⟩ := hrel
      clear hin
      by_cases hlt : k < l.length
      · have hx : l[k]? = some l[k] := List.getElem?_eq_getElem hlt
        have hcl := T.count_mem (List.getElem_mem hlt)
        obtain ⟨g, m, u, rfl, hPg, hg, r1, r2, r3, hinx⟩ := hin1.cells hx
        have HX := Lib.hid hx
        generalize l[k] = x at *
        obtain ⟨kx, nx, lx⟩ := x
        simp only [T.count] at hcl
        have hinx' : (T.mk 0 0 lx).EIn wr P u := by simpa only [T.EIn] using hinx
        have HC := Lib.hid (HIH.out lx u wr (by omega) hinx')
        obtain ⟨A1, c1, rfl, _, _⟩ := hinx'.form
        simp only [T.args] at *
        clear hx hinx hinx' r1 r3
        go_wp2_with fail
        refine HC.out.mono ?_
        rintro e w2 ⟨rfl, hs2, hk2⟩
        have hin2 := hk2 _ _ hin1
        obtain ⟨g', m2, u2, he, _, hg2, q1, q2, q3, _⟩ := hin2.cells HX.out
        injection he with he
        injection he with he _ _
        subst he
        clear r2
        go_wp2_with fail
        go_roundw
        case rel => exact ⟨k + 1, by omega, by go_num, T.EIn.store _ _ _ _ hin2, (hsv.trans hs2).setCell (.inl hPg) _, fun s u h => T.EIn.store _ _ _ _ (hk2 _ _ (hkp _ _ h))⟩
        case measure => simp [intOf]; omega
      · go_wp2_with fail
        go_end0
        exact ⟨rfl, hsv, hkp⟩
end Go.Proofs.Ytmggccgjhjknpaa
