/-
  infer.isBody: a contract.
-/
import Derived.Test.YtkkfdiidneoelaaDoorIVisit
import Derived.Test.YtkkfdiidneoelaaDoorISort
import Derived.Maps.OwnSet
import Derived.Maps.OwnOps
namespace Go.Proofs.YtkkfdiidneoelaaDoor
open Go.RowKit Go.ChangeShapes Go.WideShapes Go.ChangeMaps
open Go.Maps (Keyed IsMap)

/-- Block b is a map that has the number f k at k, 0 where there is none. -/
def MapI (w : World) (b n : Nat) (f : Int → Int) : Prop :=
  ∃ D : DataW Unit, w.ownsMap Tryd.prog 3 (plainElem Tryd.prog 3) b n D ∧ IsMap D ∧ ∀ k : Int, D.atKey (.int .i64 k) (.lit (.int .i64 0)) = .lit (.int .i64 (f k))
theorem MapI.made (w : World) : MapI (w.alloc (.map #[] 0)) w.heap.size 0 (fun _ => 0) :=
  ⟨.map [], World.ownsMap_made _ _ _ _, by simp [IsMap], fun k => by simp [WideAt.atKey_none]⟩
theorem MapI.lt {w : World} {b n : Nat} {f : Int → Int} (h : MapI w b n f) : b < w.heap.size := by
  obtain ⟨D, h1, _, _⟩ := h
  exact h1.lt
theorem MapI.same {w w' : World} {b n : Nat} {f : Int → Int} (h : MapI w b n f) (hb : w'.heap[b]? = w.heap[b]?) : MapI w' b n f := by
  obtain ⟨D, ⟨es, ck, hh, hr⟩, h2, h3⟩ := h
  exact ⟨D, ⟨es, ck, hb.trans hh, hr⟩, h2, h3⟩
theorem MapI.below {w w' : World} {b n : Nat} {f : Int → Int} (h : MapI w b n f) (hb : Below w.heap.size w w') : MapI w' b n f := h.same (hb.block b h.lt)
def fit64 (x : Int) : Prop := -9223372036854775808 ≤ x ∧ x ≤ 9223372036854775807
set_option maxRecDepth 100000 in
theorem lit_wf {x : Int} (h : fit64 x) : (Lit.int .i64 x).wf = true := by
  simp only [Lit.wf, Bool.and_eq_true, decide_eq_true_eq]
  exact ⟨h.1, h.2⟩
theorem MapI.look {w : World} {b n : Nat} {f : Int → Int} (h : MapI w b n f) {k : Int} (hk : fit64 k) :
    (Instr.lookup 66 (.map (some b)) (.int .i64 k) false).run Tryd.prog w = .ok (.int .i64 (f k)) w := by
  obtain ⟨D, h1, _, h3⟩ := h
  obtain ⟨c, hrun, hat, _⟩ := h1.lookup_int (Maps.int_keyed Tryd.underlying3) Tryd.underlying66 Tryd.underlying3 (Tryd.zeroValue3 w) (Maps.keyOf_int_mk Tryd.underlying3 (lit_wf hk))
  rw [h3 k] at hat
  simp only [DataW.lit.injEq, Lit.int.injEq, true_and] at hat
  rw [hrun, hat]
def putI (f : Int → Int) (k x : Int) : Int → Int := fun i => if i = k then x else f i
theorem MapI.put {w : World} {b n : Nat} {f : Int → Int} (h : MapI w b n f) (hn : n < 1000000) {k x : Int} (hk : fit64 k) (hx : fit64 x) :
    ∃ w', (Instr.mapUpdate 66 (.map (some b)) (.int .i64 k) (.int .i64 x)).run Tryd.prog w = .ok () w' ∧ MapI w' b (n + 1) (putI f k x) ∧ w.grownBy w' (some b) := by
  obtain ⟨D, h1, h2, h3⟩ := h
  obtain ⟨w', hrun, hown, hg⟩ := h1.update (Maps.int_keyed Tryd.underlying3) Tryd.underlying66 (by simp only [maxLen]; omega) (Maps.keyOf_int_mk Tryd.underlying3 (lit_wf hk)) (plainElem_int Tryd.underlying3 (lit_wf hx))
  refine ⟨w', hrun, ⟨_, hown, h2.put _ _, fun i => ?_⟩, hg⟩
  by_cases hi : i = k
  · subst hi
    rw [Maps.atKey_put_same h2 (by simp [WideAt.IsKeyLit])]
    simp [putI]
  · have hne : (Lit.int .i64 i) ≠ Lit.int .i64 k := fun e => by injection e with _ e; exact hi e
    rw [Maps.atKey_put_other hne]
    simpa [putI, hi] using h3 i

/-- How many heads there are of a kind. -/
def headsF (a b c : Nat) (k : Int) : Int := if k = 0 then a else if k = 1 then b else if k = 2 then c else 0
theorem headIn_F (a b c : Nat) (k n : Int) : headIn a b c k n = (decide (0 ≤ n) && decide (n < headsF a b c k)) := by
  unfold headIn headsF
  repeat' split
  all_goals rfl
def stepIn (f : Int → Int) (_ : Unit) (x : T) (_ : Nat) : Bool × Unit := (decide (0 ≤ x.num) && decide (x.num < f x.kind), ())
mutual
theorem visitT_in (a b c : Nat) : ∀ (t : T) (st : Unit) (lvl : Nat), (visitT (stepIn (headsF a b c)) st lvl t).1 = t.exist a b c
  | .mk k n l, st, lvl => by
    have h := visitTL_in a b c l () (lvl + 1)
    simp only [T.exist, headIn_F]
    by_cases hc : (decide (0 ≤ n) && decide (n < headsF a b c k)) = true
    · have hv : visitT (stepIn (headsF a b c)) st lvl (.mk k n l) = visitTL (stepIn (headsF a b c)) () (lvl + 1) l := by
        simp only [visitT]
        rw [if_pos (show (stepIn (headsF a b c) st (.mk k n l) lvl).1 = true from hc)]
      rw [hv, h, hc, Bool.true_and]
    · have hv : visitT (stepIn (headsF a b c)) st lvl (.mk k n l) = (false, ()) := by
        simp only [visitT]
        rw [if_neg (show ¬ (stepIn (headsF a b c) st (.mk k n l) lvl).1 = true from hc)]
      rw [hv, Bool.eq_false_iff.2 hc, Bool.false_and]
theorem visitTL_in (a b c : Nat) : ∀ (l : List T) (st : Unit) (lvl : Nat), (visitTL (stepIn (headsF a b c)) st lvl l).1 = T.existL a b c l
  | [], st, lvl => by simp [visitTL, T.existL]
  | x :: r, st, lvl => by
    have h := visitT_in a b c x st lvl
    have hr := visitTL_in a b c r (visitT (stepIn (headsF a b c)) st lvl x).2 lvl
    simp only [visitTL, T.existL]
    by_cases hc : (visitT (stepIn (headsF a b c)) st lvl x).1 = true
    · rw [if_pos hc, hr, ← h, hc, Bool.true_and]
    · have hc' := Bool.eq_false_iff.2 hc
      rw [if_neg hc, ← h, hc', Bool.false_and]
end

/-- The map in its box. -/
structure MBox (bm b n : Nat) (f : Int → Int) (w : World) : Prop where
  box : Blk w b 66 #[.map (some bm)]
  map : MapI w bm n f
theorem MBox.next {bm b n : Nat} {f : Int → Int} {w w' : World} (h : MBox bm b n f w) (hb : Below w.heap.size w w') : MBox bm b n f w' := ⟨h.box.below hb h.box.lt, h.map.below hb⟩

set_option maxHeartbeats 800000 in
theorem body1_any (f : Int → Int) (bm b n : Nat) (x : T) (v : Value) (w : World) (P : Nat → Prop) (hfit : fit64 x.kind ∧ fit64 x.num) (h : MBox bm b n f w) (hin : x.In w P v) (z : Int) (hz : f x.kind = z) :
    Calls Tryd.prog 57 #[.agg #[.int .i64 x.kind, .int .i64 x.num, v], .pointer (some ⟨b, 0, none⟩)] w fun e w' => e = .returned (.bool (decide (0 ≤ x.num) && decide (x.num < z))) ∧ Below w.heap.size w w' := by
  obtain ⟨A, m, c, rfl⟩ := hin.form
  obtain ⟨kd, nm, l⟩ := x
  simp only [T.kind, T.num] at hfit hz ⊢
  have hw1 : Below w.heap.size w (w.alloc (.cells #[.int .i64 kd, .int .i64 nm, .slice A m c] 44)) := (Below.refl _ _).alloc (Nat.le_refl _) _
  have h1 := h.next hw1
  have c0 := h1.box.cell 0
  have hlook := h1.map.look (k := kd) hfit.1
  rw [hz] at hlook
  clear hz
  have hbl := h.box.lt
  simp at c0
  by_cases h0 : 0 ≤ nm
  · by_cases hz : nm < z
    · have E1 : Hid ((decide (0 ≤ nm) && decide (nm < z)) = true) := Lib.hid (by simp [h0, hz])
      go_enter Tryd.func57, Tryd.ntmps57
      go_wp2_with fail
      go_ret
      exact ⟨ret_bool E1.out.symm, hw1⟩
    · go_enter Tryd.func57, Tryd.ntmps57
      go_wp2_with fail
      go_ret
      exact ⟨ret_bool (decide_eq_false (by omega)).symm, hw1⟩
  · have e1 : (decide (0 ≤ nm) && decide (nm < z)) = false := by simp [h0]
    have E1 := Lib.hid e1
    have g0 : decide (0 ≤ nm) = false := decide_eq_false h0
    clear e1 h0
    go_enter Tryd.func57, Tryd.ntmps57
    go_wp2_with fail
    go_ret
    exact ⟨ret_bool E1.out.symm, hw1⟩

/-- A body of one of a parameters, b functions, c symbols. -/
def bodyIn (a b c : Nat) (t : T) : Bool := decide (t.count ≤ 400) && (decide (t.deep ≤ 30) && t.exist a b c)
mutual
theorem T.fit_heads {P : T → Prop} (h : ∀ k n l, (T.mk k n l).fit → P (.mk k n l)) : ∀ {t : T}, t.fit → P t
  | .mk k n l, hf => h k n l hf
end
theorem T.fit_kind {t : T} (h : t.fit) : fit64 t.kind ∧ fit64 t.num := by
  obtain ⟨k, n, l⟩ := t
  simp only [T.fit] at h
  exact ⟨h.1, h.2.1⟩
theorem T.fit_args {k n : Int} {l : List T} (h : (T.mk k n l).fit) : T.fitL l := by
  simp only [T.fit] at h
  exact h.2.2

set_option maxRecDepth 100000 in
set_option maxHeartbeats 800000 in
theorem isBodyI_any (a b c : Nat) (bm n : Nat) (t : T) (v : Value) (w : World) (P : Nat → Prop) (hfit : t.fit) (hm : MapI w bm n (headsF a b c)) (hin : t.In w P v) (hold : Old P w) :
    Calls Tryd.prog 28 #[.agg #[.int .i64 t.kind, .int .i64 t.num, v], .map (some bm)] w fun e w' => e = .returned (.bool (bodyIn a b c t)) ∧ Below w.heap.size w w' := by
  obtain ⟨A, m, cc, rfl⟩ := hin.form
  have hw2 : Below w.heap.size w ((w.alloc (.cells #[.int .i64 t.kind, .int .i64 t.num, .slice A m cc] 44)).alloc (.cells #[.map (some bm)] 66)) := ((Below.refl _ _).alloc (Nat.le_refl _) _).alloc (by simp) _
  have hbT : Blk ((w.alloc (.cells #[.int .i64 t.kind, .int .i64 t.num, .slice A m cc] 44)).alloc (.cells #[.map (some bm)] 66)) w.heap.size 44 #[.int .i64 t.kind, .int .i64 t.num, .slice A m cc] := (Blk.new _ _ _).alloc _
  have hM2 : MBox bm (w.heap.size + 1) n (headsF a b c) ((w.alloc (.cells #[.int .i64 t.kind, .int .i64 t.num, .slice A m cc] 44)).alloc (.cells #[.map (some bm)] 66)) :=
    ⟨by simpa using Blk.new (w.alloc (.cells #[.int .i64 t.kind, .int .i64 t.num, .slice A m cc] 44)) 66 #[.map (some bm)], hm.below hw2⟩
  have hct := sizeT_any t (.slice A m cc) _ P (hin.old hold hw2) (hold.bel hw2)
  have hall : ∀ W, MBox bm (w.heap.size + 1) n (headsF a b c) W → t.In W P (.slice A m cc) → Old P W → t.count ≤ 400 → Calls Tryd.prog 55 #[.agg #[.int .i64 t.kind, .int .i64 t.num, .slice A m cc], .func (.func 56) #[] #[], .func (.func 57) #[] #[.pointer (some ⟨w.heap.size + 1, 0, none⟩)]] W fun e w' =>
      e = .returned (.bool (t.exist a b c)) ∧ Below W.heap.size W w' := by
    intro W hMW hinW holdW hc4
    refine (allI_any (σ := Unit) (step := stepIn (headsF a b c)) (I := fun _ W => MBox bm (w.heap.size + 1) n (headsF a b c) W) (M := fun _ => False) (ok := fun _ x lvl => x.fit ∧ lvl + x.deep ≤ 100000) (P := P)
      (fun _ _ _ h hb => h.next hb) (fun _ _ _ _ h => h.elim) Tryd.call57 (fun _ _ h => h) ?_ ?_ t _ W () ⟨hfit, by have := T.deep_le t; omega⟩ hMW hinW holdW).mono ?_
    · rintro st k n l lvl ⟨h1, h2⟩
      simp only [T.deep] at h2
      refine ⟨by omega, fun _ j x hx _ => ⟨T.fitL_at (T.fit_args h1) hx, ?_⟩⟩
      have h3 := T.deepL_take_succ l j x hx
      have h4 := T.deepL_take_le l (j + 1)
      omega
    · rintro st x v lvl W' ⟨h1, _⟩ hI hinx _
      exact (body1_any _ bm _ n x v W' P (T.fit_kind h1) hI hinx _ rfl).mono fun e w' ⟨he, hb⟩ => ⟨he, hI.next hb, Saves.of_below hb⟩
    · rintro e w' ⟨rfl, _, hs⟩
      exact ⟨by rw [visitT_in], hs.below (Nat.le_refl _) (fun _ _ h => h)⟩
  have HAL := Lib.hid hall
  have hbb := hM2.box.lt
  by_cases h4 : t.count ≤ 400
  · have hs : t.sizes = (t.count, t.deep) := by simp [T.sizes]; omega
    rw [hs] at hct
    by_cases h3 : t.deep ≤ 30
    · have HE : Hid (bodyIn a b c t = t.exist a b c) := Lib.hid (by simp [bodyIn, h4, h3])
      have HC := Lib.hid hct
      have HIN := Lib.hid (hin.old hold hw2)
      have HOL := Lib.hid (hold.bel hw2)
      have H4 := Lib.hid h4
      have g4 : (t.count : Int) ≤ 400 := by omega
      have g3 : (t.deep : Int) ≤ 30 := by omega
      have d0 := hbT.cell 0
      have d1 := hbT.cell 1
      have d2 := hbT.cell 2
      simp at d0 d1 d2
      generalize t.exist a b c = z at *
      clear hct hall h4 h3 hs
      go_enter Tryd.func28, Tryd.ntmps28
      go_wp2_with fail
      refine HC.out.mono ?_
      rintro e w1 ⟨rfl, hb1⟩
      have hbT1 := hbT.below hb1 hbT.lt
      have e0 := hbT1.cell 0
      have e1 := hbT1.cell 1
      have e2 := hbT1.cell 2
      simp at e0 e1 e2
      clear d0 d1 d2
      have HC2 := Lib.hid (HAL.out w1 (hM2.next hb1) (HIN.out.old HOL.out hb1) (HOL.out.bel hb1) H4.out)
      have hz1 := hb1.size
      simp only [World.size_alloc] at hb1 hz1
      go_wp2_with fail
      refine HC2.out.mono ?_
      rintro e w2 ⟨rfl, hb2⟩
      go_wp2_with fail
      go_ret
      exact ⟨ret_bool HE.out.symm, (hw2.trans (hb1.mono (by omega))).trans (hb2.mono (by omega))⟩
    · have HE : Hid (bodyIn a b c t = false) := Lib.hid (by simp [bodyIn, h3])
      have HC := Lib.hid hct
      have g4 : (t.count : Int) ≤ 400 := by omega
      have g3 : ¬ (t.deep : Int) ≤ 30 := by omega
      have d0 := hbT.cell 0
      have d1 := hbT.cell 1
      have d2 := hbT.cell 2
      simp at d0 d1 d2
      clear hct hall h4 h3 hs
      go_enter Tryd.func28, Tryd.ntmps28
      go_wp2_with fail
      refine HC.out.mono ?_
      rintro e w1 ⟨rfl, hb1⟩
      simp only [World.size_alloc] at hb1
      go_wp2_with fail
      go_ret
      exact ⟨ret_bool HE.out.symm, hw2.trans (hb1.mono (by omega))⟩
  · have HE : Hid (bodyIn a b c t = false) := Lib.hid (by simp [bodyIn, h4])
    have hbig : ∃ m : Nat, t.sizes.1 = m ∧ 400 < m := by
      refine ⟨_, rfl, ?_⟩
      unfold T.sizes
      split <;> simp <;> omega
    obtain ⟨m', hm', hmm⟩ := hbig
    rw [hm'] at hct
    have HC := Lib.hid hct
    have g4 : ¬ (m' : Int) ≤ 400 := by omega
    have d0 := hbT.cell 0
    have d1 := hbT.cell 1
    have d2 := hbT.cell 2
    simp at d0 d1 d2
    generalize (t.sizes.2 : Int) = z2 at *
    clear hct hall h4 hm'
    go_enter Tryd.func28, Tryd.ntmps28
    go_wp2_with fail
    refine HC.out.mono ?_
    rintro e w1 ⟨rfl, hb1⟩
    simp only [World.size_alloc] at hb1
    go_wp2_with fail
    go_ret
    exact ⟨ret_bool HE.out.symm, hw2.trans (hb1.mono (by omega))⟩
end Go.Proofs.YtkkfdiidneoelaaDoor
