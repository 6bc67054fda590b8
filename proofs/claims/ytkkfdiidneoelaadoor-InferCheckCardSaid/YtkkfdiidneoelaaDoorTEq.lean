/-
  Equality of terms: term.equal, slices.EqualFunc, term.Same, and the reference's Equal and Same.
-/
import Derived.Test.YtkkfdiidneoelaaDoorTSize
import Derived.Deep.RegionWith
import Derived.Deep.RegionHeld3
namespace Go.Proofs.YtkkfdiidneoelaaDoor
open Go.RowKit

mutual
def T.eqb : T → T → Bool
  | .mk a b l, .mk c d m => decide (a = c) && (decide (b = d) && T.eqL l m)
def T.eqL : List T → List T → Bool
  | [], [] => true
  | x :: r, y :: t => x.eqb y && T.eqL r t
  | _, _ => false
end
mutual
theorem T.eqb_iff : ∀ s t : T, s.eqb t = true ↔ s = t
  | .mk a b l, .mk c d m => by simp only [T.eqb, T.mk.injEq, Bool.and_eq_true, decide_eq_true_eq]; rw [T.eqL_iff l m]
theorem T.eqL_iff : ∀ l m : List T, T.eqL l m = true ↔ l = m
  | [], [] => by simp [T.eqL]
  | x :: r, [] => by simp [T.eqL]
  | [], y :: t => by simp [T.eqL]
  | x :: r, y :: t => by simp only [T.eqL, Bool.and_eq_true, List.cons.injEq, T.eqb_iff x y, T.eqL_iff r t]
end
theorem T.eqL_len (l m : List T) (h : l.length ≠ m.length) : T.eqL l m = false := by
  rw [Bool.eq_false_iff]; intro hh; exact h (congrArg List.length ((T.eqL_iff l m).1 hh))
theorem T.eqL_take_succ (l m : List T) (k : Nat) (x y : T) (hx : l[k]? = some x) (hy : m[k]? = some y) (h : T.eqL (l.take k) (m.take k) = true) :
    T.eqL (l.take (k + 1)) (m.take (k + 1)) = x.eqb y := by
  have e := (T.eqL_iff _ _).1 h
  rw [Bool.eq_iff_iff, T.eqL_iff, T.eqb_iff, List.take_add_one, List.take_add_one, hx, hy, e]
  simp
theorem T.eqL_false (l m : List T) (k : Nat) (x y : T) (hx : l[k]? = some x) (hy : m[k]? = some y) (h : x.eqb y = false) : T.eqL l m = false := by
  rw [Bool.eq_false_iff]; intro hh
  have e := (T.eqL_iff _ _).1 hh
  subst e
  rw [hx] at hy
  have hxy : x = y := by simpa using hy
  rw [(T.eqb_iff x y).2 hxy] at h
  cases h

set_option maxHeartbeats 1600000 in
theorem refEqualT_any (K : Nat) : ∀ (s t : T) (v u : Value) (w : World) (P Q : Nat → Prop), s.count ≤ K → s.In w P v → Old P w → t.In w Q u → Old Q w →
    Calls Tryd.prog 23 #[.agg #[.int .i64 s.kind, .int .i64 s.num, v], .agg #[.int .i64 t.kind, .int .i64 t.num, u]] w fun e w' => e = .returned (.bool (s.eqb t)) ∧ Below w.heap.size w w' := by
  induction K with
  | zero => intro s; have := s.count_pos; omega
  | succ K ih =>
    intro s t v u w P Q hK hin hold hin2 hold2
    obtain ⟨kd, nm, l⟩ := s
    obtain ⟨kd2, nm2, m⟩ := t
    simp only [T.In] at hin hin2
    obtain ⟨A, _, c, us, rfl, rfl, hnc, hc, hrd, hrow⟩ := hin
    obtain ⟨A2, n2, c2, us2, rfl, hm2, hnc2, hc2, hrd2, hrow2⟩ := hin2
    simp only [T.kind, T.num]
    have Hih := Lib.hid ih
    clear ih
    by_cases h1 : kd = kd2
    · by_cases h2 : nm = nm2
      · subst h1 h2
        by_cases hlen : l.length = n2
        · subst hlen
          have HM0 := Lib.hid hm2
          clear hm2
          have HF0 : Hid ((T.mk kd nm l).eqb (T.mk kd nm m) = T.eqL l m) := Lib.hid (by simp [T.eqb])
          go_enter Tryd.func23, Tryd.ntmps23
          go_wp2_with fail
          go_loopw [30] (fun i wr => ∃ k : Nat, k ≤ l.length ∧ i = .int .i64 k ∧ Hid (T.eqL (l.take k) (m.take k) = true) ∧ Blk wr w.heap.size 44 #[.int .i64 kd, .int .i64 nm, .slice A l.length c] ∧ Blk wr (w.heap.size + 1) 44 #[.int .i64 kd, .int .i64 nm, .slice A2 l.length c2] ∧ Below w.heap.size w wr) (fun i _ => l.length - (intOf i).toNat)
          case atStart => exact ⟨0, Nat.zero_le _, rfl, Lib.hid (by simp [T.eqL]), (Blk.new _ _ _).alloc _, by simpa using Blk.new (w.alloc (.cells #[.int .i64 kd, .int .i64 nm, .slice A l.length c] 44)) 44 #[.int .i64 kd, .int .i64 nm, .slice A2 l.length c2], ((Below.refl _ _).alloc (Nat.le_refl _) _).alloc (by simp) _⟩
          case round =>
            obtain ⟨k, hk, rfl, hf, hb1, hb2, hbel⟩ := hrel
            have hsz := hb2.lt
            have hd2 := hb1.cell 2
            have hd5 := hb2.cell 2
            by_cases hlt : k < l.length
            · have hx : l[k]? = some l[k] := List.getElem?_eq_getElem hlt
              have hlt2 : k < m.length := by have := HM0.out; omega
              have hy : m[k]? = some m[k] := List.getElem?_eq_getElem hlt2
              have hcl := T.count_lt (a := kd) (b := nm) hx
              obtain ⟨ad, u, rfl, hP, hel, hinx⟩ := T.In.el hrd hrow hx
              obtain ⟨ad2, u2, rfl, hQ, hel2, hinx2⟩ := T.In.el hrd2 hrow2 hy
              obtain ⟨r0, r1, r2⟩ := hel.keep (hbel.block _ (hold _ hP))
              obtain ⟨q0, q1, q2⟩ := hel2.keep (hbel.block _ (hold2 _ hQ))
              have hbA := hold _ hP
              have hbQ := hold2 _ hQ
              have hct := Hih.out l[k] m[k] u u2 wr.drew P Q (by omega) (hinx.old hold hbel.drew) (hold.bel hbel.drew) (hinx2.old hold2 hbel.drew) (hold2.bel hbel.drew)
              have hsucc := T.eqL_take_succ l m k _ _ hx hy hf.out
              have hfalse := T.eqL_false l m k _ _ hx hy
              generalize l[k] = x at *
              generalize m[k] = y at *
              cases hb : x.eqb y with
              | true =>
                have hrel' : Hid (T.eqL (l.take (k + 1)) (m.take (k + 1)) = true) := Lib.hid (hsucc.trans hb)
                rw [hb] at hct
                have HC := Lib.hid hct
                clear hx hy hel hel2 hsucc hfalse hct hb
                go_wp2_with fail
                go_region_held3 (fun w' => w'.cell? ⟨w.heap.size, 2, none⟩ = some (.slice (some ad) l.length c) ∧ w'.cell? ⟨w.heap.size + 1, 2, none⟩ = some (.slice (some ad2) l.length c2) ∧ w'.cell? (ad.add (k * 3)) = some (.int .i64 x.kind) ∧ w'.cell? ⟨(ad.add (k * 3)).block, (ad.add (k * 3)).off + 1, none⟩ = some (.int .i64 x.num) ∧ w'.cell? ⟨(ad.add (k * 3)).block, (ad.add (k * 3)).off + 2, none⟩ = some u ∧ w'.cell? (ad2.add (k * 3)) = some (.int .i64 y.kind) ∧ w'.cell? ⟨(ad2.add (k * 3)).block, (ad2.add (k * 3)).off + 1, none⟩ = some (.int .i64 y.num) ∧ w'.cell? ⟨(ad2.add (k * 3)).block, (ad2.add (k * 3)).off + 2, none⟩ = some u2) (first | go_keep | assumption)
                  (first
                    | (go_at_call 23
                       refine HC.out.mono ?_
                       rintro e w1 ⟨rfl, hw1⟩
                       have QK : ∀ (p : Addr) (z : Value), p.block < wr.heap.size → wr.cell? p = some z → w1.cell? p = some z := fun p z hp h => (hw1.cell hp).trans h
                       have Q := And.intro (QK _ _ (by simp; omega) hd2) (And.intro (QK _ _ (by simp; omega) hd5) (And.intro (QK _ _ (by rw [block_of_add]; omega) r0) (And.intro (QK _ _ (by simp only [block_of_add]; omega) r1) (And.intro (QK _ _ (by simp only [block_of_add]; omega) r2) (And.intro (QK _ _ (by rw [block_of_add]; omega) q0) (And.intro (QK _ _ (by simp only [block_of_add]; omega) q1) (QK _ _ (by simp only [block_of_add]; omega) q2)))))))
                       clear QK))
                all_goals
                  replace hw1 : Below wr.heap.size wr.drew w1 := hw1
                  go_wp2_with fail
                  go_roundw
                  case rel => exact ⟨k + 1, by omega, by go_num, hrel', hb1.drew.below hw1 (by omega), hb2.drew.below hw1 (by omega), hbel.drew.trans (hw1.mono (by omega))⟩
                  case measure => simp [intOf]; omega
              | false =>
                have HF := Lib.hid (hfalse hb)
                rw [hb] at hct
                have HC := Lib.hid hct
                clear hx hy hel hel2 hsucc hfalse hct hb
                go_wp2_with fail
                go_region_held3 (fun w' => w'.cell? ⟨w.heap.size, 2, none⟩ = some (.slice (some ad) l.length c) ∧ w'.cell? ⟨w.heap.size + 1, 2, none⟩ = some (.slice (some ad2) l.length c2) ∧ w'.cell? (ad.add (k * 3)) = some (.int .i64 x.kind) ∧ w'.cell? ⟨(ad.add (k * 3)).block, (ad.add (k * 3)).off + 1, none⟩ = some (.int .i64 x.num) ∧ w'.cell? ⟨(ad.add (k * 3)).block, (ad.add (k * 3)).off + 2, none⟩ = some u ∧ w'.cell? (ad2.add (k * 3)) = some (.int .i64 y.kind) ∧ w'.cell? ⟨(ad2.add (k * 3)).block, (ad2.add (k * 3)).off + 1, none⟩ = some (.int .i64 y.num) ∧ w'.cell? ⟨(ad2.add (k * 3)).block, (ad2.add (k * 3)).off + 2, none⟩ = some u2) (first | go_keep | assumption)
                  (first
                    | (go_at_call 23
                       refine HC.out.mono ?_
                       rintro e w1 ⟨rfl, hw1⟩
                       have QK : ∀ (p : Addr) (z : Value), p.block < wr.heap.size → wr.cell? p = some z → w1.cell? p = some z := fun p z hp h => (hw1.cell hp).trans h
                       have Q := And.intro (QK _ _ (by simp; omega) hd2) (And.intro (QK _ _ (by simp; omega) hd5) (And.intro (QK _ _ (by rw [block_of_add]; omega) r0) (And.intro (QK _ _ (by simp only [block_of_add]; omega) r1) (And.intro (QK _ _ (by simp only [block_of_add]; omega) r2) (And.intro (QK _ _ (by rw [block_of_add]; omega) q0) (And.intro (QK _ _ (by simp only [block_of_add]; omega) q1) (QK _ _ (by simp only [block_of_add]; omega) q2)))))))
                       clear QK))
                all_goals
                  replace hw1 : Below wr.heap.size wr.drew w1 := hw1
                  go_wp2_with fail
                  go_ret
                  exact ⟨ret_bool (by rw [HF0.out]; exact HF.out.symm), hbel.drew.trans (hw1.mono (by omega))⟩
            · have h1 : l.take k = l := List.take_of_length_le (by omega)
              have h2 : m.take k = m := List.take_of_length_le (by have := HM0.out; omega)
              rw [h1, h2] at hf
              clear h1 h2
              go_wp2_with fail
              go_ret
              exact ⟨ret_bool (by rw [HF0.out]; exact hf.out.symm), hbel⟩
        · have hF : (T.mk kd nm l).eqb (T.mk kd nm m) = false := by simp [T.eqb]; exact T.eqL_len l m (by omega)
          have HF := Lib.hid hF
          clear hF hm2
          go_enter Tryd.func23, Tryd.ntmps23
          go_wp2_with fail
          go_ret
          exact ⟨ret_bool HF.out.symm, ((Below.refl _ _).alloc (Nat.le_refl _) _).alloc (by simp) _⟩
      · have HF : Hid ((T.mk kd nm l).eqb (T.mk kd2 nm2 m) = false) := Lib.hid (by simp [T.eqb, h2])
        have h2' : (nm == nm2) = false := by simpa using h2
        have h2n : (nm != nm2) = true := by simpa using h2
        subst h1
        clear hm2
        go_enter Tryd.func23, Tryd.ntmps23
        go_wp2_with fail
        go_ret
        exact ⟨ret_bool HF.out.symm, ((Below.refl _ _).alloc (Nat.le_refl _) _).alloc (by simp) _⟩
    · have HF : Hid ((T.mk kd nm l).eqb (T.mk kd2 nm2 m) = false) := Lib.hid (by simp [T.eqb, h1])
      have h1' : (kd == kd2) = false := by simpa using h1
      have h1n : (kd != kd2) = true := by simpa using h1
      clear hm2
      go_enter Tryd.func23, Tryd.ntmps23
      go_wp2_with fail
      go_ret
      exact ⟨ret_bool HF.out.symm, ((Below.refl _ _).alloc (Nat.le_refl _) _).alloc (by simp) _⟩

/-- Two terms and their boxes, kept. -/
structure Pair (s t : T) (v u : Value) (P Q : Nat → Prop) (B : Nat) (w0 w : World) : Prop where
  b1 : Blk w B 44 #[.int .i64 s.kind, .int .i64 s.num, v]
  b2 : Blk w (B + 1) 44 #[.int .i64 t.kind, .int .i64 t.num, u]
  i1 : s.In w P v
  i2 : t.In w Q u
  o1 : Old P w
  o2 : Old Q w
  bel : Below B w0 w
theorem Pair.next {s t : T} {v u : Value} {P Q : Nat → Prop} {B : Nat} {w0 w w' : World} (h : Pair s t v u P Q B w0 w) (hb : Below w.heap.size w w') : Pair s t v u P Q B w0 w' :=
  ⟨h.b1.below hb h.b1.lt, h.b2.below hb h.b2.lt, h.i1.old h.o1 hb, h.i2.old h.o2 hb, h.o1.bel hb, h.o2.bel hb, h.bel.trans (hb.mono (by have := h.b1.lt; omega))⟩
theorem Pair.start {s t : T} {v u : Value} {P Q : Nat → Prop} {w : World} (h1 : s.In w P v) (o1 : Old P w) (h2 : t.In w Q u) (o2 : Old Q w) :
    Pair s t v u P Q w.heap.size w ((w.alloc (.cells #[.int .i64 s.kind, .int .i64 s.num, v] 44)).alloc (.cells #[.int .i64 t.kind, .int .i64 t.num, u] 44)) := by
  have hw2 : Below w.heap.size w ((w.alloc (.cells #[.int .i64 s.kind, .int .i64 s.num, v] 44)).alloc (.cells #[.int .i64 t.kind, .int .i64 t.num, u] 44)) := ((Below.refl _ _).alloc (Nat.le_refl _) _).alloc (by simp) _
  exact ⟨(Blk.new _ _ _).alloc _, by simpa using Blk.new (w.alloc (.cells #[.int .i64 s.kind, .int .i64 s.num, v] 44)) 44 #[.int .i64 t.kind, .int .i64 t.num, u], h1.old o1 hw2, h2.old o2 hw2, o1.bel hw2, o2.bel hw2, hw2⟩

set_option maxHeartbeats 400000 in
theorem refSameT_any (s t : T) (v u : Value) (w : World) (P Q : Nat → Prop) (hin : s.In w P v) (hold : Old P w) (hin2 : t.In w Q u) (hold2 : Old Q w) :
    Calls Tryd.prog 20 #[.agg #[.int .i64 s.kind, .int .i64 s.num, v], .agg #[.int .i64 t.kind, .int .i64 t.num, u]] w fun e w' => e = .returned (.bool (!s.large && (!t.large && s.eqb t))) ∧ Below w.heap.size w w' := by
  have hk0 := Pair.start hin hold hin2 hold2
  obtain ⟨A1, n1, c1, rfl⟩ := hin.form
  obtain ⟨A3, n3, c3, rfl⟩ := hin2.form
  have HC := Lib.hid (large_any s _ _ P hk0.i1 hk0.o1)
  cases hg : s.large with
  | true =>
    rw [hg] at HC
    have hw2 := hk0.bel
    clear hg hk0
    simp only [Bool.not_true, Bool.false_and]
    go_enter Tryd.func20, Tryd.ntmps20
    go_wp2_with fail
    refine HC.out.mono ?_
    rintro e w1 ⟨rfl, hb1⟩
    simp only [World.size_alloc] at hb1
    go_wp2_with fail
    go_ret
    exact ⟨rfl, hw2.trans (hb1.mono (by omega))⟩
  | false =>
    rw [hg] at HC
    clear hg
    simp only [Bool.not_false, Bool.true_and]
    go_enter Tryd.func20, Tryd.ntmps20
    go_wp2_with fail
    refine HC.out.mono ?_
    rintro e w1 ⟨rfl, hb1⟩
    have hk1 := hk0.next hb1
    clear hk0
    have d0 := hk1.b1.cell 0
    have d1 := hk1.b1.cell 1
    have d2 := hk1.b1.cell 2
    have d3 := hk1.b2.cell 0
    have d4 := hk1.b2.cell 1
    have d5 := hk1.b2.cell 2
    have HL := Lib.hid (large_any t _ _ Q hk1.i2 hk1.o2)
    cases hg2 : t.large with
    | true =>
      rw [hg2] at HL
      have HG := Lib.hid hg2
      clear hg2
      go_wp2_with fail
      refine HL.out.mono ?_
      rintro e w2 ⟨rfl, hb2⟩
      go_wp2_with fail
      go_ret
      exact ⟨ret_bool (by rw [HG.out]; rfl), (hk1.next hb2).bel⟩
    | false =>
      rw [hg2] at HL
      have HG := Lib.hid hg2
      clear hg2
      go_wp2_with fail
      refine HL.out.mono ?_
      rintro e w2 ⟨rfl, hb2⟩
      have hk2 := hk1.next hb2
      clear hk1 d0 d1 d2 d3 d4 d5
      have d0 := hk2.b1.cell 0
      have d1 := hk2.b1.cell 1
      have d2 := hk2.b1.cell 2
      have d3 := hk2.b2.cell 0
      have d4 := hk2.b2.cell 1
      have d5 := hk2.b2.cell 2
      go_wp2_with fail
      refine (refEqualT_any _ s t _ _ _ P Q (Nat.le_refl _) hk2.i1 hk2.o1 hk2.i2 hk2.o2).mono ?_
      rintro e w3 ⟨rfl, hw3⟩
      go_wp2_with fail
      go_ret
      exact ⟨ret_bool (by rw [HG.out]; rfl), (hk2.next hw3).bel⟩
end Go.Proofs.YtkkfdiidneoelaaDoor
