/-
  TermSelf: the substitution of the variables 0, 1, .., for every term that can be read, and the example comes out.
-/
import Derived.Test.YtmggccgjhjknpaaTLawFree
import Derived.Test.YtmggccgjhjknpaaTTwice
namespace Go.Proofs.Ytmggccgjhjknpaa
open Go.RowKit

/-- The first variables. -/
def firsts (k : Nat) : List T := (List.range k).map fun i : Nat => T.mk 0 ((i : Nat) : Int) []
theorem firsts_succ (k : Nat) : firsts (k + 1) = firsts k ++ [.mk 0 (k : Int) []] := by simp [firsts, List.range_succ]
theorem firsts_length (k : Nat) : (firsts k).length = k := by simp [firsts]
theorem firsts_at {k i : Nat} {x : T} (h : (firsts k)[i]? = some x) : x = .mk 0 (i : Int) [] := by
  unfold firsts at h
  rw [List.getElem?_map] at h
  by_cases hi : i < k
  · rw [List.getElem?_range hi] at h
    simp at h
    exact h.symm
  · rw [List.getElem?_eq_none (by simp; omega)] at h
    cases h
theorem up_last {l : List Int} (h : l.Pairwise (· < ·)) (h0 : 0 < l.length) {x : Int} (hx : x ∈ l) : x ≤ l[l.length - 1] := by
  obtain ⟨j, hj, rfl⟩ := List.getElem_of_mem hx
  rcases Nat.lt_or_ge j (l.length - 1) with h1 | h1
  · have := List.pairwise_iff_getElem.1 h j (l.length - 1) hj (by omega) h1
    omega
  · have e : j = l.length - 1 := by omega
    subst e
    exact Int.le_refl _
/-- A term whose variables are below 1000 is its own substitution. -/
theorem self_ok {t : T} (hE : t.freeE = 0) (hlt : ∀ x ∈ t.vars [], x < 1000) : T.substE (firsts 1000) t = 0 ∧ T.substT (firsts 1000) t = t ∧ t.large = false := by
  have hl : t.large = false := by
    cases h : t.large with
    | false => rfl
    | true => simp [T.freeE, h] at hE
  have hn : ((t.vars []).all fun x => decide (0 ≤ x)) = true := by
    cases h : ((t.vars []).all fun x => decide (0 ≤ x)) with
    | true => rfl
    | false => unfold T.freeE at hE; rw [hl, h] at hE; simp at hE
  have hc : t.cov (firsts 1000).length = true := by
    rw [T.cov_vars, List.all_eq_true]
    intro x hx
    have h1 := List.all_eq_true.1 hn x hx
    have h2 := hlt x hx
    rw [firsts_length]
    simp only [decide_eq_true_eq] at h1
    rw [decide_eq_true h1, decide_eq_true (show x < ((1000 : Nat) : Int) by omega)]
    rfl
  have hs := sub_self (firsts 1000) (fun i x h => firsts_at h) t hc
  have hg : (firsts 1000).any T.large = false := by
    rw [List.any_eq_false]
    intro x hx
    obtain ⟨i, hi⟩ := List.getElem?_of_mem hx
    rw [firsts_at hi]
    simp [T.large, T.count, T.countL]
  have hE0 := T.substE_ok hg hl hc (by rw [hs]; exact not_large hl)
  exact ⟨hE0, by rw [T.substT, if_pos hE0, hs], hl⟩

/-- A term in its box, all below M, kept. -/
structure LV (t : T) (v : Value) (P : Nat → Prop) (B : Nat) (w0 : World) (M : Nat) (w : World) : Prop where
  bT : Blk w B 35 #[.int .i64 t.kind, .int .i64 t.num, v]
  iT : t.In w P v
  oT : ∀ b, P b → b < M
  hB : B < M
  hM : M ≤ w.heap.size
  bel : Below B w0 w
theorem LV.next {t : T} {v : Value} {P : Nat → Prop} {B : Nat} {w0 : World} {M : Nat} {w w' : World} (h : LV t v P B w0 M w) (hb : Below M w w') : LV t v P B w0 M w' :=
  ⟨h.bT.below hb h.hB, h.iT.below hb h.oT, h.oT, h.hB, Nat.le_trans h.hM hb.size, h.bel.trans (hb.mono (Nat.le_of_lt h.hB))⟩
theorem LV.nx {t : T} {v : Value} {P : Nat → Prop} {B : Nat} {w0 : World} {M : Nat} {w w' : World} (h : LV t v P B w0 M w) (hb : Below w.heap.size w w') : LV t v P B w0 M w' := h.next (hb.mono h.hM)
theorem LV.of {t : T} {v : Value} {P : Nat → Prop} {B : Nat} {w0 w : World} (h : L1 t v P B w0 w) : LV t v P B w0 w.heap.size w := ⟨h.bT, h.iT, h.oT, h.bT.lt, Nat.le_refl _, h.bel⟩
theorem LV.three {t : T} {v : Value} {P : Nat → Prop} {B : Nat} {w0 : World} {M : Nat} {w : World} (h : LV t v P B w0 M w) : w.cell? ⟨B, 0, none⟩ = some (.int .i64 t.kind) ∧ w.cell? ⟨B, 1, none⟩ = some (.int .i64 t.num) ∧ w.cell? ⟨B, 2, none⟩ = some v := by
  have a0 := h.bT.cell 0
  have a1 := h.bT.cell 1
  have a2 := h.bT.cell 2
  simp at a0 a1 a2
  exact ⟨a0, a1, a2⟩
/-- What the loop over the numbers holds. -/
def Fst (t : T) (v : Value) (P : Nat → Prop) (B : Nat) (w0 : World) (M : Nat) (z i : Value) (w : World) : Prop :=
  ∃ (k : Nat) (us : List Value), k ≤ 1000 ∧ i = .int .i64 k ∧ Mk M w (firsts k) z us ∧ LV t v P B w0 M w

set_option maxRecDepth 100000 in
set_option maxHeartbeats 3200000 in
theorem lawSelfT_any (t : T) (v : Value) (w : World) (P : Nat → Prop) (hwf : t.wf) (hin : t.In w P v) (hold : Old P w) :
    Calls Try.prog 11 #[.agg #[.int .i64 t.kind, .int .i64 t.num, v]] w fun e w' => e = .returned (.bool true) ∧ Below w.heap.size w w' := by
  obtain ⟨i0, hi0, hz0, hz1, hz2⟩ := info_parts term_info
  have HZ1 := Lib.hid hz1
  have HZ2 := Lib.hid hz2
  clear hz1 hz2
  have k0 := L1.start hin hold
  have HX := Lib.hid (free_any t v _ P k0.iT k0.oT hwf)
  obtain ⟨A, n, c, rfl⟩ := hin.form
  have HA := Lib.hid aliveT_any
  obtain ⟨x0, x1, x2⟩ := k0.three
  clear hin
  by_cases hE : t.freeE = 0
  · have hF : t.freeL = t.vars [] := by simp [T.freeL, hE]
    have hlen := t.vars_length []
    have HUP := Lib.hid t.vars_up
    have HOK := Lib.hid (self_ok hE)
    rw [hE, hF] at HX
    have hlg : t.large = false := by
      cases h : t.large with
      | false => rfl
      | true => simp [T.freeE, h] at hE
    have htc := not_large hlg
    generalize hvl : t.vars [] = vl at *
    simp at hlen
    clear hE hF hvl hlg
    by_cases hbig : ∃ x ∈ vl, 1000 ≤ x
    · have h0 : 0 < vl.length := by
        obtain ⟨x, hx, _⟩ := hbig
        exact List.length_pos_of_mem hx
      have hlast : 1000 ≤ vl[vl.length - 1] := by
        obtain ⟨x, hx, h1⟩ := hbig
        have := up_last HUP.out h0 hx
        omega
      have hx : vl[vl.length - 1]? = some vl[vl.length - 1] := List.getElem?_eq_getElem (by omega)
      generalize vl[vl.length - 1] = xl at *
      have HXL := Lib.hid hx
      clear hx hbig
      go_enter Try.func11, Try.ntmps11
      go_wp2_with fail
      refine HX.out.mono ?_
      rintro e w1 ⟨u, rfl, hz1, b1⟩
      have k1 := k0.next b1
      obtain ⟨A1, c1, rfl, _, _⟩ := hz1.form
      obtain ⟨g, rfl, hg, r0⟩ := hz1.cell HXL.out
      clear hz1 b1 k0 x0 x1 x2 HX
      go_wp2_with fail
      refine (HA.out _).mono ?_
      rintro e w2 ⟨rfl, b2⟩
      have k2 := k1.next b2
      go_wp2_with fail
      go_ret
      exact ⟨rfl, k2.bel⟩
    · have HBIG := Lib.hid hbig
      by_cases h0 : 0 < vl.length
      · have hlast : vl[vl.length - 1] < 1000 := by
          rcases Int.lt_or_le vl[vl.length - 1] 1000 with h | h
          · exact h
          · exact absurd ⟨_, List.getElem_mem (by omega), h⟩ hbig
        have hx : vl[vl.length - 1]? = some vl[vl.length - 1] := List.getElem?_eq_getElem (by omega)
        generalize vl[vl.length - 1] = xl at *
        have HXL := Lib.hid hx
        clear hx hbig
        go_enter Try.func11, Try.ntmps11
        go_wp2_with fail
        refine HX.out.mono ?_
        rintro e w1 ⟨u, rfl, hz1, b1⟩
        have k1 := k0.next b1
        obtain ⟨A1, c1, rfl, _, _⟩ := hz1.form
        obtain ⟨g, rfl, hg, r0⟩ := hz1.cell HXL.out
        clear hz1 b1 k0 x0 x1 x2 HX
        go_wp2_with fail
        go_loopw [5, 31] (fun z i wr => Fst t (.slice A n c) P w.heap.size w w1.heap.size z i wr) (fun _ i _ => 1000 - (intOf i).toNat)
        case atStart => exact ⟨0, [], Nat.zero_le _, rfl, by simpa [firsts] using Mk.nil _ _, LV.of k1⟩
        case round =>
          obtain ⟨k, us, hk, rfl, hmk, kv⟩ := hrel
          have hzr := kv.hM
          have hkl := firsts_length k
          obtain ⟨A2, c2, hv⟩ := hmk.form
          rw [hkl] at hv
          subst hv
          by_cases hlt : k < 1000
          · have HSN := Lib.hid (firsts_succ k)
            have hown : wr.ownsRow w1.heap.size 35 3 (.slice A2 k c2) k us := by have := hmk.own; rwa [hkl] at this
            have hvb : ∀ b, (Value.slice A2 k c2).ownBlock = some b → w1.heap.size ≤ b ∧ b < wr.heap.size := fun b hb => hmk.lt hb
            have HKL := Lib.hid hkl
            have HVAR := Lib.hid (variable_any (k : Int) none 0 0 wr)
            clear hkl
            go_wp2_with fail
            refine HVAR.out.mono ?_
            rintro e w2 ⟨rfl, hb2⟩
            have hown2 : w2.ownsRow w1.heap.size 35 3 (.slice A2 k c2) k us := owns_kept3 hown (fun b hb => hb2.block b (hvb b hb).2)
            have hz2 := hb2.size
            go_wp2_with
              (at_builtin
               refine wpList_append_lies _ rfl _ _ _ rfl w1.heap.size 35 i0 _ 3 40 Try.underlying33 hi0 hz0 HZ1.out HZ2.out rfl (by omega) (.slice A2 k c2) k us (by rfl) (hown2.alloc _)
                 ⟨w2.heap.size, 0, none⟩ 1 1 [.int .i64 0, .int .i64 (k : Int), .slice none 0 0] (by rfl) (by rfl) (World.news_of_block (cs := #[.int .i64 0, .int .i64 (k : Int), .slice none 0 0]) (t := 35) (fr := (0, 0)) (heap_alloc_new w2 _)) (hones _ _ _ rfl) (by omega) (by simp only [maxLen]; omega) (by omega) (by simp; omega) (w2.heap.size + 1) (by simp) ?_
               intro gg cap2 w3 hown3 hgrow hat3 hlt3)
            go_roundw
            case rel =>
              refine ⟨k + 1, us ++ [.int .i64 0, .int .i64 (k : Int), .slice none 0 0], by omega, by go_num, ?_, ?_⟩
              · rw [HSN.out]
                have hy : (T.mk 0 (k : Int) []).In w2 (fun b => wr.heap.size ≤ b ∧ b < w2.heap.size) (.slice none 0 0) := T.In.mk_ rfl (Nat.le_refl _) (by omega) (.inl rfl) (by simp [T.Row])
                have := hmk.push hzr (w1 := w2) (fun b hb => hb2.block b hb) hz2 hy (o1 := .cells #[.int .i64 0, .int .i64 (k : Int), .slice none 0 0] 35) (g := gg) (cap := cap2) (w2 := w3) (by rw [HKL.out]; exact hown3) hgrow hat3
                rw [HKL.out] at this
                exact this
              · exact kv.next (((hb2.mono hzr).alloc (by omega) _).grown hgrow (by simp; omega) (fun b hb => (hvb b hb).1))
            case measure => simp [intOf]; omega
          · have hkk : k = 1000 := by omega
            subst hkk
            obtain ⟨hE0, hT0, hlg⟩ := HOK.out (fun x hx => by
              rcases Int.lt_or_le x 1000 with h | h
              · exact h
              · exact absurd ⟨x, hx, h⟩ HBIG.out)
            have HSUB := Lib.hid (subst_any (firsts 1000) t (.slice A n c) (.slice A2 1000 c2) wr P _ kv.iT (fun b hb => Nat.lt_of_lt_of_le (kv.oT b hb) hzr) hmk.in_ (fun b hb => hb.2) (by rw [hkl]; omega))
            rw [hE0, hT0] at HSUB
            have HLGX := Lib.hid hlg
            obtain ⟨x0, x1, x2⟩ := kv.three
            clear hE0 hT0 hlg hkl hmk
            go_wp2_with fail
            refine HSUB.out.mono ?_
            rintro e w4 hg
            obtain ⟨A4, c4, rfl, i4, b4⟩ := hg.to
            have hw5 : Below w4.heap.size w4 (w4.alloc (.cells #[.int .i64 t.kind, .int .i64 t.num, .slice A4 t.args.length c4] 35)) := (Below.refl _ _).alloc (Nat.le_refl _) _
            have k5 := (kv.nx b4).nx hw5
            have i5 := In_next i4 hw5
            have hb5 : Blk (w4.alloc (.cells #[.int .i64 t.kind, .int .i64 t.num, .slice A4 t.args.length c4] 35)) w4.heap.size 35 #[.int .i64 t.kind, .int .i64 t.num, .slice A4 t.args.length c4] := Blk.new _ _ _
            have HSM := Lib.hid (sameT_any t t _ _ _ _ _ k5.iT (fun b hb => Nat.lt_of_lt_of_le (k5.oT b hb) k5.hM) i5 (fun _ hh => hh))
            rw [HLGX.out, (T.eqb_iff t t).2 rfl] at HSM
            simp only [Bool.not_false, Bool.and_self] at HSM
            clear hg i4 b4 kv x0 x1 x2 HSUB hw5 i5
            obtain ⟨x0, x1, x2⟩ := k5.three
            have y0 := hb5.cell 0
            have y1 := hb5.cell 1
            have y2 := hb5.cell 2
            simp at y0 y1 y2
            generalize t.args.length = la at *
            go_wp2_with fail
            refine HSM.out.mono ?_
            rintro e w6 ⟨rfl, b6⟩
            have k6 := k5.nx b6
            clear x0 x1 x2 y0 y1 y2 HSM
            go_wp2_with fail
            refine (HA.out _).mono ?_
            rintro e w7 ⟨rfl, b7⟩
            have k7 := k6.nx b7
            go_wp2_with fail
            go_ret
            exact ⟨rfl, k7.bel⟩
      · have hl0 : vl.length ≤ 0 := by omega
        clear hbig
        go_enter Try.func11, Try.ntmps11
        go_wp2_with fail
        refine HX.out.mono ?_
        rintro e w1 ⟨u, rfl, hz1, b1⟩
        have k1 := k0.next b1
        obtain ⟨A1, c1, rfl, _, _⟩ := hz1.form
        clear hz1 b1 k0 x0 x1 x2 HX
        go_wp2_with fail
        go_loopw [5, 31] (fun z i wr => Fst t (.slice A n c) P w.heap.size w w1.heap.size z i wr) (fun _ i _ => 1000 - (intOf i).toNat)
        case atStart => exact ⟨0, [], Nat.zero_le _, rfl, by simpa [firsts] using Mk.nil _ _, LV.of k1⟩
        case round =>
          obtain ⟨k, us, hk, rfl, hmk, kv⟩ := hrel
          have hzr := kv.hM
          have hkl := firsts_length k
          obtain ⟨A2, c2, hv⟩ := hmk.form
          rw [hkl] at hv
          subst hv
          by_cases hlt : k < 1000
          · have HSN := Lib.hid (firsts_succ k)
            have hown : wr.ownsRow w1.heap.size 35 3 (.slice A2 k c2) k us := by have := hmk.own; rwa [hkl] at this
            have hvb : ∀ b, (Value.slice A2 k c2).ownBlock = some b → w1.heap.size ≤ b ∧ b < wr.heap.size := fun b hb => hmk.lt hb
            have HKL := Lib.hid hkl
            have HVAR := Lib.hid (variable_any (k : Int) none 0 0 wr)
            clear hkl
            go_wp2_with fail
            refine HVAR.out.mono ?_
            rintro e w2 ⟨rfl, hb2⟩
            have hown2 : w2.ownsRow w1.heap.size 35 3 (.slice A2 k c2) k us := owns_kept3 hown (fun b hb => hb2.block b (hvb b hb).2)
            have hz2 := hb2.size
            go_wp2_with
              (at_builtin
               refine wpList_append_lies _ rfl _ _ _ rfl w1.heap.size 35 i0 _ 3 40 Try.underlying33 hi0 hz0 HZ1.out HZ2.out rfl (by omega) (.slice A2 k c2) k us (by rfl) (hown2.alloc _)
                 ⟨w2.heap.size, 0, none⟩ 1 1 [.int .i64 0, .int .i64 (k : Int), .slice none 0 0] (by rfl) (by rfl) (World.news_of_block (cs := #[.int .i64 0, .int .i64 (k : Int), .slice none 0 0]) (t := 35) (fr := (0, 0)) (heap_alloc_new w2 _)) (hones _ _ _ rfl) (by omega) (by simp only [maxLen]; omega) (by omega) (by simp; omega) (w2.heap.size + 1) (by simp) ?_
               intro gg cap2 w3 hown3 hgrow hat3 hlt3)
            go_roundw
            case rel =>
              refine ⟨k + 1, us ++ [.int .i64 0, .int .i64 (k : Int), .slice none 0 0], by omega, by go_num, ?_, ?_⟩
              · rw [HSN.out]
                have hy : (T.mk 0 (k : Int) []).In w2 (fun b => wr.heap.size ≤ b ∧ b < w2.heap.size) (.slice none 0 0) := T.In.mk_ rfl (Nat.le_refl _) (by omega) (.inl rfl) (by simp [T.Row])
                have := hmk.push hzr (w1 := w2) (fun b hb => hb2.block b hb) hz2 hy (o1 := .cells #[.int .i64 0, .int .i64 (k : Int), .slice none 0 0] 35) (g := gg) (cap := cap2) (w2 := w3) (by rw [HKL.out]; exact hown3) hgrow hat3
                rw [HKL.out] at this
                exact this
              · exact kv.next (((hb2.mono hzr).alloc (by omega) _).grown hgrow (by simp; omega) (fun b hb => (hvb b hb).1))
            case measure => simp [intOf]; omega
          · have hkk : k = 1000 := by omega
            subst hkk
            obtain ⟨hE0, hT0, hlg⟩ := HOK.out (fun x hx => by
              rcases Int.lt_or_le x 1000 with h | h
              · exact h
              · exact absurd ⟨x, hx, h⟩ HBIG.out)
            have HSUB := Lib.hid (subst_any (firsts 1000) t (.slice A n c) (.slice A2 1000 c2) wr P _ kv.iT (fun b hb => Nat.lt_of_lt_of_le (kv.oT b hb) hzr) hmk.in_ (fun b hb => hb.2) (by rw [hkl]; omega))
            rw [hE0, hT0] at HSUB
            have HLGX := Lib.hid hlg
            obtain ⟨x0, x1, x2⟩ := kv.three
            clear hE0 hT0 hlg hkl hmk
            go_wp2_with fail
            refine HSUB.out.mono ?_
            rintro e w4 hg
            obtain ⟨A4, c4, rfl, i4, b4⟩ := hg.to
            have hw5 : Below w4.heap.size w4 (w4.alloc (.cells #[.int .i64 t.kind, .int .i64 t.num, .slice A4 t.args.length c4] 35)) := (Below.refl _ _).alloc (Nat.le_refl _) _
            have k5 := (kv.nx b4).nx hw5
            have i5 := In_next i4 hw5
            have hb5 : Blk (w4.alloc (.cells #[.int .i64 t.kind, .int .i64 t.num, .slice A4 t.args.length c4] 35)) w4.heap.size 35 #[.int .i64 t.kind, .int .i64 t.num, .slice A4 t.args.length c4] := Blk.new _ _ _
            have HSM := Lib.hid (sameT_any t t _ _ _ _ _ k5.iT (fun b hb => Nat.lt_of_lt_of_le (k5.oT b hb) k5.hM) i5 (fun _ hh => hh))
            rw [HLGX.out, (T.eqb_iff t t).2 rfl] at HSM
            simp only [Bool.not_false, Bool.and_self] at HSM
            clear hg i4 b4 kv x0 x1 x2 HSUB hw5 i5
            obtain ⟨x0, x1, x2⟩ := k5.three
            have y0 := hb5.cell 0
            have y1 := hb5.cell 1
            have y2 := hb5.cell 2
            simp at y0 y1 y2
            generalize t.args.length = la at *
            go_wp2_with fail
            refine HSM.out.mono ?_
            rintro e w6 ⟨rfl, b6⟩
            have k6 := k5.nx b6
            clear x0 x1 x2 y0 y1 y2 HSM
            go_wp2_with fail
            refine (HA.out _).mono ?_
            rintro e w7 ⟨rfl, b7⟩
            have k7 := k6.nx b7
            go_wp2_with fail
            go_ret
            exact ⟨rfl, k7.bel⟩
  · have HE := Lib.hid hE
    generalize t.freeE = E at *
    generalize t.freeL = l at *
    go_enter Try.func11, Try.ntmps11
    go_wp2_with fail
    refine HX.out.mono ?_
    rintro e w1 ⟨u, rfl, hz1, b1⟩
    have k1 := k0.next b1
    obtain ⟨A1, c1, rfl, _, _⟩ := hz1.form
    clear hz1 b1 k0 x0 x1 x2 HX
    go_wp2_with fail
    refine (HA.out _).mono ?_
    rintro e w2 ⟨rfl, b2⟩
    have k2 := k1.next b2
    go_wp2_with fail
    go_ret
    exact ⟨rfl, k2.bel⟩
end Go.Proofs.Ytmggccgjhjknpaa
