/-
  TermNodes: the nodes behind a substitution, for every term and all args that can be read, and the example comes out.
-/
import Derived.Test.YtmggccgjhjknpaaTAlive
import Derived.Test.YtmggccgjhjknpaaTNodes
namespace Go.Proofs.Ytmggccgjhjknpaa
open Go.RowKit

/-- A term in its box, and args, kept. -/
structure LN (t : T) (v : Value) (gs : List T) (u : Value) (P Q : Nat → Prop) (B : Nat) (w0 w : World) : Prop where
  bT : Blk w B 35 #[.int .i64 t.kind, .int .i64 t.num, v]
  iT : t.In w P v
  oT : Old P w
  iL : T.InL w Q gs u
  oL : Old Q w
  bel : Below B w0 w
theorem LN.next {t : T} {v : Value} {gs : List T} {u : Value} {P Q : Nat → Prop} {B : Nat} {w0 w w' : World} (h : LN t v gs u P Q B w0 w) (hb : Below w.heap.size w w') : LN t v gs u P Q B w0 w' :=
  ⟨h.bT.below hb h.bT.lt, h.iT.old h.oT hb, h.oT.bel hb, T.In.old h.iL h.oL hb, h.oL.bel hb, h.bel.trans (hb.mono (by have := h.bT.lt; omega))⟩
theorem LN.start {t : T} {v : Value} {gs : List T} {u : Value} {P Q : Nat → Prop} {w : World} (hin : t.In w P v) (hold : Old P w) (hins : T.InL w Q gs u) (holds : Old Q w) :
    LN t v gs u P Q w.heap.size w (w.alloc (.cells #[.int .i64 t.kind, .int .i64 t.num, v] 35)) := by
  have hb : Below w.heap.size w (w.alloc (.cells #[.int .i64 t.kind, .int .i64 t.num, v] 35)) := (Below.refl _ _).alloc (Nat.le_refl _) _
  exact ⟨Blk.new _ _ _, hin.old hold hb, hold.bel hb, T.In.old hins holds hb, holds.bel hb, hb⟩
/-- .. and a result in its box. -/
structure LR (t : T) (v : Value) (gs : List T) (u : Value) (P Q : Nat → Prop) (B : Nat) (w0 : World) (r : T) (x : Value) (g : Nat) (w : World) : Prop where
  k : LN t v gs u P Q B w0 w
  b : Blk w g 35 #[.int .i64 r.kind, .int .i64 r.num, x]
  i : r.In w (fun b => b < w.heap.size) x
theorem LR.next {t : T} {v : Value} {gs : List T} {u : Value} {P Q : Nat → Prop} {B : Nat} {w0 : World} {r : T} {x : Value} {g : Nat} {w w' : World} (h : LR t v gs u P Q B w0 r x g w) (hb : Below w.heap.size w w') : LR t v gs u P Q B w0 r x g w' :=
  ⟨h.k.next hb, h.b.below hb h.b.lt, In_next h.i hb⟩
theorem LN.three {t : T} {v : Value} {gs : List T} {u : Value} {P Q : Nat → Prop} {B : Nat} {w0 w : World} (h : LN t v gs u P Q B w0 w) : w.cell? ⟨B, 0, none⟩ = some (.int .i64 t.kind) ∧ w.cell? ⟨B, 1, none⟩ = some (.int .i64 t.num) ∧ w.cell? ⟨B, 2, none⟩ = some v := by
  have a0 := h.bT.cell 0
  have a1 := h.bT.cell 1
  have a2 := h.bT.cell 2
  simp at a0 a1 a2
  exact ⟨a0, a1, a2⟩
theorem Gave.to {r : T} {E : Int} {w : World} {e : Ending} {w' : World} (h : Gave r E w e w') : ∃ A c, e = .returned (.tuple #[.agg #[.int .i64 r.kind, .int .i64 r.num, .slice A r.args.length c], .int .i64 E]) ∧ r.In w' (fun b => b < w'.heap.size) (.slice A r.args.length c) ∧ Below w.heap.size w w' := by
  obtain ⟨v, us, rfl, hm, hb⟩ := h
  obtain ⟨A, c, rfl⟩ := hm.form
  refine ⟨A, c, rfl, ?_, hb⟩
  have h2 := T.InL.to (k := r.kind) (n := r.num) (hm.in_.more (fun _ hh => hh.2) _)
  rwa [T.eta] at h2

set_option maxHeartbeats 3200000 in
set_option maxRecDepth 100000 in
theorem lawNodesT_any (t : T) (v : Value) (gs : List T) (u : Value) (w : World) (P Q : Nat → Prop) (hin : t.In w P v) (hold : Old P w) (hins : T.InL w Q gs u) (holds : Old Q w) :
    Calls Try.prog 12 #[.agg #[.int .i64 t.kind, .int .i64 t.num, v], u] w fun e w' => e = .returned (.bool true) ∧ Below w.heap.size w w' := by
  have k0 := LN.start hin hold hins holds
  obtain ⟨A, n, c, rfl⟩ := hin.form
  obtain ⟨A1, n1, c1, rfl⟩ := T.In.form hins
  have hn1 := T.InL.len hins
  subst hn1
  have HA := Lib.hid aliveT_any
  by_cases hlen : 20 < gs.length
  · go_enter Try.func12, Try.ntmps12
    go_wp2_with fail
    refine (HA.out _).mono ?_
    rintro e w1 ⟨rfl, b1⟩
    have k1 := k0.next b1
    go_wp2_with fail
    go_ret
    exact ⟨rfl, k1.bel⟩
  · have HS := Lib.hid (subst_any gs t _ _ _ P Q k0.iT k0.oT k0.iL k0.oL (by omega))
    cases hE : decide (T.substE gs t = 0) with
    | false =>
      have hE' : ¬ T.substE gs t = 0 := by simpa using hE
      clear hE
      generalize T.substE gs t = E at *
      obtain ⟨x0, x1, x2⟩ := k0.three
      go_enter Try.func12, Try.ntmps12
      go_wp2_with fail
      refine HS.out.mono ?_
      rintro e w1 hg
      obtain ⟨A2, c2, rfl, i2, b2⟩ := hg.to
      have k1 := k0.next b2
      have k2 := k1.next ((Below.refl _ _).alloc (Nat.le_refl _) (.cells #[.int .i64 (T.substT gs t).kind, .int .i64 (T.substT gs t).num, .slice A2 (T.substT gs t).args.length c2] 35))
      clear hg i2 b2 k0 x0 x1 x2 HS
      generalize (T.substT gs t).args.length = l2 at *
      go_wp2_with fail
      refine (HA.out _).mono ?_
      rintro e w3 ⟨rfl, b3⟩
      have k3 := k2.next b3
      go_wp2_with fail
      go_ret
      exact ⟨rfl, k3.bel⟩
    | true =>
      have hE' : T.substE gs t = 0 := by simpa using hE
      have hT : T.substT gs t = t.sub gs := by simp [T.substT, hE']
      have hparts : (gs.any T.large = false ∧ t.large = false) ∧ t.cov gs.length = true ∧ (t.sub gs).count ≤ 100000 := by
        unfold T.substE at hE'
        split at hE'
        · omega
        · rename_i h1
          split at hE'
          · rename_i h2
            split at hE'
            · rename_i h3
              simp only [Bool.or_eq_true, not_or, Bool.not_eq_true] at h1
              exact ⟨h1, h2, h3⟩
            · omega
          · omega
      obtain ⟨⟨hgl, htl⟩, hcov, hsmall⟩ := hparts
      have hsum := count_ws gs t hcov
      have htc : t.count ≤ 100000 := by simpa [T.large] using htl
      have hgc : ∀ (k : Nat) (x : T), gs[k]? = some x → x.count ≤ 100000 := fun k x hx => by
        rw [List.any_eq_false] at hgl
        have := hgl x (List.mem_of_getElem? hx)
        simpa [T.large] using this
      have hz1 : ∀ x : T, x.count ≤ 100000 → x.sizes.1 = x.count := fun x hx => by simp [T.sizes, hx]
      rw [hE', hT] at HS
      have HZ := Lib.hid (fun (s : T) (v : Value) (W : World) (P : Nat → Prop) (hs : s.count ≤ 100000) (hin : s.In W P v) (hold : Old P W) => hz1 s hs ▸ sizeT_any s v W P hin hold)
      have HCT := Lib.hid (fun (z : Int) (W : World) (hk : LN t (.slice A n c) gs (.slice A1 gs.length c1) P Q w.heap.size w W) => countT_any t.count t (.slice A n c) z W P (Nat.le_refl _) (by omega) hk.iT hk.oT)
      have HGC := Lib.hid hgc
      have HSum := Lib.hid hsum
      have hol : ∀ i : Int, t.occ i ≤ t.count := fun i => T.occ_le i t
      have HOL := Lib.hid hol
      have hwl : ∀ j, j ≤ gs.length → ws gs (fun i => t.occ i) j ≤ ws gs (fun i => t.occ i) gs.length := fun j => ws_le gs _ gs.length j
      have HWL := Lib.hid hwl
      clear hE hE' hT hgl htl hcov hgc hz1 hsum hol hwl
      obtain ⟨x0, x1, x2⟩ := k0.three
      generalize t.sub gs = r at *
      go_enter Try.func12, Try.ntmps12
      go_wp2_with fail
      refine HS.out.mono ?_
      rintro e w1 hg
      obtain ⟨A2, c2, rfl, i2, b2⟩ := hg.to
      have hw2 : Below w1.heap.size w1 (w1.alloc (.cells #[.int .i64 r.kind, .int .i64 r.num, .slice A2 r.args.length c2] 35)) := (Below.refl _ _).alloc (Nat.le_refl _) _
      have k2 : LR t (.slice A n c) gs (.slice A1 gs.length c1) P Q w.heap.size w r (.slice A2 r.args.length c2) w1.heap.size (w1.alloc (.cells #[.int .i64 r.kind, .int .i64 r.num, .slice A2 r.args.length c2] 35)) := ⟨(k0.next b2).next hw2, Blk.new _ _ _, In_next i2 hw2⟩
      clear hg i2 b2 k0 x0 x1 x2 HS hw2
      generalize r.args.length = l2 at *
      obtain ⟨x0, x1, x2⟩ := k2.k.three
      have HZ1 := Lib.hid (HZ.out t _ _ P (by omega) k2.k.iT k2.k.oT)
      go_wp2_with fail
      refine HZ1.out.mono ?_
      rintro e w3 ⟨rfl, b3⟩
      have k3 := k2.next b3
      clear k2 b3 x0 x1 x2 HZ1
      go_wp2_with fail
      go_loopw [7, 35] (fun N i wr => ∃ k : Nat, k ≤ gs.length ∧ i = .int .i64 k ∧ N = .int .i64 ((t.count + ws gs (fun i => t.occ i) k : Nat) : Int) ∧ LR t (.slice A n c) gs (.slice A1 gs.length c1) P Q w.heap.size w r (.slice A2 l2 c2) w1.heap.size wr) (fun _ i _ => gs.length - (intOf i).toNat)
      case atStart => exact ⟨0, Nat.zero_le _, rfl, by simp [ws], k3⟩
      case round =>
        obtain ⟨k, hk, rfl, rfl, kr⟩ := hrel
        by_cases hlt : k < gs.length
        · have hx : gs[k]? = some gs[k] := List.getElem?_eq_getElem hlt
          have hxc := HGC.out k _ hx
          have hgd : gs.getD k default = gs[k] := by simp [List.getD, hx]
          have hw1 := HWL.out (k + 1) (by omega)
          simp only [ws, hgd] at hw1
          have hws : ws gs (fun i => t.occ i) (k + 1) = ws gs (fun i => t.occ i) k + t.occ k * (gs[k].count - 1) := by simp only [ws, hgd]
          have hsm := HSum.out
          have hxp := gs[k].count_pos
          have hoc := HOL.out (k : Int)
          have hiL := kr.k.iL
          simp only [T.InL, T.In] at hiL
          obtain ⟨A', n', c', us, heq, hln, hnc, hc, hrd, hrow⟩ := hiL
          simp only [Value.slice.injEq] at heq
          obtain ⟨rfl, rfl, rfl⟩ := heq
          obtain ⟨ad, u, rfl, hP, hel, hinx⟩ := T.In.el hrd hrow hx
          obtain ⟨r0, r1, r2⟩ := hel
          obtain ⟨A', n', c', rfl⟩ := hinx.form
          generalize gs[k] = x at *
          have hmul : ((t.occ k : Nat) : Int) * ((x.count : Int) - 1) = ((t.occ k * (x.count - 1) : Nat) : Int) := by
            rw [show ((x.count : Int) - 1) = ((x.count - 1 : Nat) : Int) from by omega]
            exact (Int.natCast_mul _ _).symm
          have hbox : Below wr.heap.size wr (wr.alloc (.cells #[.int .i64 x.kind, .int .i64 x.num, .slice A' n' c'] 35)) := (Below.refl _ _).alloc (Nat.le_refl _) _
          have HZ1 := Lib.hid (HZ.out x _ _ Q hxc (hinx.old kr.k.oL hbox) (kr.k.oL.bel hbox))
          have HWS := Lib.hid hws
          have hq : t.occ k * (x.count - 1) ≤ 100000 ∧ ws gs (fun i => t.occ i) k ≤ 100000 := by omega
          have k5 := kr.next hbox
          generalize x.count = y at *
          generalize t.occ k * (y - 1) = q at *
          generalize ws gs (fun i => t.occ i) k = wk at *
          clear hgd hw1 hws hx hinx hrd hrow hbox hsm
          go_wp2_with fail
          refine HZ1.out.mono ?_
          rintro e w4 ⟨rfl, b4⟩
          have k6 := k5.next b4
          obtain ⟨x0, x1, x2⟩ := k6.k.three
          have HC1 := Lib.hid (HCT.out (k : Int) _ k6.k)
          clear k5 b4 HZ1
          go_wp2_with fail
          refine HC1.out.mono ?_
          rintro e w5 ⟨rfl, b5⟩
          have k7 := k6.next b5
          generalize t.occ k = o at *
          clear HC1 k6 b5
          go_wp2_with fail
          go_roundw
          case rel => exact ⟨k + 1, by omega, by go_num, congrArg (Value.int .i64) (by have h2 := HWS.out; omega), k7⟩
          case measure => simp [intOf]; omega
        · have hkl : k = gs.length := by omega
          have hN : t.count + ws gs (fun i => t.occ i) k = r.count := by rw [hkl]; exact HSum.out.symm
          rw [hN]
          have y0 := kr.b.cell 0
          have y1 := kr.b.cell 1
          have y2 := kr.b.cell 2
          simp at y0 y1 y2
          have HZ1 := Lib.hid (HZ.out r _ _ _ hsmall kr.i (fun _ h => h))
          clear hN hkl
          go_wp2_with fail
          refine HZ1.out.mono ?_
          rintro e w4 ⟨rfl, b4⟩
          have k6 := kr.next b4
          clear HZ1 y0 y1 y2
          go_wp2_with fail
          refine (HA.out _).mono ?_
          rintro e w5 ⟨rfl, b5⟩
          have k7 := k6.next b5
          go_wp2_with fail
          go_ret
          exact ⟨rfl, k7.k.bel⟩
end Go.Proofs.Ytmggccgjhjknpaa
