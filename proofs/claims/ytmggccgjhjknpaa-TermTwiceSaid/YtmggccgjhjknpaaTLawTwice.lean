/-
  TermTwice: one substitution after another one, for every term and all args that can be read, and the example comes out.
-/
import Derived.Test.YtmggccgjhjknpaaTLawNodes
import Derived.Test.YtmggccgjhjknpaaTTwice
import Derived.Test.YtmggccgjhjknpaaTClone
namespace Go.Proofs.Ytmggccgjhjknpaa
open Go.RowKit

/-- A term in its box, and two lists of args, all below M, kept. -/
structure LT (t : T) (v : Value) (gs : List T) (u : Value) (hs : List T) (y : Value) (P Q R : Nat → Prop) (B : Nat) (w0 : World) (M : Nat) (w : World) : Prop where
  bT : Blk w B 35 #[.int .i64 t.kind, .int .i64 t.num, v]
  iT : t.In w P v
  iG : T.InL w Q gs u
  iH : T.InL w R hs y
  oT : ∀ b, P b → b < M
  oG : ∀ b, Q b → b < M
  oH : ∀ b, R b → b < M
  hB : B < M
  hM : M ≤ w.heap.size
  bel : Below B w0 w
theorem LT.next {t : T} {v : Value} {gs : List T} {u : Value} {hs : List T} {y : Value} {P Q R : Nat → Prop} {B : Nat} {w0 : World} {M : Nat} {w w' : World} (h : LT t v gs u hs y P Q R B w0 M w) (hb : Below M w w') : LT t v gs u hs y P Q R B w0 M w' :=
  ⟨h.bT.below hb h.hB, h.iT.below hb h.oT, T.In.below h.iG hb h.oG, T.In.below h.iH hb h.oH, h.oT, h.oG, h.oH, h.hB, Nat.le_trans h.hM hb.size, h.bel.trans (hb.mono (Nat.le_of_lt h.hB))⟩
theorem LT.up {t : T} {v : Value} {gs : List T} {u : Value} {hs : List T} {y : Value} {P Q R : Nat → Prop} {B : Nat} {w0 : World} {M M' : Nat} {w : World} (h : LT t v gs u hs y P Q R B w0 M w) (h1 : M ≤ M') (h2 : M' ≤ w.heap.size) : LT t v gs u hs y P Q R B w0 M' w :=
  ⟨h.bT, h.iT, h.iG, h.iH, fun b hb => Nat.lt_of_lt_of_le (h.oT b hb) h1, fun b hb => Nat.lt_of_lt_of_le (h.oG b hb) h1, fun b hb => Nat.lt_of_lt_of_le (h.oH b hb) h1, Nat.lt_of_lt_of_le h.hB h1, h2, h.bel⟩
theorem LT.nx {t : T} {v : Value} {gs : List T} {u : Value} {hs : List T} {y : Value} {P Q R : Nat → Prop} {B : Nat} {w0 : World} {M : Nat} {w w' : World} (h : LT t v gs u hs y P Q R B w0 M w) (hb : Below w.heap.size w w') : LT t v gs u hs y P Q R B w0 M w' := h.next (hb.mono h.hM)
theorem LT.start {t : T} {v : Value} {gs : List T} {u : Value} {hs : List T} {y : Value} {P Q R : Nat → Prop} {w : World} (hin : t.In w P v) (hold : Old P w) (hins : T.InL w Q gs u) (holds : Old Q w) (hins2 : T.InL w R hs y) (holds2 : Old R w) :
    LT t v gs u hs y P Q R w.heap.size w (w.heap.size + 1) (w.alloc (.cells #[.int .i64 t.kind, .int .i64 t.num, v] 35)) := by
  have hb : Below w.heap.size w (w.alloc (.cells #[.int .i64 t.kind, .int .i64 t.num, v] 35)) := (Below.refl _ _).alloc (Nat.le_refl _) _
  exact ⟨Blk.new _ _ _, hin.old hold hb, T.In.old hins holds hb, T.In.old hins2 holds2 hb, fun b h => Nat.lt_succ_of_lt (hold b h), fun b h => Nat.lt_succ_of_lt (holds b h), fun b h => Nat.lt_succ_of_lt (holds2 b h), by omega, by simp, hb⟩
/-- .. and a result in its box. -/
structure LW (t : T) (v : Value) (gs : List T) (u : Value) (hs : List T) (y : Value) (P Q R : Nat → Prop) (B : Nat) (w0 : World) (r : T) (x : Value) (g : Nat) (M : Nat) (w : World) : Prop where
  k : LT t v gs u hs y P Q R B w0 M w
  b : Blk w g 35 #[.int .i64 r.kind, .int .i64 r.num, x]
  hg : g < M
  i : r.In w (fun b => b < M) x
theorem LW.next {t : T} {v : Value} {gs : List T} {u : Value} {hs : List T} {y : Value} {P Q R : Nat → Prop} {B : Nat} {w0 : World} {r : T} {x : Value} {g : Nat} {M : Nat} {w w' : World} (h : LW t v gs u hs y P Q R B w0 r x g M w) (hb : Below M w w') : LW t v gs u hs y P Q R B w0 r x g M w' :=
  ⟨h.k.next hb, h.b.below hb h.hg, h.hg, h.i.below hb (fun _ hh => hh)⟩
theorem LW.nx {t : T} {v : Value} {gs : List T} {u : Value} {hs : List T} {y : Value} {P Q R : Nat → Prop} {B : Nat} {w0 : World} {r : T} {x : Value} {g : Nat} {M : Nat} {w w' : World} (h : LW t v gs u hs y P Q R B w0 r x g M w) (hb : Below w.heap.size w w') : LW t v gs u hs y P Q R B w0 r x g M w' := h.next (hb.mono h.k.hM)
/-- A result in a new box. -/
theorem LW.new {t : T} {v : Value} {gs : List T} {u : Value} {hs : List T} {y : Value} {P Q R : Nat → Prop} {B : Nat} {w0 : World} {r : T} {x : Value} {M : Nat} {w : World} (h : LT t v gs u hs y P Q R B w0 M w) (hi : r.In w (fun b => b < w.heap.size) x) :
    LW t v gs u hs y P Q R B w0 r x w.heap.size (w.heap.size + 1) (w.alloc (.cells #[.int .i64 r.kind, .int .i64 r.num, x] 35)) := by
  have hb : Below w.heap.size w (w.alloc (.cells #[.int .i64 r.kind, .int .i64 r.num, x] 35)) := (Below.refl _ _).alloc (Nat.le_refl _) _
  exact ⟨(h.nx hb).up (by have := h.hM; omega) (by simp), Blk.new _ _ _, by omega, (hi.below hb (fun _ hh => hh)).more (fun b hh => by omega) _⟩
theorem LT.old {t : T} {v : Value} {gs : List T} {u : Value} {hs : List T} {y : Value} {P Q R : Nat → Prop} {B : Nat} {w0 : World} {M : Nat} {w : World} (h : LT t v gs u hs y P Q R B w0 M w) : Old P w ∧ Old Q w ∧ Old R w :=
  ⟨fun b hb => Nat.lt_of_lt_of_le (h.oT b hb) h.hM, fun b hb => Nat.lt_of_lt_of_le (h.oG b hb) h.hM, fun b hb => Nat.lt_of_lt_of_le (h.oH b hb) h.hM⟩
theorem LT.three {t : T} {v : Value} {gs : List T} {u : Value} {hs : List T} {y : Value} {P Q R : Nat → Prop} {B : Nat} {w0 : World} {M : Nat} {w : World} (h : LT t v gs u hs y P Q R B w0 M w) : w.cell? ⟨B, 0, none⟩ = some (.int .i64 t.kind) ∧ w.cell? ⟨B, 1, none⟩ = some (.int .i64 t.num) ∧ w.cell? ⟨B, 2, none⟩ = some v := by
  have a0 := h.bT.cell 0
  have a1 := h.bT.cell 1
  have a2 := h.bT.cell 2
  simp at a0 a1 a2
  exact ⟨a0, a1, a2⟩
theorem box3 {r : T} {x : Value} {g : Nat} {w : World} (h : Blk w g 35 #[.int .i64 r.kind, .int .i64 r.num, x]) : w.cell? ⟨g, 0, none⟩ = some (.int .i64 r.kind) ∧ w.cell? ⟨g, 1, none⟩ = some (.int .i64 r.num) ∧ w.cell? ⟨g, 2, none⟩ = some x := by
  have a0 := h.cell 0
  have a1 := h.cell 1
  have a2 := h.cell 2
  simp at a0 a1 a2
  exact ⟨a0, a1, a2⟩
theorem substE_zero {gs : List T} {t : T} (h : T.substE gs t = 0) : ((gs.any T.large = false ∧ t.large = false) ∧ t.cov gs.length = true ∧ (t.sub gs).count ≤ 100000) ∧ T.substT gs t = t.sub gs := by
  refine ⟨?_, by simp [T.substT, h]⟩
  unfold T.substE at h
  split at h
  · omega
  · rename_i h1
    split at h
    · rename_i h2
      split at h
      · rename_i h3
        simp only [Bool.or_eq_true, not_or, Bool.not_eq_true] at h1
        exact ⟨h1, h2, h3⟩
      · omega
    · omega
theorem zero_substE {gs : List T} {t : T} (h1 : gs.any T.large = false) (h2 : t.large = false) (h3 : t.cov gs.length = true) (h4 : (t.sub gs).count ≤ 100000) : T.substE gs t = 0 := by
  simp [T.substE, h1, h2, h3, h4]

set_option maxHeartbeats 3200000 in
set_option maxRecDepth 100000 in
theorem lawTwiceT_any (t : T) (v : Value) (gs : List T) (u : Value) (hs : List T) (y : Value) (w : World) (P Q R : Nat → Prop) (hgl : gs.length ≤ 3600000000000) (hhl : hs.length ≤ 3600000000000) (hin : t.In w P v) (hold : Old P w) (hins : T.InL w Q gs u) (holds : Old Q w) (hins2 : T.InL w R hs y) (holds2 : Old R w) :
    Calls Try.prog 10 #[.agg #[.int .i64 t.kind, .int .i64 t.num, v], u, y] w fun e w' => e = .returned (.bool true) ∧ Below w.heap.size w w' := by
  have k0 := LT.start hin hold hins holds hins2 holds2
  obtain ⟨i0, hi0, hz0, hz1, hz2⟩ := info_parts term_info
  obtain ⟨A, n, c, rfl⟩ := hin.form
  obtain ⟨A1, n1, c1, rfl⟩ := T.In.form hins
  have hn1 := T.InL.len hins
  subst hn1
  obtain ⟨A9, n9, c9, rfl⟩ := T.In.form hins2
  have hn9 := T.InL.len hins2
  subst hn9
  have HA := Lib.hid aliveT_any
  have HS := Lib.hid (subst_any gs t _ _ _ P Q k0.iT k0.old.1 k0.iG k0.old.2.1 hgl)
  obtain ⟨x0, x1, x2⟩ := k0.three
  by_cases hE : T.substE gs t = 0
  · obtain ⟨⟨⟨h1, h2⟩, h3, h4⟩, h5⟩ := substE_zero hE
    rw [hE, h5] at HS
    by_cases hlen : 1000 < gs.length
    · go_enter Try.func10, Try.ntmps10
      go_wp2_with fail
      refine HS.out.mono ?_
      rintro e w1 hg
      obtain ⟨A2, c2, rfl, i2, b2⟩ := hg.to
      have k2 := LW.new (k0.nx b2) i2
      clear hg i2 b2 k0 x0 x1 x2 HS
      generalize (t.sub gs).args.length = l2 at *
      go_wp2_with fail
      refine (HA.out _).mono ?_
      rintro e w3 ⟨rfl, b3⟩
      have k3 := k2.nx b3
      go_wp2_with fail
      go_ret
      exact ⟨rfl, k3.k.bel⟩
    · have HSS := Lib.hid (sub_sub gs hs t h3)
      have HZ := Lib.hid (fun (f4 : (t.sub (gs.map (T.sub hs))).count ≤ 100000) (f1 : (gs.map (T.sub hs)).any T.large = false) => zero_substE (gs := gs.map (T.sub hs)) f1 h2 (by rw [List.length_map]; exact h3) f4)
      generalize hr : t.sub gs = r at *
      go_enter Try.func10, Try.ntmps10
      go_wp2_with fail
      refine HS.out.mono ?_
      rintro e w1 hg
      obtain ⟨A2, c2, rfl, i2, b2⟩ := hg.to
      have k2 := LW.new (k0.nx b2) i2
      clear hg i2 b2 k0 x0 x1 x2 HS
      generalize r.args.length = l2 at *
      obtain ⟨x0, x1, x2⟩ := box3 k2.b
      have HS := Lib.hid (subst_any hs r _ _ _ _ R k2.i (fun b hb => Nat.lt_of_lt_of_le hb k2.k.hM) k2.k.iH k2.k.old.2.2 hhl)
      by_cases hE2 : T.substE hs r = 0
      · obtain ⟨⟨⟨g1, g2⟩, g3, g4⟩, g5⟩ := substE_zero hE2
        rw [hE2, g5] at HS
        go_wp2_with fail
        refine HS.out.mono ?_
        rintro e w3 hg
        obtain ⟨A3, c3, rfl, i3, b3⟩ := hg.to
        have k3 := LW.new (k2.k.nx b3) i3
        clear hg i3 b3 k2 x0 x1 x2 HS
        generalize (r.sub hs).args.length = l3 at *
        go_wp2_with fail
        have HMs : Hid ((w3.alloc (.cells #[.int .i64 (r.sub hs).kind, .int .i64 (r.sub hs).num, .slice A3 l3 c3] 35)).heap.size = w3.heap.size + 1) := Lib.hid (by simp)
        have HZ1 := Lib.hid hz1
        have HZ2 := Lib.hid hz2
        go_loopw [10, 42] (fun C i wr => ∃ (k : Nat) (us : List Value), k ≤ gs.length ∧ i = .int .i64 k ∧ Mk (w3.heap.size + 1) wr ((gs.take k).map (T.sub hs)) C us ∧ Hid (((gs.take k).map (T.sub hs)).any T.large = false) ∧ LW t (.slice A n c) gs (.slice A1 gs.length c1) hs (.slice A9 hs.length c9) P Q R w.heap.size w (r.sub hs) (.slice A3 l3 c3) w3.heap.size (w3.heap.size + 1) wr) (fun _ i _ => gs.length - (intOf i).toNat)
        case atStart => exact ⟨0, [], Nat.zero_le _, rfl, Mk.nil _ _, Lib.hid rfl, k3⟩
        case round =>
          obtain ⟨k, us, hk, rfl, hmk, hany, kr⟩ := hrel
          have hzM := kr.k.hM
          by_cases hlt : k < gs.length
          · have hx : gs[k]? = some gs[k] := List.getElem?_eq_getElem hlt
            have hiL := kr.k.iG
            simp only [T.InL, T.In] at hiL
            obtain ⟨A', n', c', us0, heq, hln, hnc, hc, hrd, hrow⟩ := hiL
            simp only [Value.slice.injEq] at heq
            obtain ⟨rfl, rfl, rfl⟩ := heq
            obtain ⟨ad, u0, rfl, hP, hel, hinx⟩ := T.In.el hrd hrow hx
            obtain ⟨r0, r1, r2⟩ := hel
            obtain ⟨A', n', c', rfl⟩ := hinx.form
            have hsnoc : (gs.take (k + 1)).map (T.sub hs) = (gs.take k).map (T.sub hs) ++ [gs[k].sub hs] := by rw [List.take_add_one, hx, List.map_append]; rfl
            have hkl : ((gs.take k).map (T.sub hs)).length = k := by rw [List.length_map, List.length_take]; omega
            generalize (gs.take k).map (T.sub hs) = ml at *
            generalize gs[k] = x at *
            have hbox : Below wr.heap.size wr (wr.alloc (.cells #[.int .i64 x.kind, .int .i64 x.num, .slice A' n' c'] 35)) := (Below.refl _ _).alloc (Nat.le_refl _) _
            have kb := kr.nx hbox
            have HX := Lib.hid (subst_any hs x _ _ _ Q R (hinx.below (hbox.mono kr.k.hM) kr.k.oG) kb.k.old.2.1 kb.k.iH kb.k.old.2.2 hhl)
            have HSn := Lib.hid hsnoc
            have HL := Lib.hid hkl
            clear hsnoc hkl hx hinx hrd hrow kr k3
            by_cases hEx : T.substE hs x = 0
            · obtain ⟨⟨_, _, q4⟩, q5⟩ := substE_zero hEx
              rw [hEx, q5] at HX
              have hany2 : Hid ((ml ++ [x.sub hs]).any T.large = false) := Lib.hid (by rw [List.any_append, hany.out]; simpa [T.large] using q4)
              clear q5 hEx
              generalize x.sub hs = y at *
              unfold Gave at HX
              go_wp2_with fail
              refine HX.out.mono ?_
              rintro e w5 ⟨v5, us5, rfl, hm5, b5⟩
              have hone : v5.oneCell' = true := by obtain ⟨A1, c1, rfl⟩ := hm5.form; rfl
              obtain ⟨A5, c5, rfl⟩ := hm5.form
              have hz5 := b5.size
              simp only [World.size_alloc] at hz5 b5 hm5
              have hw6 : Below w5.heap.size w5 (w5.alloc (.cells #[.int .i64 y.kind, .int .i64 y.num, .slice A5 y.args.length c5] 35)) := (Below.refl _ _).alloc (Nat.le_refl _) _
              have bb6 : Below wr.heap.size wr (w5.alloc (.cells #[.int .i64 y.kind, .int .i64 y.num, .slice A5 y.args.length c5] 35)) := (hbox.trans (b5.mono (by omega))).trans (hw6.mono (by omega))
              have hvl : ∀ b, u10.ownBlock = some b → w3.heap.size + 1 ≤ b ∧ b < wr.heap.size := fun b hb => hmk.lt hb
              have hown1 : (w5.alloc (.cells #[.int .i64 y.kind, .int .i64 y.num, .slice A5 y.args.length c5] 35)).ownsRow (w3.heap.size + 1) 35 3 u10 ml.length us := owns_kept3 hmk.own (fun b hb => bb6.block b (hvl b hb).2)
              have hy6 : y.In (w5.alloc (.cells #[.int .i64 y.kind, .int .i64 y.num, .slice A5 y.args.length c5] 35)) (fun b => wr.heap.size ≤ b ∧ b < (w5.alloc (.cells #[.int .i64 y.kind, .int .i64 y.num, .slice A5 y.args.length c5] 35)).heap.size) (.slice A5 y.args.length c5) :=
                (hm5.term.below hw6 (fun b hb => hb.2)).more (fun b hb => ⟨by have := hb.1; omega, by simp; omega⟩) _
              have k6 := (kb.nx (b5.mono (by simp))).nx hw6
              have hz6 : (w5.alloc (.cells #[.int .i64 y.kind, .int .i64 y.num, .slice A5 y.args.length c5] 35)).heap.size = w5.heap.size + 1 := by simp
              clear kb HX b5 hw6 hbox hm5
              go_wp2_with
                (at_builtin
                 refine wpList_append_lies _ rfl _ _ _ rfl (w3.heap.size + 1) 35 i0 _ 3 40 Try.underlying33 hi0 hz0 HZ1.out HZ2.out rfl (by omega) u10 _ us (by rfl) (hown1.alloc _)
                   ⟨w5.heap.size + 1, 0, none⟩ 1 1 [.int .i64 y.kind, .int .i64 y.num, .slice A5 y.args.length c5] (by rfl) (by rfl) (World.news_of_block (cs := #[.int .i64 y.kind, .int .i64 y.num, .slice A5 y.args.length c5]) (t := 35) (fr := (0, 0)) (by rw [← hz6]; exact heap_alloc_new _ _)) (hones _ _ _ hone) (by omega) (by rw [HL.out]; simp only [maxLen]; omega) (by rw [HL.out]; omega) (by simp; omega) (w5.heap.size + 1 + 1) (by simp) ?_
                 intro gg cap2 w7 hown3 hgrow hat3 hlt3)
              go_roundw
              case rel =>
                refine ⟨k + 1, us ++ [.int .i64 y.kind, .int .i64 y.num, .slice A5 y.args.length c5], by omega, by go_num, ?_, by rw [HSn.out]; exact hany2, ?_⟩
                · rw [HSn.out]
                  exact hmk.push (by omega) (fun b hb => bb6.block b hb) (by omega) hy6 hown3 hgrow (by rw [hz6]; exact hat3)
                · have e1 : Below (w3.heap.size + 1) (w5.alloc (.cells #[.int .i64 y.kind, .int .i64 y.num, .slice A5 y.args.length c5] 35)) w7 := ((Below.refl _ _).alloc (by omega) _).grown hgrow (by simp; omega) (fun b hb => (hvl b hb).1)
                  exact k6.next e1
              case measure => simp [intOf]; omega
            · have HXE := Lib.hid hEx
              generalize T.substE hs x = E at *
              go_wp2_with fail
              refine HX.out.mono ?_
              rintro e w5 hg
              obtain ⟨A5, c5, rfl, i5, b5⟩ := hg.to
              have k6 := (kb.nx b5).nx ((Below.refl _ _).alloc (Nat.le_refl _) (.cells #[.int .i64 (T.substT hs x).kind, .int .i64 (T.substT hs x).num, .slice A5 (T.substT hs x).args.length c5] 35))
              clear hg i5 b5 kb HX hbox
              generalize (T.substT hs x).args.length = l5 at *
              go_wp2_with fail
              refine (HA.out _).mono ?_
              rintro e w7 ⟨rfl, b7⟩
              have k7 := k6.nx b7
              go_wp2_with fail
              go_ret
              exact ⟨rfl, k7.k.bel⟩
          · have hll : gs.take k = gs := List.take_of_length_le (by omega)
            rw [hll] at hmk hany
            have HE3 := HZ.out (by rw [← HSS.out]; exact g4) hany.out
            have hT3 : T.substT (gs.map (T.sub hs)) t = r.sub hs := by rw [(substE_zero HE3).2, HSS.out]
            obtain ⟨A6, c6, hC⟩ := hmk.form
            subst hC
            have hin6 := hmk.in_
            have HX := Lib.hid (subst_any (gs.map (T.sub hs)) t _ _ _ P _ kr.k.iT kr.k.old.1 hin6 (fun b hb => hb.2) (by rw [List.length_map]; omega))
            rw [HE3, hT3] at HX
            obtain ⟨x0, x1, x2⟩ := kr.k.three
            clear hll HE3 hT3 hin6 hany hmk
            generalize (gs.map (T.sub hs)).length = lm at *
            have HLg : Hid ((r.sub hs).large = false) := Lib.hid (by simpa [T.large] using g4)
            generalize r.sub hs = y at *
            go_wp2_with fail
            refine HX.out.mono ?_
            rintro e w5 hg
            obtain ⟨A5, c5, rfl, i5, b5⟩ := hg.to
            have hw6 : Below w5.heap.size w5 (w5.alloc (.cells #[.int .i64 y.kind, .int .i64 y.num, .slice A5 y.args.length c5] 35)) := (Below.refl _ _).alloc (Nat.le_refl _) _
            have k6 := (kr.nx b5).nx hw6
            have hb6 : Blk (w5.alloc (.cells #[.int .i64 y.kind, .int .i64 y.num, .slice A5 y.args.length c5] 35)) w5.heap.size 35 #[.int .i64 y.kind, .int .i64 y.num, .slice A5 y.args.length c5] := Blk.new _ _ _
            have HSm := Lib.hid (sameT_any y y _ _ _ _ _ k6.i (fun b hb => Nat.lt_of_lt_of_le hb k6.k.hM) (In_next i5 hw6) (fun b hb => hb))
            rw [HLg.out, (T.eqb_iff y y).2 rfl] at HSm
            clear hg i5 b5 kr HX hw6 x0 x1 x2
            obtain ⟨x0, x1, x2⟩ := box3 k6.b
            obtain ⟨y0, y1, y2⟩ := box3 hb6
            generalize y.args.length = l5 at *
            simp only [Bool.not_false, Bool.and_self] at HSm
            go_wp2_with fail
            refine HSm.out.mono ?_
            rintro e w7 ⟨rfl, b7⟩
            have k7 := k6.nx b7
            clear k6 b7 HSm x0 x1 x2 y0 y1 y2 hb6
            go_wp2_with fail
            refine (HA.out _).mono ?_
            rintro e w8 ⟨rfl, b8⟩
            have k8 := k7.nx b8
            go_wp2_with fail
            go_ret
            exact ⟨rfl, k8.k.bel⟩
      · have hE3 := hE2
        generalize T.substE hs r = E at *
        go_wp2_with fail
        refine HS.out.mono ?_
        rintro e w3 hg
        obtain ⟨A3, c3, rfl, i3, b3⟩ := hg.to
        have k3 := LW.new (k2.k.nx b3) i3
        clear hg i3 b3 k2 x0 x1 x2 HS
        generalize (T.substT hs r).args.length = l3 at *
        go_wp2_with fail
        refine (HA.out _).mono ?_
        rintro e w4 ⟨rfl, b4⟩
        have k4 := k3.nx b4
        go_wp2_with fail
        go_ret
        exact ⟨rfl, k4.k.bel⟩
  · generalize T.substE gs t = E at *
    go_enter Try.func10, Try.ntmps10
    go_wp2_with fail
    refine HS.out.mono ?_
    rintro e w1 hg
    obtain ⟨A2, c2, rfl, i2, b2⟩ := hg.to
    have k2 := LW.new (k0.nx b2) i2
    clear hg i2 b2 k0 x0 x1 x2 HS
    generalize (T.substT gs t).args.length = l2 at *
    go_wp2_with fail
    refine (HA.out _).mono ?_
    rintro e w3 ⟨rfl, b3⟩
    have k3 := k2.nx b3
    go_wp2_with fail
    go_ret
    exact ⟨rfl, k3.k.bel⟩
end Go.Proofs.Ytmggccgjhjknpaa
