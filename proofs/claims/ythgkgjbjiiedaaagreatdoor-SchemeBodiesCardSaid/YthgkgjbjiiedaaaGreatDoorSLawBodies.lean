/-
  SchemeBodies: the bodies of a valid scheme have the sort o, and its start has the order 0.
-/
import Derived.Test.YthgkgjbjiiedaaaGreatDoorSLawCheck
import Derived.Test.YthgkgjbjiiedaaaGreatDoorGL
namespace Go.Proofs.YthgkgjbjiiedaaaGreatDoor
open Go.RowKit

set_option maxHeartbeats 3200000 in
set_option maxRecDepth 100000 in
theorem lawBodiesS_any (s : Sc) (v0 v1 : Value) (w : World) (hi : Nat) (hin : ScIn w hi s v0 v1) (hhi : hi ≤ w.heap.size) (hg : GV w) (h8 : 8 ≤ w.heap.size) :
    Calls Tryz.prog 11 #[.agg #[v0, v1]] w fun e w' => e = .returned (.bool true) ∧ Below w.heap.size w w' := by
  obtain ⟨i0, hi0, hz0, hz1, hz2⟩ := info_parts sort_info2
  have HZ1 := Lib.hid hz1
  have HZ2 := Lib.hid hz2
  clear hz1 hz2
  have k0 := ScG.start hin hhi hg h8
  obtain ⟨⟨A0, n0, c0, rfl⟩, _⟩ := hin.form
  obtain ⟨A, _, c, us0, rfl, rfl, hnc, hc, hrd, hrow⟩ := hin.fn
  obtain ⟨d0, d1⟩ := k0.two
  have HC := Lib.hid (schemeCheck_any s _ _ _ hi k0.k.i k0.lt.1)
  cases hok : s.ok with
  | false =>
    rw [hok] at HC
    simp only [schErr] at HC
    clear hok
    go_enter Tryz.func11, Tryz.ntmps11
    go_wp2_with fail
    refine HC.out.mono ?_
    rintro e w1 ⟨rfl, b1⟩
    have k1 := k0.next b1
    have HA := Lib.hid (aliveS_any w1 k1.g k1.lt.2)
    go_wp2_with fail
    refine HA.out.mono ?_
    rintro e w2 ⟨rfl, b2⟩
    have k2 := k1.next b2
    go_wp2_with fail
    go_ret
    exact ⟨rfl, k2.k.bel⟩
  | true =>
    have G := Sc.good hok
    rw [hok] at HC
    simp only [schErr, if_true] at HC
    clear hok
    go_enter Tryz.func11, Tryz.ntmps11
    go_wp2_with fail
    refine HC.out.mono ?_
    rintro e w1 ⟨rfl, b1⟩
    have k1 := k0.next b1
    obtain ⟨e0, e1⟩ := k1.two
    have hl1 := k1.k.b.lt
    have hw1 := k1.k.bel
    have hP0 := Blk.new w1 45 #[.slice A0 n0 c0, .slice none 0 0, .slice none 0 0]
    have hB0 := (Below.refl w1.heap.size w1).alloc (Nat.le_refl _) (.cells #[.slice A0 n0 c0, .slice none 0 0, .slice none 0 0] 45)
    have ka := k1.next hB0
    obtain ⟨f0, f1⟩ := ka.two
    have HP0 := Lib.hid hP0
    have HB0 := Lib.hid hB0
    have K1 := Lib.hid k1
    have hn64 := G.n64
    clear HC d0 d1 k0 b1 hP0 hB0 k1 ka
    go_wp2_with fail
    generalize hGG : w1.heap.size = gg0 at *
    go_loopw [20] (fun iv wr => ∃ (k : Nat) (vs : Value) (us : List Value), k ≤ s.funs.length ∧ iv = .int .i64 k ∧ SRow (gg0 + 1) hi wr ((s.funs.map Fn.sort).take k) vs us ∧ Blk wr gg0 45 #[.slice A0 n0 c0, vs, .slice none 0 0] ∧ Below gg0 w1 wr) (fun i _ => s.funs.length - (intOf i).toNat)
    case atStart => exact ⟨0, _, [], Nat.zero_le _, rfl, by simpa using SRow.nil _ _ _, HP0.out, HB0.out⟩
    case round =>
      obtain ⟨k, vs, us, hk, rfl, hrr, hpl, hbel⟩ := hrel
      have hzr := hbel.size
      have hpl0 := hpl.lt
      by_cases hlt : k < s.funs.length
      · have hx : s.funs[k]? = some s.funs[k] := List.getElem?_eq_getElem hlt
        obtain ⟨ad, u, v, rfl, hPa, hel, hsu, hbv, hsx⟩ := fn_el hrd hrow hx
        have hbw := hw1.trans (hbel.mono (by omega))
        obtain ⟨r0, r1, r2, r3, r4⟩ := hel.keep (hbw.block _ (by omega))
        have hsu' := hsu.below hbw hhi
        obtain ⟨A3, n3, c3, rfl⟩ := hsu.form
        obtain ⟨A2, n2, c2, rfl⟩ := hbv.form
        have hsnoc : (s.funs.map Fn.sort).take (k + 1) = (s.funs.map Fn.sort).take k ++ [s.funs[k].sort] := by rw [List.take_add_one, List.getElem?_map, hx]; rfl
        have hlk : ((s.funs.map Fn.sort).take k).length = k := by simp; omega
        generalize (s.funs.map Fn.sort).take k = rl at *
        generalize s.funs[k] = x at *
        obtain ⟨name, sort, body⟩ := x
        simp only at r0 r1 r2 r3 r4 hsx hsu hsu' hsnoc
        have HS := Lib.hid hsnoc
        have HL := Lib.hid hlk
        have hvl : ∀ b, vs.ownBlock = some b → gg0 + 1 ≤ b ∧ b < wr.heap.size := fun b hb => World.ownsRow.lt hrr.own b hb
        have hbb := Blk.new wr 52 #[.string name, .slice A3 n3 c3, .int .i64 body.kind, .int .i64 body.num, .slice A2 n2 c2]
        have b1 := hbb.cell 1
        simp at b1
        have bx : Below wr.heap.size wr (wr.alloc (.cells #[.string name, .slice A3 n3 c3, .int .i64 body.kind, .int .i64 body.num, .slice A2 n2 c2] 52)) := (Below.refl _ _).alloc (Nat.le_refl _) _
        have hrr1 := hrr.next (by omega) bx
        have hsu1 := hsu'.below bx (by omega)
        have hpl1 := hpl.alloc (.cells #[.string name, .slice A3 n3 c3, .int .i64 body.kind, .int .i64 body.num, .slice A2 n2 c2] 52)
        have p1 := hpl1.cell 1
        simp at p1
        have HRR := Lib.hid hrr1
        have HSU := Lib.hid hsu1
        have hown1 := hrr1.own
        clear hx hel hsnoc hlk hsu hsu' hbv hrr hrr1 hsu1 hbb bx hbw
        go_wp2_with
          (at_builtin
           refine wpList_append_lies _ rfl _ _ _ rfl (gg0 + 1) 47 i0 _ 1 24 Tryz.underlying43 hi0 hz0 HZ1.out HZ2.out rfl (by omega) vs _ us (by rfl) (hown1.alloc _)
             ⟨wr.heap.size + 1, 0, none⟩ 1 1 [.slice A3 n3 c3] (by rfl) (by rfl) (World.news_of_block (cs := #[.slice A3 n3 c3]) (t := 47) (fr := (0, 0)) (by simpa using heap_alloc_new (wr.alloc (.cells #[.string name, .slice A3 n3 c3, .int .i64 body.kind, .int .i64 body.num, .slice A2 n2 c2] 52)) _)) (fun u hu => by rw [List.mem_singleton.1 hu]; rfl) (by omega) (by rw [HL.out]; simp only [maxLen]; omega) (by rw [HL.out]; omega) (by simp; omega) (wr.heap.size + 2) (by simp) ?_
           intro gg cap2 w3 hown3 hgrow hat3 hlt3
           have hpl3 : Blk w3 gg0 45 #[.slice A0 n0 c0, vs, .slice none 0 0] := (hgrow.block _ (by simp; omega) (fun e => by have := hvl _ e.symm; omega)).trans (hpl1.alloc _)
           have q1 := hpl3.cell 1
           have q2 := hpl3.frozen 1
           simp at q1)
        go_roundw
        case rel =>
          refine ⟨k + 1, _, us ++ [.slice A3 n3 c3], by omega, by go_num, ?_, (hpl3.set_ 1 _).eq_ rfl, ?_⟩
          · rw [HS.out]
            refine (HRR.out.push HSU.out (by omega) (by simp; omega) hown3 hgrow).far (fun b hb => Below.heap_setCell _ _ _ _ ?_) (fun b hb => Below.heap_setCell _ _ _ _ (by show b ≠ gg0; omega))
            have e' : gg = b := by simpa [Value.ownBlock] using hb
            subst e'
            show gg ≠ gg0
            rcases hat3 with h | h
            · have := hvl _ h; omega
            · omega
          · exact (((hbel.alloc (by omega) _).alloc (by simp; omega) _).grown hgrow (by simp; omega) (fun b hb => by have := (hvl b hb).1; omega)).setCell (by show gg0 ≤ gg0; omega) _
        case measure => simp [intOf]; omega
      · have hll : (s.funs.map Fn.sort).take k = s.sorts := List.take_of_length_le (by simp; omega)
        rw [hll] at hrr
        clear hll
        obtain ⟨A3, c3, rfl⟩ := hrr.form
        have kr := K1.out.next (hGG ▸ hbel)
        obtain ⟨g0, g1⟩ := kr.two
        have HR := Lib.hid hrr
        have HPL := Lib.hid hpl
        have hNE : ∀ b, (Value.slice A3 s.sorts.length c3).ownBlock = some b → gg0 + 1 ≤ b := fun b hb => (World.ownsRow.lt hrr.own b hb).1
        clear e0 e1 f0 f1 kr hrr hpl HB0 HP0
        go_wp2_with fail
        go_loopw [35] (fun iv wx => ∃ (j : Nat) (pv : Value), j ≤ s.funs.length ∧ iv = .int .i64 j ∧ Blk wx gg0 45 #[.slice A0 n0 c0, .slice A3 s.sorts.length c3, pv] ∧ SRow (gg0 + 1) hi wx s.sorts (.slice A3 s.sorts.length c3) us ∧ Below gg0 w1 wx) (fun i _ => s.funs.length - (intOf i).toNat)
        case atStart => exact ⟨0, _, Nat.zero_le _, rfl, HPL.out, HR.out, hbel⟩
        case round =>
          obtain ⟨j, pv, hj, rfl, hBr, hrr, hbx⟩ := hrel
          have hzx := hbx.size
          have hlB := hBr.lt
          have hbw := hw1.trans (hbx.mono (by omega))
          by_cases hlt2 : j < s.funs.length
          · have hx : s.funs[j]? = some s.funs[j] := List.getElem?_eq_getElem hlt2
            obtain ⟨ad, u, v, rfl, hPa, hel, hsu, hbv, hsx⟩ := fn_el hrd hrow hx
            obtain ⟨r0, r1, r2, r3, r4⟩ := hel.keep (hbw.block _ (by omega))
            have hsu' := hsu.below hbw hhi
            have hbv' := T.In.below hbv hbw (fun _ h => by omega)
            obtain ⟨A4, n4, c4, rfl⟩ := hsu.form
            obtain ⟨A5, n5, c5, rfl⟩ := hbv.form
            have hbd := G.bd s.funs[j] (List.getElem_mem hlt2)
            generalize s.funs[j] = x at *
            obtain ⟨name, sort, body⟩ := x
            simp only [Sc.pl] at r0 r1 r2 r3 r4 hsx hsu hsu' hbv hbv' hbd
            simp only [bodyB, Bool.and_eq_true, decide_eq_true_eq] at hbd
            obtain ⟨_, _, hE, hS⟩ := hbd
            have bx : Below gg0 wr (wr.setCell ⟨gg0, 2, none⟩ (.slice A4 n4 c4)) := (Below.refl gg0 wr).setCell (p := ⟨gg0, 2, none⟩) (Nat.le_refl _) _
            have bz : Below gg0 wr ((wr.setCell ⟨gg0, 2, none⟩ (.slice A4 n4 c4)).alloc (.cells #[.string name, .slice A4 n4 c4, .int .i64 body.kind, .int .i64 body.num, .slice A5 n5 c5] 52)) := bx.alloc (by simp [World.setCell]; omega) _
            have hBz : Blk ((wr.setCell ⟨gg0, 2, none⟩ (.slice A4 n4 c4)).alloc (.cells #[.string name, .slice A4 n4 c4, .int .i64 body.kind, .int .i64 body.num, .slice A5 n5 c5] 52)) gg0 45 #[.slice A0 n0 c0, .slice A3 s.sorts.length c3, .slice A4 n4 c4] := ((hBr.set_ 2 _).alloc _).eq_ rfl
            have hrz : SRow (gg0 + 1) hi ((wr.setCell ⟨gg0, 2, none⟩ (.slice A4 n4 c4)).alloc (.cells #[.string name, .slice A4 n4 c4, .int .i64 body.kind, .int .i64 body.num, .slice A5 n5 c5] 52)) s.sorts (.slice A3 s.sorts.length c3) us :=
              hrr.far (fun b hb => by
                have h1 := (World.ownsRow.lt hrr.own b hb).2
                have h2 : b ≠ gg0 := fun e => by have := hNE b hb; omega
                rw [Below.heap_alloc _ _ _ (by simpa [World.setCell] using h1), Below.heap_setCell _ _ _ _ h2]) (fun b hb => bz.block b (by omega))
            have hzz := bz.size
            have hsyz := (hin.sy.below (hbw.trans (bz.mono (by omega))) hhi)
            have hip : PlIn ((wr.setCell ⟨gg0, 2, none⟩ (.slice A4 n4 c4)).alloc (.cells #[.string name, .slice A4 n4 c4, .int .i64 body.kind, .int .i64 body.num, .slice A5 n5 c5] 52)) 0 ((wr.setCell ⟨gg0, 2, none⟩ (.slice A4 n4 c4)).alloc (.cells #[.string name, .slice A4 n4 c4, .int .i64 body.kind, .int .i64 body.num, .slice A5 n5 c5] 52)).heap.size ⟨s.syms, s.sorts, sort.args⟩ (.slice A0 n0 c0) (.slice A3 s.sorts.length c3) (.slice A4 n4 c4) := by
              refine ⟨hsyz.more (by omega), hrz.in_ (by omega), ?_⟩
              show (S.mk sort.args).In _ _ _ _
              rw [S.eta]
              exact (hsu'.below bz (by omega)).more (Nat.le_refl _) (by omega)
            have hib := (T.In.below hbv' bz (fun b hb => by omega)).more (fun b (hb : b < hi) => show b < ((wr.setCell ⟨gg0, 2, none⟩ (.slice A4 n4 c4)).alloc (.cells #[.string name, .slice A4 n4 c4, .int .i64 body.kind, .int .i64 body.num, .slice A5 n5 c5] 52)).heap.size by omega)
            have HT := Lib.hid (termSort_any ⟨s.syms, s.sorts, sort.args⟩ _ _ _ body _ _ _ _ hip (Nat.le_refl _) hib (fun _ h => h))
            unfold GaveS at HT
            rw [hE] at HT
            have m0 := hBr.cell 0
            have m1 := hBr.cell 1
            have m2 := hBr.cell 2
            have o2 := hBr.frozen 2
            simp at m0 m1 m2
            have HBZ := Lib.hid hBz
            have HRZ := Lib.hid hrz
            have hbz := hbx.trans bz
            generalize (Pl.sortS ⟨s.syms, s.sorts, sort.args⟩ body) = so at *
            clear hx hel hsu hsu' hbv hbv' bx bz hBz hrz hip hib hrr hBr hsyz hE
            go_wp2_with fail
            refine HT.out.mono ?_
            rintro e w4 ⟨u, rfl, hu, b4⟩
            obtain ⟨l⟩ := so
            simp only [S.In] at hu
            obtain ⟨A6, n6, c6, rfl, hn6, _⟩ := hu
            have hn0 : n6 = 0 := by
              have : l = [] := by simpa [S.args] using hS
              rw [← hn6, this]; rfl
            subst hn0
            go_wp2_with fail
            go_roundw
            case rel =>
              have hb5 : Below w4.heap.size w4 (w4.alloc (.cells #[.slice A6 0 c6] 47)) := (Below.refl _ _).alloc (Nat.le_refl _) _
              have hz4 := b4.size
              exact ⟨j + 1, _, by omega, by go_num, (HBZ.out.below b4 HBZ.out.lt).alloc _, (HRZ.out.next (by omega) b4).next (by omega) hb5, (hbz.trans (b4.mono (by omega))).trans (hb5.mono (by omega))⟩
            case measure => simp [intOf]; omega
          · obtain ⟨f0, r0, hfs⟩ : ∃ f r, s.funs = f :: r := by
              cases hh : s.funs with
              | nil => have := G.n1; rw [hh] at this; simp at this
              | cons f r => exact ⟨f, r, rfl⟩
            have hx0 : s.funs[0]? = some f0 := by rw [hfs]; rfl
            have hst : f0.sort.args.isEmpty = true := by have := G.st; unfold Sc.start at this; rw [hfs] at this; exact this
            obtain ⟨ad, u0, b0, rfl, hPa, hel0, hsu0, hbv0, _⟩ := fn_el hrd hrow hx0
            have q1 := (hel0.keep (hbw.block _ (by omega))).zero
            have hsu0' := hsu0
            rw [← S.eta f0.sort] at hsu0'
            simp only [S.In] at hsu0'
            obtain ⟨A7, n7, c7, rfl, hn7, _⟩ := hsu0'
            have hn0 : n7 = 0 := by
              have : f0.sort.args = [] := by simpa using hst
              rw [← hn7, this]; rfl
            subst hn0
            have hll : 0 < s.funs.length := by have := G.n1; omega
            have kx := K1.out.next (hGG ▸ hbx)
            obtain ⟨t0, t1⟩ := kx.two
            have HA := Lib.hid (aliveS_any _ kx.g kx.lt.2)
            clear hx0 hfs hst hel0 hsu0 hbv0 hn7 g0 g1
            go_wp2_with fail
            refine HA.out.mono ?_
            rintro e w5 ⟨rfl, b5⟩
            have k5 := kx.next b5
            go_wp2_with fail
            go_ret
            exact ⟨rfl, k5.k.bel⟩
end Go.Proofs.YthgkgjbjiiedaaaGreatDoor
