/-
  term.fill: the term with args in the place of its variables, in memory of its own.
-/
import Derived.Test.YtmggccgjhjknpaaTClone
import Derived.Test.YtmggccgjhjknpaaTSub
namespace Go.Proofs.Ytmggccgjhjknpaa
open Go.RowKit

theorem fill1_results {tmps : Array Value} {w : World} {a : Nat} {x y z : Value} (h2 : tmps.getD 3 undef = .pointer (some ⟨a, 0, none⟩))
    (ha : Blk w a 35 #[x, y, z]) : (results Try.f91 tmps).run Try.prog w = .ok (.agg #[x, y, z]) w := by
  have h4 := ha.cell 0
  have h5 := ha.cell 1
  have h6 := ha.cell 2
  simp at h4 h5 h6
  have h2' : tmps[3]?.getD undef = .pointer (some ⟨a, 0, none⟩) := by simpa using h2
  simp [results, Try.results91, go_sem, h2', h4, h5, h6]
theorem fill_results {tmps : Array Value} {w : World} {a : Nat} {x y z : Value} (h2 : tmps.getD 4 undef = .pointer (some ⟨a, 0, none⟩))
    (ha : Blk w a 35 #[x, y, z]) : (results Try.f65 tmps).run Try.prog w = .ok (.agg #[x, y, z]) w := by
  have h4 := ha.cell 0
  have h5 := ha.cell 1
  have h6 := ha.cell 2
  simp at h4 h5 h6
  have h2' : tmps[4]?.getD undef = .pointer (some ⟨a, 0, none⟩) := by simpa using h2
  simp [results, Try.results65, go_sem, h2', h4, h5, h6]

set_option maxHeartbeats 800000 in
theorem fill1_any {x y : T} {v : Value} {W : World} {b : Nat} {u : Value} {P : Nat → Prop} (hin : x.In W P v) (hb : Blk W b 33 #[u]) (hu : ∃ A n c, u = .slice A n c)
    (hct : ∀ W', Below W.heap.size W W' → Calls Try.prog 65 #[.agg #[.int .i64 x.kind, .int .i64 x.num, v], u] W' (Made y W')) :
    Calls Try.prog 91 #[.agg #[.int .i64 x.kind, .int .i64 x.num, v], .pointer (some ⟨b, 0, none⟩)] W (Made y W) := by
  have hl := hb.lt
  have c0 := hb.cell 0
  obtain ⟨A, n, c, rfl⟩ := hin.form
  obtain ⟨A1, n1, c1, rfl⟩ := hu
  have hw2 : Below W.heap.size W ((W.alloc (.cells #[.int .i64 x.kind, .int .i64 x.num, .slice A n c] 35)).alloc (.cells #[.int .i64 0, .int .i64 0, .slice none 0 0] 35)) := ((Below.refl _ _).alloc (Nat.le_refl _) _).alloc (by simp) _
  have hb2 : Blk ((W.alloc (.cells #[.int .i64 x.kind, .int .i64 x.num, .slice A n c] 35)).alloc (.cells #[.int .i64 0, .int .i64 0, .slice none 0 0] 35)) (W.heap.size + 1) 35 #[.int .i64 0, .int .i64 0, .slice none 0 0] := by
    simpa using Blk.new (W.alloc (.cells #[.int .i64 x.kind, .int .i64 x.num, .slice A n c] 35)) 35 #[.int .i64 0, .int .i64 0, .slice none 0 0]
  have HC := Lib.hid (hct _ hw2)
  clear hct
  go_enter Try.func91, Try.ntmps91
  go_wp2_with fail
  refine HC.out.mono ?_
  rintro e w1 ⟨v1, us1, rfl, hm1, hb1⟩
  simp only [World.size_alloc] at hb1 hm1
  have k2 := hb2.below hb1 (by omega)
  have p0 := k2.cell 0
  have p1 := k2.cell 1
  have p2 := k2.cell 2
  have f0 := k2.frozen 0
  have f1 := k2.frozen 1
  have f2 := k2.frozen 2
  obtain ⟨A2, c2, rfl⟩ := hm1.form
  go_wp2_with fail
  refine bodyPost_ret (fill1_results rfl ((((k2.set_ 0 _).set_ 1 _).set_ 2 _).eq_ rfl)) rfl ⟨_, us1, rfl, ?_, ?_⟩
  · exact (((hm1.set (by simp) _).set (by simp) _).set (by simp) _).less (by omega)
  · exact (((hw2.trans (hb1.mono (by omega))).setCell (by simp) _).setCell (by simp) _).setCell (by simp) _

set_option maxRecDepth 100000 in
set_option maxHeartbeats 1600000 in
theorem fill_any (gs : List T) (K : Nat) : ∀ (t : T) (v u : Value) (w : World) (P Q : Nat → Prop), t.count ≤ K → t.count ≤ 100000 → t.cov gs.length = true → (t.sub gs).count ≤ 100000 → t.In w P v → Old P w → T.InL w Q gs u → Old Q w →
    Calls Try.prog 65 #[.agg #[.int .i64 t.kind, .int .i64 t.num, v], u] w (Made (t.sub gs) w) := by
  induction K with
  | zero => intro t; have := t.count_pos; omega
  | succ K ih =>
    intro t v u w P Q hK hm hcov hfit hin hold hins holds
    obtain ⟨kd, nm, l⟩ := t
    have hinL : T.InL w P l v := T.InL.of hin
    simp only [T.cov, Bool.and_eq_true] at hcov
    obtain ⟨hcov1, hcovL⟩ := hcov
    rw [T.count_sub] at hfit
    simp only [T.count] at hm hK
    simp only [T.kind, T.num]
    obtain ⟨A, n, c, rfl⟩ := hin.form
    have hins0 := hins
    unfold T.InL at hins0
    simp only [T.In] at hins0
    obtain ⟨A1, n1, c1, us, rfl, hn1, hnc1, hc1, hrd, hrow⟩ := hins0
    have hw4 : Below w.heap.size w ((((w.alloc (.cells #[.int .i64 kd, .int .i64 nm, .slice A n c] 35)).alloc (.cells #[.slice A1 n1 c1] 33)).alloc (.cells #[.int .i64 0, .int .i64 0, .slice none 0 0] 35)).alloc (.cells #[.int .i64 kd, .int .i64 nm, .slice none 0 0] 35)) := ((((Below.refl _ _).alloc (Nat.le_refl _) _).alloc (by simp) _).alloc (by simp; omega) _).alloc (by simp; omega) _
    -- what is held from here on, whatever the head
    have hstep : ∀ (hd : T) (v0 : Value) (us0 : List Value) (W : World), hd.count + T.countL (T.subL gs l) ≤ 100000 → Blk W (w.heap.size + 1) 33 #[.slice A1 n1 c1] → w.heap.size + 4 ≤ W.heap.size → Below w.heap.size w W → Mk (w.heap.size + 4) W hd.args v0 us0 →
        Calls Try.prog 90 #[v0, .slice A n c, .func (.func 91) #[] #[.pointer (some ⟨w.heap.size + 1, 0, none⟩)]] W fun e w' => ∃ v us, e = .returned v ∧ Mk (w.heap.size + 4) w' (hd.args ++ T.subL gs l) v us ∧ Saves (fun b => v0.ownBlock = some b) W w' := by
      intro hd v0 us0 W hcnt hbW hzW hbel hmk
      have hown : ∀ b, v0.ownBlock = some b → w.heap.size + 4 ≤ b := fun b hb => (hmk.lt hb).1
      rw [T.subL_map]
      have hlen1 := T.length_le hd.args
      have hlen2 := T.length_le (T.subL gs l)
      have hlen3 : (T.subL gs l).length = l.length := by rw [T.subL_map]; simp
      rw [T.count_eta hd] at hcnt
      refine appendEach_any (F := 91) Try.call91 (T.sub gs) hd.args l v0 _ us0 hmk hzW (T.In.below hinL hbel hold) (hold.bel hbel) (fun b hb e => by have := hold b hb; have := hown b e; omega) (by omega) ?_
      intro x ux W' hx hxin hsv
      have hbW' := hbW.saves hsv (fun e => by have := hown _ e; omega)
      refine fill1_any hxin hbW' ⟨_, _, _, rfl⟩ ?_
      intro W2 hb2
      have hcx := T.count_mem hx
      have hcy := T.subL_mem gs hx
      refine ih x ux _ W2 P Q (by omega) (by omega) (T.covL_mem hcovL hx) (by omega) (hxin.old ((hold.bel hbel).le hsv.size) hb2) (((hold.bel hbel).le hsv.size).bel hb2) ?_ (((holds.bel hbel).le hsv.size).bel hb2)
      exact T.In.old (T.In.saves (T.In.below hins hbel holds) hsv (fun b hb => ⟨(holds.bel hbel) b hb, fun e => by have := hown b e; have := holds b hb; omega⟩)) ((holds.bel hbel).le hsv.size) hb2
    have hsubeq : (T.mk kd nm l).sub gs = .mk (T.head gs kd nm).kind (T.head gs kd nm).num ((T.head gs kd nm).args ++ T.subL gs l) := by simp only [T.sub]
    rw [hsubeq]
    have HST := Lib.hid hstep
    clear hstep ih hsubeq
    have hbA : Blk ((((w.alloc (.cells #[.int .i64 kd, .int .i64 nm, .slice A n c] 35)).alloc (.cells #[.slice A1 n1 c1] 33)).alloc (.cells #[.int .i64 0, .int .i64 0, .slice none 0 0] 35)).alloc (.cells #[.int .i64 kd, .int .i64 nm, .slice none 0 0] 35)) w.heap.size 35 #[.int .i64 kd, .int .i64 nm, .slice A n c] := (((Blk.new _ _ _).alloc _).alloc _).alloc _
    have hbB : Blk ((((w.alloc (.cells #[.int .i64 kd, .int .i64 nm, .slice A n c] 35)).alloc (.cells #[.slice A1 n1 c1] 33)).alloc (.cells #[.int .i64 0, .int .i64 0, .slice none 0 0] 35)).alloc (.cells #[.int .i64 kd, .int .i64 nm, .slice none 0 0] 35)) (w.heap.size + 1) 33 #[.slice A1 n1 c1] := by
      simpa using ((Blk.new (w.alloc (.cells #[.int .i64 kd, .int .i64 nm, .slice A n c] 35)) 33 #[.slice A1 n1 c1]).alloc (.cells #[.int .i64 0, .int .i64 0, .slice none 0 0] 35)).alloc (.cells #[.int .i64 kd, .int .i64 nm, .slice none 0 0] 35)
    have hbC : Blk ((((w.alloc (.cells #[.int .i64 kd, .int .i64 nm, .slice A n c] 35)).alloc (.cells #[.slice A1 n1 c1] 33)).alloc (.cells #[.int .i64 0, .int .i64 0, .slice none 0 0] 35)).alloc (.cells #[.int .i64 kd, .int .i64 nm, .slice none 0 0] 35)) (w.heap.size + 1 + 1) 35 #[.int .i64 0, .int .i64 0, .slice none 0 0] := by
      simpa using (Blk.new ((w.alloc (.cells #[.int .i64 kd, .int .i64 nm, .slice A n c] 35)).alloc (.cells #[.slice A1 n1 c1] 33)) 35 #[.int .i64 0, .int .i64 0, .slice none 0 0]).alloc (.cells #[.int .i64 kd, .int .i64 nm, .slice none 0 0] 35)
    have hbD : Blk ((((w.alloc (.cells #[.int .i64 kd, .int .i64 nm, .slice A n c] 35)).alloc (.cells #[.slice A1 n1 c1] 33)).alloc (.cells #[.int .i64 0, .int .i64 0, .slice none 0 0] 35)).alloc (.cells #[.int .i64 kd, .int .i64 nm, .slice none 0 0] 35)) (w.heap.size + 1 + 1 + 1) 35 #[.int .i64 kd, .int .i64 nm, .slice none 0 0] := by
      simpa using Blk.new (((w.alloc (.cells #[.int .i64 kd, .int .i64 nm, .slice A n c] 35)).alloc (.cells #[.slice A1 n1 c1] 33)).alloc (.cells #[.int .i64 0, .int .i64 0, .slice none 0 0] 35)) 35 #[.int .i64 kd, .int .i64 nm, .slice none 0 0]
    have hl3 : w.heap.size + 1 + 1 + 1 < w.heap.size + 4 := by omega
    have hl2 : w.heap.size + 1 + 1 < w.heap.size + 4 := by omega
    by_cases hk : kd = 0
    · subst hk
      have hjj : ∃ j : Nat, nm = (j : Int) ∧ j < gs.length := by
        simp [cov1] at hcov1
        exact ⟨nm.toNat, by omega, by omega⟩
      obtain ⟨j, rfl, hj⟩ := hjj
      have ha : gs[j]? = some gs[j] := List.getElem?_eq_getElem hj
      have hhd := T.head_var (gs := gs) (n := (j : Int)) rfl ha
      rw [hhd] at hfit ⊢
      obtain ⟨ad, ua, rfl, hQ, hel, hina⟩ := T.In.el hrd hrow ha
      obtain ⟨r0, r1, r2⟩ := hel.keep (hw4.block _ (holds _ hQ))
      have hina4 := T.In.below hina hw4 holds
      have hold4 := holds.bel hw4
      generalize gs[j] = a at *
      obtain ⟨A', n', c', rfl⟩ := hina.form
      have HC := Lib.hid (cloneT_any _ a _ _ Q (Nat.le_refl _) (by omega) hina4 hold4)
      have HN1 := Lib.hid hn1
      have hjn : j < n1 := by omega
      clear ha hhd hel hcov1 hn1
      go_enter Try.func65, Try.ntmps65
      go_wp2_with fail
      refine HC.out.mono ?_
      rintro e w0 ⟨v0, us0, rfl, hm0, hb0⟩
      have hm0' : Mk (w.heap.size + 4) w0 a.args v0 us0 := by simpa using hm0
      have hz0 := hb0.size
      simp only [World.size_alloc] at hz0 hb0
      obtain ⟨A0, c0, rfl⟩ := hm0.form
      have g2 := hbB.below hb0 (by omega)
      have g1 := hbA.below hb0 (by omega)
      have g3 := hbC.below hb0 (by omega)
      have g4 := hbD.below hb0 (by omega)
      have x0 := g4.cell 0
      have x1 := g4.cell 1
      have x2 := g4.cell 2
      have x3 := g4.frozen 0
      have x4 := g4.frozen 1
      have x5 := g4.frozen 2
      have y0 := g1.cell 0
      have y1 := g1.cell 1
      have y2 := g1.cell 2
      have t2 := ((g2.far (p := ⟨w.heap.size + 1 + 1 + 1, 0, none⟩) (by simp) (.int .i64 a.kind)).far (p := ⟨w.heap.size + 1 + 1 + 1, 1, none⟩) (by simp) (.int .i64 a.num)).far (p := ⟨w.heap.size + 1 + 1 + 1, 2, none⟩) (by simp) (.slice A0 a.args.length c0)
      have t3 := ((g3.far (p := ⟨w.heap.size + 1 + 1 + 1, 0, none⟩) (by simp) (.int .i64 a.kind)).far (p := ⟨w.heap.size + 1 + 1 + 1, 1, none⟩) (by simp) (.int .i64 a.num)).far (p := ⟨w.heap.size + 1 + 1 + 1, 2, none⟩) (by simp) (.slice A0 a.args.length c0)
      have t4 := (((g4.set_ 0 (.int .i64 a.kind)).set_ 1 (.int .i64 a.num)).set_ 2 (.slice A0 a.args.length c0)).eq_ (cs' := #[.int .i64 a.kind, .int .i64 a.num, .slice A0 a.args.length c0]) rfl
      have hbw : Below w.heap.size w (((w0.setCell ⟨w.heap.size + 1 + 1 + 1, 0, none⟩ (.int .i64 a.kind)).setCell ⟨w.heap.size + 1 + 1 + 1, 1, none⟩ (.int .i64 a.num)).setCell ⟨w.heap.size + 1 + 1 + 1, 2, none⟩ (.slice A0 a.args.length c0)) :=
        (((hw4.trans (hb0.mono (by omega))).setCell (by simp; omega) _).setCell (by simp; omega) _).setCell (by simp; omega) _
      have HD := Lib.hid (HST.out a _ us0 _ hfit t2 (by simp [World.setCell]; omega) hbw (((hm0'.put hl3 _).put hl3 _).put hl3 _))
      have hm0L := hm0'
      clear hm0 hm0'
      go_wp2_with fail
      refine HD.out.mono ?_
      rintro e w1 ⟨v1, us1, rfl, hm1, hs1⟩
      have hown : ∀ b, (Value.slice A0 a.args.length c0).ownBlock = some b → w.heap.size + 4 ≤ b := fun b hb => (hm0L.lt hb).1
      obtain ⟨A2, c2, rfl⟩ := hm1.form
      simp only [List.length_append] at hm1
      have k3 := t3.saves hs1 (fun e => by have := hown _ e; omega)
      have k4 := t4.saves hs1 (fun e => by have := hown _ e; omega)
      have p0 := k4.cell 0
      have p1 := k4.cell 1
      have p2 := k4.cell 2
      have p3 := k4.frozen 2
      have q0 := k3.cell 0
      have q1 := k3.cell 1
      have q2 := k3.cell 2
      have q3 := k3.frozen 0
      have q4 := k3.frozen 1
      have q5 := k3.frozen 2
      go_wp2_with fail
      refine bodyPost_ret (fill_results rfl (((((k3.far (by simp) _).set_ 0 _).set_ 1 _).set_ 2 _).eq_ rfl)) rfl ⟨_, us1, rfl, ?_, ?_⟩
      · exact Mk.less (B := w.heap.size + 4) ((((hm1.put hl3 _).put hl2 _).put hl2 _).put hl2 _) (by omega)
      · have hb1 := hs1.below (B := w.heap.size) (by simp [World.setCell]; omega) (fun k hk e => by have := hown k e; omega)
        exact ((((hbw.trans hb1).setCell (by simp; omega) _).setCell (by simp; omega) _).setCell (by simp; omega) _).setCell (by simp; omega) _
    · have hkb : (kd == 0) = false := by simpa using hk
      rw [T.head_not hk] at hfit ⊢
      have HC := Lib.hid (HST.out (.mk kd nm []) (.slice none 0 0) [] _ hfit hbB (by simp) hw4 (Mk.nil _ _))
      go_enter Try.func65, Try.ntmps65
      go_wp2_with fail
      refine HC.out.mono ?_
      rintro e w1 ⟨v1, us1, rfl, hm1, hs1⟩
      obtain ⟨A2, c2, rfl⟩ := hm1.form
      simp only [List.length_append] at hm1
      have k3 := hbC.saves hs1 (by simp [Value.ownBlock])
      have k4 := hbD.saves hs1 (by simp [Value.ownBlock])
      have p0 := k4.cell 0
      have p1 := k4.cell 1
      have p2 := k4.cell 2
      have p3 := k4.frozen 2
      have q0 := k3.cell 0
      have q1 := k3.cell 1
      have q2 := k3.cell 2
      have q3 := k3.frozen 0
      have q4 := k3.frozen 1
      have q5 := k3.frozen 2
      go_wp2_with fail
      refine bodyPost_ret (fill_results rfl (((((k3.far (by simp) _).set_ 0 _).set_ 1 _).set_ 2 _).eq_ rfl)) rfl ⟨_, us1, rfl, ?_, ?_⟩
      · exact Mk.less (B := w.heap.size + 4) ((((hm1.put hl3 _).put hl2 _).put hl2 _).put hl2 _) (by omega)
      · exact ((((hw4.trans (hs1.below (B := w.heap.size) (by simp; omega) (fun _ _ => by simp [Value.ownBlock]))).setCell (by simp; omega) _).setCell (by simp; omega) _).setCell (by simp; omega) _).setCell (by simp; omega) _
end Go.Proofs.Ytmggccgjhjknpaa
