/-
  The reference's Replace: what it returns is the term with args in the place of its variables, in memory of its own.
-/
import Derived.Test.YtmggccgjhjknpaaTGrown
import Derived.Test.YtmggccgjhjknpaaTCopy
namespace Go.Proofs.Ytmggccgjhjknpaa
open Go.RowKit

theorem replaceT_results {tmps : Array Value} {w : World} {a : Nat} {x y z : Value} (h2 : tmps.getD 4 undef = .pointer (some ⟨a, 0, none⟩))
    (ha : Blk w a 35 #[x, y, z]) : (results Try.f67 tmps).run Try.prog w = .ok (.agg #[x, y, z]) w := by
  have h4 := ha.cell 0
  have h5 := ha.cell 1
  have h6 := ha.cell 2
  simp at h4 h5 h6
  have h2' : tmps[4]?.getD undef = .pointer (some ⟨a, 0, none⟩) := by simpa using h2
  simp [results, Try.results67, go_sem, h2', h4, h5, h6]
/-- What the loop of Replace holds. -/
def Rpl (gs : List T) (hd : T) (l : List T) (w0 : World) (i : Value) (w : World) : Prop :=
  ∃ (k : Nat) (cv : Value) (us : List Value), k ≤ l.length ∧ i = .int .i64 k ∧ RoundT (hd.args ++ T.subL gs (l.take k)) hd.kind hd.num w0.heap.size w0 cv us w

set_option maxRecDepth 100000 in
set_option maxHeartbeats 3200000 in
theorem replace_any (gs : List T) (K : Nat) : ∀ (t : T) (v u : Value) (w : World) (P Q : Nat → Prop), t.count ≤ K → t.count ≤ 100000 → t.cov gs.length = true → (t.sub gs).count ≤ 100000 → t.In w P v → Old P w → T.InL w Q gs u → Old Q w →
    Calls Try.prog 67 #[.agg #[.int .i64 t.kind, .int .i64 t.num, v], u] w (Made (t.sub gs) w) := by
  induction K with
  | zero => intro t; have := t.count_pos; omega
  | succ K ih =>
    intro t v u w P Q hK hm hcov hfit hin hold hins holds
    have HIH0 := Lib.hid ih
    clear ih
    obtain ⟨i0, hi0, hz0, hz1, hz2⟩ := info_parts term_info
    obtain ⟨kd, nm, l⟩ := t
    simp only [T.In] at hin
    obtain ⟨A, _, c, us0, rfl, rfl, hnc, hc, hrd, hrow⟩ := hin
    obtain ⟨A1, n1, c1, rfl⟩ := T.In.form hins
    have hn1 := T.InL.len hins
    subst hn1
    simp only [T.kind, T.num]
    simp only [T.cov, Bool.and_eq_true] at hcov
    obtain ⟨hcov1, hcovL⟩ := hcov
    rw [T.count_sub] at hfit
    have hlen := T.length_le l
    simp only [T.count] at hm hK
    have hsub : (T.mk kd nm l).sub gs = .mk (T.head gs kd nm).kind (T.head gs kd nm).num ((T.head gs kd nm).args ++ T.subL gs l) := by simp only [T.sub]
    have hbC : Blk (((w.alloc (.cells #[.int .i64 kd, .int .i64 nm, .slice A l.length c] 35)).alloc (.cells #[.int .i64 0, .int .i64 0, .slice none 0 0] 35)).alloc (.cells #[.int .i64 kd, .int .i64 nm, .slice none 0 0] 35)) (w.heap.size + 1) 35 #[.int .i64 0, .int .i64 0, .slice none 0 0] :=
      (by simpa using Blk.new (w.alloc (.cells #[.int .i64 kd, .int .i64 nm, .slice A l.length c] 35)) 35 #[.int .i64 0, .int .i64 0, .slice none 0 0] : Blk ((w.alloc (.cells #[.int .i64 kd, .int .i64 nm, .slice A l.length c] 35)).alloc (.cells #[.int .i64 0, .int .i64 0, .slice none 0 0] 35)) (w.heap.size + 1) 35 #[.int .i64 0, .int .i64 0, .slice none 0 0]).alloc _
    have hbD : Blk (((w.alloc (.cells #[.int .i64 kd, .int .i64 nm, .slice A l.length c] 35)).alloc (.cells #[.int .i64 0, .int .i64 0, .slice none 0 0] 35)).alloc (.cells #[.int .i64 kd, .int .i64 nm, .slice none 0 0] 35)) (w.heap.size + 1 + 1) 35 #[.int .i64 kd, .int .i64 nm, .slice none 0 0] := by
      simpa using Blk.new ((w.alloc (.cells #[.int .i64 kd, .int .i64 nm, .slice A l.length c] 35)).alloc (.cells #[.int .i64 0, .int .i64 0, .slice none 0 0] 35)) 35 #[.int .i64 kd, .int .i64 nm, .slice none 0 0]
    have hbA : Blk (((w.alloc (.cells #[.int .i64 kd, .int .i64 nm, .slice A l.length c] 35)).alloc (.cells #[.int .i64 0, .int .i64 0, .slice none 0 0] 35)).alloc (.cells #[.int .i64 kd, .int .i64 nm, .slice none 0 0] 35)) w.heap.size 35 #[.int .i64 kd, .int .i64 nm, .slice A l.length c] := ((Blk.new _ _ _).alloc _).alloc _
    have hw3 : Below w.heap.size w (((w.alloc (.cells #[.int .i64 kd, .int .i64 nm, .slice A l.length c] 35)).alloc (.cells #[.int .i64 0, .int .i64 0, .slice none 0 0] 35)).alloc (.cells #[.int .i64 kd, .int .i64 nm, .slice none 0 0] 35)) := (((Below.refl _ _).alloc (Nat.le_refl _) _).alloc (by simp) _).alloc (by simp; omega) _
    by_cases hk : kd = 0
    · subst hk
      have hjj : ∃ j : Nat, nm = (j : Int) ∧ j < gs.length := by
        simp [cov1] at hcov1
        exact ⟨nm.toNat, by omega, by omega⟩
      obtain ⟨j, rfl, hj⟩ := hjj
      have ha : gs[j]? = some gs[j] := List.getElem?_eq_getElem hj
      have hhd := T.head_var (gs := gs) (n := (j : Int)) rfl ha
      rw [hhd] at hfit hsub
      have hins' := hins
      unfold T.InL at hins'
      simp only [T.In] at hins'
      obtain ⟨_, _, _, us1, he, _, hnc1, hc1, hrd1, hrow1⟩ := hins'
      injection he with e1 e2 e3
      subst e1 e2 e3
      obtain ⟨ad1, ua, rfl, hQ, hel, hina⟩ := T.In.el hrd1 hrow1 ha
      obtain ⟨r0, r1, r2⟩ := hel.keep (hw3.block _ (holds _ hQ))
      have hina3 := T.In.below hina hw3 holds
      generalize gs[j] = hd at *
      obtain ⟨A', n', c', rfl⟩ := hina.form
      have HC := Lib.hid (copyT_any _ hd _ _ Q (Nat.le_refl _) (by omega) hina3 (holds.bel hw3))
      have hlh := T.length_le hd.args
      have hch := T.count_eta hd
      clear ha hhd hel hcov1 hrow1 hrd1 hina hina3
      have HSub := Lib.hid hsub
      clear hsub
      go_enter Try.func67, Try.ntmps67
      go_wp2_with fail
      refine HC.out.mono ?_
      rintro e w4 ⟨v4, us4, rfl, hm4, hb4⟩
      obtain ⟨A4, c4, rfl⟩ := hm4.form
      have hz4 := hb4.size
      simp only [World.size_alloc] at hb4 hm4 hz4
      have g1 := hbA.below hb4 (by omega)
      have g3 := hbC.below hb4 (by omega)
      have g4 := hbD.below hb4 (by omega)
      have x0 := g4.cell 0
      have x1 := g4.cell 1
      have x2 := g4.cell 2
      have x3 := g4.frozen 0
      have x4 := g4.frozen 1
      have x5 := g4.frozen 2
      have y0 := g1.cell 0
      have y1 := g1.cell 1
      have y2 := g1.cell 2
      simp at x0 x1 x2 y0 y1 y2
      have HS0 : Hid (Rpl gs hd l w (.int .i64 0) (((w4.setCell ⟨w.heap.size + 1 + 1, 0, none⟩ (.int .i64 hd.kind)).setCell ⟨w.heap.size + 1 + 1, 1, none⟩ (.int .i64 hd.num)).setCell ⟨w.heap.size + 1 + 1, 2, none⟩ (.slice A4 hd.args.length c4))) := Lib.hid (by
        refine ⟨0, _, us4, Nat.zero_le _, rfl, ?_, (((g4.set_ 0 _).set_ 1 _).set_ 2 _).eq_ rfl, ((g3.far (p := ⟨w.heap.size + 1 + 1, 0, none⟩) (by simp) _).far (p := ⟨w.heap.size + 1 + 1, 1, none⟩) (by simp) _).far (p := ⟨w.heap.size + 1 + 1, 2, none⟩) (by simp) _, (((hw3.trans (hb4.mono (by omega))).setCell (by simp; omega) _).setCell (by simp; omega) _).setCell (by simp; omega) _⟩
        have hnil : hd.args ++ T.subL gs (l.take 0) = hd.args := by simp [T.subL]
        rw [hnil]
        exact Mk.less (B := w.heap.size + 1 + 1 + 1) (((hm4.put (by omega) _).put (by omega) _).put (by omega) _) (by omega))
      clear hbA hbC hbD hm4 g1 g3 HC
      go_wp2_with fail
      go_loopw [25] (fun i wr => Rpl gs hd l w i wr) (fun i _ => l.length - (intOf i).toNat)
      case atStart => exact HS0.out
      case round =>
        obtain ⟨k, cv, us, hk, rfl, hr⟩ := hrel
        have hsz := hr.bel.size
        have hsz1 := hr.out.lt
        by_cases hlt : k < l.length
        · have hx : l[k]? = some l[k] := List.getElem?_eq_getElem hlt
          have hcl := T.count_lt (a := 0) (b := 0) hx
          simp only [T.count] at hcl
          have hmem : l[k] ∈ l := List.getElem_mem hlt
          have hcy := T.subL_mem gs hmem
          obtain ⟨ad, u, rfl, hPa, hel, hinx⟩ := T.In.el hrd hrow hx
          obtain ⟨r0, r1, r2⟩ := hel.keep (hr.bel.block _ (hold _ hPa))
          obtain ⟨A', n', c', rfl⟩ := hinx.form
          have hw1 := hr.bel.alloc hsz (.cells #[.int .i64 l[k].kind, .int .i64 l[k].num, .slice A' n' c'] 35)
          have hinr := hinx.old hold hw1
          have hinsr := T.In.old hins holds hw1
          have d0 := (hr.out.alloc (.cells #[.int .i64 l[k].kind, .int .i64 l[k].num, .slice A' n' c'] 35)).cell 2
          have hxB := Blk.new wr 35 #[.int .i64 l[k].kind, .int .i64 l[k].num, .slice A' n' c']
          have d1 := hxB.cell 0
          have d2 := hxB.cell 1
          have d3 := hxB.cell 2
          have hih := fun w' (h : Below (wr.heap.size + 1) (wr.alloc (.cells #[.int .i64 l[k].kind, .int .i64 l[k].num, .slice A' n' c'] 35)) w') => HIH0.out l[k] (.slice A' n' c') (.slice (some ad1) gs.length c1) w' P Q (by omega) (by omega) (T.covL_mem hcovL hmem) (by omega) (hinr.below h (fun b hb => by have := hold b hb; omega)) ((hold.bel hw1).le h.size) (T.In.below hinsr h (fun b hb => by have := holds b hb; omega)) ((holds.bel hw1).le h.size)
          have hsnoc : hd.args ++ T.subL gs (l.take (k + 1)) = (hd.args ++ T.subL gs (l.take k)) ++ [l[k].sub gs] := by rw [List.take_add_one, hx, T.subL_append, List.append_assoc]; simp [T.subL]
          have hkl : (hd.args ++ T.subL gs (l.take k)).length = hd.args.length + k := by rw [List.length_append, T.subL_map, List.length_map, List.length_take]; omega
          generalize hd.args ++ T.subL gs (l.take k) = ml at *
          generalize l[k].sub gs = y at *
          have HIH := Lib.hid hih
          have HX := Lib.hid hx
          have HS := Lib.hid hsnoc
          have HL := Lib.hid hkl
          generalize l[k] = x at *
          clear hih hx hel hsnoc hkl hmem
          go_wp2_with fail
          go_region_law
            (first
              | (refine step_append_lies _ (by rfl) _ _ _ (by rfl) (w.heap.size + 3) 35 i0 _ 3 40 Try.underlying33 hi0 hz0 hz1 hz2 rfl (by omega) cv _ us (by rfl) (by exact (hown1.alloc _))
                  ⟨w1.heap.size, 0, none⟩ 1 1 [.int .i64 y.kind, .int .i64 y.num, v1] (by rfl) (by rfl) (by exact World.news_of_block (cs := #[.int .i64 y.kind, .int .i64 y.num, v1]) (t := 35) (fr := (0, 0)) (heap_alloc_new w1 _)) (by exact hones _ _ _ hone) (by omega) (by rw [HL.out]; simp only [maxLen]; omega) (by rw [HL.out]; omega) (by simp; omega) (w1.heap.size + 1) (by simp) ?_; intro gg cap w2 hown2 hgrow hat hlt2
                 have hblk2 : Blk w2 (w.heap.size + 1 + 1) 35 #[.int .i64 hd.kind, .int .i64 hd.num, cv] := (hgrow.block _ (by simp; omega) (fun e => by have := (hr.lst.lt e.symm).1; omega)).trans (hblk1.alloc _)
                 have hxb2 : Blk w2 wr.heap.size 35 #[.int .i64 x.kind, .int .i64 x.num, .slice A' n' c'] := (hgrow.block _ (by simp; omega) (fun e => by have := (hr.lst.lt e.symm).2; omega)).trans (hxb1.alloc _)
                 have s1 := hblk2.cell 2
                 have s2 := hxb2.cell 0
                 have s3 := hxb2.cell 1
                 have s4 := hxb2.cell 2
                 have s5 := hblk2.frozen 2
                 simp at s1 s2 s3 s4)
              | (go_simp; go_at_call 67; refine (HIH.out _ (by exact (Below.refl _ _).drew)).mono ?_; rintro e w1 ⟨v1, us1, rfl, hm1, hb1⟩
                 have hone : v1.oneCell' = true := by obtain ⟨A1, c1, rfl⟩ := hm1.form; rfl
                 have hwz : wr.heap.size + 1 ≤ w1.heap.size := by have h : (wr.alloc (.cells #[.int .i64 x.kind, .int .i64 x.num, .slice A' n' c'] 35)).heap.size ≤ w1.heap.size := hb1.size; simpa using h
                 have hbb1 : Below (wr.heap.size + 1) (wr.alloc (.cells #[.int .i64 x.kind, .int .i64 x.num, .slice A' n' c'] 35)).drew w1 := hb1.mono (by show _ ≤ (wr.alloc _).heap.size; simp)
                 have hown1 : w1.ownsRow (w.heap.size + 3) 35 3 cv ml.length us := owns_kept3 ((hr.lst.own.alloc _).drew) (fun b hb => hbb1.block b (by have := (hr.lst.lt hb).2; omega))
                 have hblk1 : Blk w1 (w.heap.size + 1 + 1) 35 #[.int .i64 hd.kind, .int .i64 hd.num, cv] := ((hr.out.alloc _).drew).below hbb1 (by omega)
                 have hxb1 : Blk w1 wr.heap.size 35 #[.int .i64 x.kind, .int .i64 x.num, .slice A' n' c'] := ((Blk.new wr 35 _).drew).below hbb1 (by omega)
                 have q1 := hblk1.cell 2
                 have q2 := hxb1.cell 0
                 have q3 := hxb1.cell 1
                 have q4 := hxb1.cell 2
                 have q5 : (w1.alloc (.cells #[.int .i64 y.kind, .int .i64 y.num, v1] 35)).cell? ⟨w.heap.size + 1 + 1, 2, none⟩ = some cv := (hblk1.alloc _).cell 2
                 simp at q1 q2 q3 q4))
          all_goals
            go_wp2_with fail
            go_roundw
            case rel => exact ⟨k + 1, _, _, by omega, by go_num, by rw [HS.out]; exact hr.next (by simpa [World.drew] using hm1) hbb1 hwz hown2 hgrow hat⟩
            case measure => simp [intOf]; omega
        · have hll : l.take k = l := List.take_of_length_le (by omega)
          rw [hll] at hr
          obtain ⟨A3, c3, rfl⟩ := hr.lst.form
          simp only [List.length_append] at hr
          have c0 := hr.out.cell 0
          have c1 := hr.out.cell 1
          have c2 := hr.out.cell 2
          have e0 := hr.res.cell 0
          have e1 := hr.res.cell 1
          have e2 := hr.res.cell 2
          have e3 := hr.res.frozen 0
          have e4 := hr.res.frozen 1
          have e5 := hr.res.frozen 2
          simp at c0 c1 c2 e0 e1 e2
          clear hll
          go_wp2_with fail
          rw [HSub.out]
          refine bodyPost_ret (replaceT_results rfl ((((hr.res.set_ 0 _).set_ 1 _).set_ 2 _).eq_ rfl)) rfl ⟨_, us, rfl, ?_, ?_⟩
          · exact Mk.less (B := w.heap.size + 3) (((hr.lst.put (by omega) _).put (by omega) _).put (by omega) _) (by omega)
          · exact ((hr.bel.setCell (by simp) _).setCell (by simp) _).setCell (by simp) _
    · have hkb : (kd == 0) = false := by simpa using hk
      rw [T.head_not hk] at hfit hsub
      obtain ⟨hd, hhd⟩ : ∃ hd : T, hd = .mk kd nm [] := ⟨_, rfl⟩
      have e1 : hd.kind = kd := by rw [hhd]; rfl
      have e2 : hd.num = nm := by rw [hhd]; rfl
      have e3 : hd.args = [] := by rw [hhd]; rfl
      have HSub : Hid ((T.mk kd nm l).sub gs = .mk hd.kind hd.num (hd.args ++ T.subL gs l)) := Lib.hid (by rw [hsub, e1, e2, e3]; rfl)
      have HS0 : Hid (Rpl gs hd l w (.int .i64 0) (((w.alloc (.cells #[.int .i64 kd, .int .i64 nm, .slice A l.length c] 35)).alloc (.cells #[.int .i64 0, .int .i64 0, .slice none 0 0] 35)).alloc (.cells #[.int .i64 kd, .int .i64 nm, .slice none 0 0] 35))) := Lib.hid (by
        refine ⟨0, .slice none 0 0, [], Nat.zero_le _, rfl, ?_, by rw [e1, e2]; exact hbD, hbC, hw3⟩
        rw [e3]
        simpa [T.subL] using Mk.nil _ _)
      have hlh : hd.args.length ≤ 0 := by rw [e3]; simp
      have hfit2 : hd.count + T.countL (T.subL gs l) ≤ 100000 := by rw [hhd]; exact hfit
      have hch := T.count_eta hd
      clear hsub hbA hbC hbD hfit hhd e1 e2 e3
      go_enter Try.func67, Try.ntmps67
      go_wp2_with fail
      go_loopw [25] (fun i wr => Rpl gs hd l w i wr) (fun i _ => l.length - (intOf i).toNat)
      case atStart => exact HS0.out
      case round =>
        obtain ⟨k, cv, us, hk, rfl, hr⟩ := hrel
        have hsz := hr.bel.size
        have hsz1 := hr.out.lt
        by_cases hlt : k < l.length
        · have hx : l[k]? = some l[k] := List.getElem?_eq_getElem hlt
          have hcl := T.count_lt (a := 0) (b := 0) hx
          simp only [T.count] at hcl
          have hmem : l[k] ∈ l := List.getElem_mem hlt
          have hcy := T.subL_mem gs hmem
          obtain ⟨ad, u, rfl, hPa, hel, hinx⟩ := T.In.el hrd hrow hx
          obtain ⟨r0, r1, r2⟩ := hel.keep (hr.bel.block _ (hold _ hPa))
          obtain ⟨A', n', c', rfl⟩ := hinx.form
          have hw1 := hr.bel.alloc hsz (.cells #[.int .i64 l[k].kind, .int .i64 l[k].num, .slice A' n' c'] 35)
          have hinr := hinx.old hold hw1
          have hinsr := T.In.old hins holds hw1
          have d0 := (hr.out.alloc (.cells #[.int .i64 l[k].kind, .int .i64 l[k].num, .slice A' n' c'] 35)).cell 2
          have hxB := Blk.new wr 35 #[.int .i64 l[k].kind, .int .i64 l[k].num, .slice A' n' c']
          have d1 := hxB.cell 0
          have d2 := hxB.cell 1
          have d3 := hxB.cell 2
          have hih := fun w' (h : Below (wr.heap.size + 1) (wr.alloc (.cells #[.int .i64 l[k].kind, .int .i64 l[k].num, .slice A' n' c'] 35)) w') => HIH0.out l[k] (.slice A' n' c') (.slice A1 gs.length c1) w' P Q (by omega) (by omega) (T.covL_mem hcovL hmem) (by omega) (hinr.below h (fun b hb => by have := hold b hb; omega)) ((hold.bel hw1).le h.size) (T.In.below hinsr h (fun b hb => by have := holds b hb; omega)) ((holds.bel hw1).le h.size)
          have hsnoc : hd.args ++ T.subL gs (l.take (k + 1)) = (hd.args ++ T.subL gs (l.take k)) ++ [l[k].sub gs] := by rw [List.take_add_one, hx, T.subL_append, List.append_assoc]; simp [T.subL]
          have hkl : (hd.args ++ T.subL gs (l.take k)).length = hd.args.length + k := by rw [List.length_append, T.subL_map, List.length_map, List.length_take]; omega
          generalize hd.args ++ T.subL gs (l.take k) = ml at *
          generalize l[k].sub gs = y at *
          have HIH := Lib.hid hih
          have HX := Lib.hid hx
          have HS := Lib.hid hsnoc
          have HL := Lib.hid hkl
          generalize l[k] = x at *
          clear hih hx hel hsnoc hkl hmem
          go_wp2_with fail
          go_region_law
            (first
              | (refine step_append_lies _ (by rfl) _ _ _ (by rfl) (w.heap.size + 3) 35 i0 _ 3 40 Try.underlying33 hi0 hz0 hz1 hz2 rfl (by omega) cv _ us (by rfl) (by exact (hown1.alloc _))
                  ⟨w1.heap.size, 0, none⟩ 1 1 [.int .i64 y.kind, .int .i64 y.num, v1] (by rfl) (by rfl) (by exact World.news_of_block (cs := #[.int .i64 y.kind, .int .i64 y.num, v1]) (t := 35) (fr := (0, 0)) (heap_alloc_new w1 _)) (by exact hones _ _ _ hone) (by omega) (by rw [HL.out]; simp only [maxLen]; omega) (by rw [HL.out]; omega) (by simp; omega) (w1.heap.size + 1) (by simp) ?_; intro gg cap w2 hown2 hgrow hat hlt2
                 have hblk2 : Blk w2 (w.heap.size + 1 + 1) 35 #[.int .i64 hd.kind, .int .i64 hd.num, cv] := (hgrow.block _ (by simp; omega) (fun e => by have := (hr.lst.lt e.symm).1; omega)).trans (hblk1.alloc _)
                 have hxb2 : Blk w2 wr.heap.size 35 #[.int .i64 x.kind, .int .i64 x.num, .slice A' n' c'] := (hgrow.block _ (by simp; omega) (fun e => by have := (hr.lst.lt e.symm).2; omega)).trans (hxb1.alloc _)
                 have s1 := hblk2.cell 2
                 have s2 := hxb2.cell 0
                 have s3 := hxb2.cell 1
                 have s4 := hxb2.cell 2
                 have s5 := hblk2.frozen 2
                 simp at s1 s2 s3 s4)
              | (go_simp; go_at_call 67; refine (HIH.out _ (by exact (Below.refl _ _).drew)).mono ?_; rintro e w1 ⟨v1, us1, rfl, hm1, hb1⟩
                 have hone : v1.oneCell' = true := by obtain ⟨A1, c1, rfl⟩ := hm1.form; rfl
                 have hwz : wr.heap.size + 1 ≤ w1.heap.size := by have h : (wr.alloc (.cells #[.int .i64 x.kind, .int .i64 x.num, .slice A' n' c'] 35)).heap.size ≤ w1.heap.size := hb1.size; simpa using h
                 have hbb1 : Below (wr.heap.size + 1) (wr.alloc (.cells #[.int .i64 x.kind, .int .i64 x.num, .slice A' n' c'] 35)).drew w1 := hb1.mono (by show _ ≤ (wr.alloc _).heap.size; simp)
                 have hown1 : w1.ownsRow (w.heap.size + 3) 35 3 cv ml.length us := owns_kept3 ((hr.lst.own.alloc _).drew) (fun b hb => hbb1.block b (by have := (hr.lst.lt hb).2; omega))
                 have hblk1 : Blk w1 (w.heap.size + 1 + 1) 35 #[.int .i64 hd.kind, .int .i64 hd.num, cv] := ((hr.out.alloc _).drew).below hbb1 (by omega)
                 have hxb1 : Blk w1 wr.heap.size 35 #[.int .i64 x.kind, .int .i64 x.num, .slice A' n' c'] := ((Blk.new wr 35 _).drew).below hbb1 (by omega)
                 have q1 := hblk1.cell 2
                 have q2 := hxb1.cell 0
                 have q3 := hxb1.cell 1
                 have q4 := hxb1.cell 2
                 have q5 : (w1.alloc (.cells #[.int .i64 y.kind, .int .i64 y.num, v1] 35)).cell? ⟨w.heap.size + 1 + 1, 2, none⟩ = some cv := (hblk1.alloc _).cell 2
                 simp at q1 q2 q3 q4))
          all_goals
            go_wp2_with fail
            go_roundw
            case rel => exact ⟨k + 1, _, _, by omega, by go_num, by rw [HS.out]; exact hr.next (by simpa [World.drew] using hm1) hbb1 hwz hown2 hgrow hat⟩
            case measure => simp [intOf]; omega
        · have hll : l.take k = l := List.take_of_length_le (by omega)
          rw [hll] at hr
          obtain ⟨A3, c3, rfl⟩ := hr.lst.form
          simp only [List.length_append] at hr
          have c0 := hr.out.cell 0
          have c1 := hr.out.cell 1
          have c2 := hr.out.cell 2
          have e0 := hr.res.cell 0
          have e1 := hr.res.cell 1
          have e2 := hr.res.cell 2
          have e3 := hr.res.frozen 0
          have e4 := hr.res.frozen 1
          have e5 := hr.res.frozen 2
          simp at c0 c1 c2 e0 e1 e2
          clear hll
          go_wp2_with fail
          rw [HSub.out]
          refine bodyPost_ret (replaceT_results rfl ((((hr.res.set_ 0 _).set_ 1 _).set_ 2 _).eq_ rfl)) rfl ⟨_, us, rfl, ?_, ?_⟩
          · exact Mk.less (B := w.heap.size + 3) (((hr.lst.put (by omega) _).put (by omega) _).put (by omega) _) (by omega)
          · exact ((hr.bel.setCell (by simp) _).setCell (by simp) _).setCell (by simp) _
end Go.Proofs.Ytmggccgjhjknpaa
