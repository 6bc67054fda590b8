/-
  The program: place.Of.
-/
import Derived.Test.YtbbejhhohppdhaaGreatDoorGM
namespace Go.Proofs.YtbbejhhohppdhaaGreatDoor
open Go.RowKit

theorem placeOf_results {tmps : Array Value} {w : World} {a : Nat} {x y z : Value} (h2 : tmps.getD 4 undef = .pointer (some ⟨a, 0, none⟩))
    (ha : Blk w a 76 #[x, y, z]) : (results Tryz.f44 tmps).run Tryz.prog w = .ok (.agg #[x, y, z]) w := by
  have h0 := ha.cell 0
  have h1 := ha.cell 1
  have h3 := ha.cell 2
  simp at h0 h1 h3
  have h2' : tmps[4]?.getD undef = .pointer (some ⟨a, 0, none⟩) := by simpa using h2
  simp [results, Tryz.results44, go_sem, h2', h0, h1, h3]

set_option maxRecDepth 100000 in
set_option maxHeartbeats 3200000 in
theorem placeOf_any (s : Sc) (v0 v1 : Value) (w : World) (hi : Nat) (hin : ScIn w hi s v0 v1) (hhi : hi ≤ w.heap.size) (hl : s.funs.length ≤ 1000) (ps : List S) (vp : Value) (hsu0 : (S.mk ps).In w 0 hi vp) :
    Calls Tryz.prog 44 #[.agg #[v0, v1], vp] w fun e w' => ∃ vf, e = .returned (.agg #[v0, vf, vp]) ∧ PlIn w' 0 w'.heap.size ⟨s.syms, s.sorts, ps⟩ v0 vf vp ∧ Below w.heap.size w w' := by
  obtain ⟨i0, hi0, hz0, hz1, hz2⟩ := info_parts sort_info2
  have k0 := ScKept.start hin hhi
  obtain ⟨⟨A0, n0, c0, rfl⟩, _⟩ := hin.form
  obtain ⟨A1, n1, c1, rfl⟩ := hsu0.form
  obtain ⟨A, _, c, us0, rfl, rfl, hnc, hc, hrd, hrow⟩ := hin.fn
  have d0 := k0.b.cell 0
  have d1 := k0.b.cell 1
  have HZ1 := Lib.hid hz1
  have HZ2 := Lib.hid hz2
  simp at d0 d1
  have hX := (Below.refl w.heap.size w).alloc (Nat.le_refl _) (.cells #[.slice A0 n0 c0, .slice A s.funs.length c] 25)
  have hY := hX.alloc (by simp) (.cells #[.slice none 0 0, .slice none 0 0, .slice none 0 0] 76)
  have kb := (k0.b.alloc (.cells #[.slice none 0 0, .slice none 0 0, .slice none 0 0] 76))
  have b0 := kb.cell 0
  have b1 := kb.cell 1
  simp at b0 b1
  go_enter Tryz.func44, Tryz.ntmps44
  go_wp2_with fail
  have W1 : Blk ((((w.alloc (.cells #[.slice A0 n0 c0, .slice A s.funs.length c] 25)).alloc (.cells #[.slice none 0 0, .slice none 0 0, .slice none 0 0] 76)).alloc (.cells #[.slice A0 n0 c0, .slice none 0 0, .slice A1 n1 c1] 76))) (w.heap.size + 2) 76 #[.slice A0 n0 c0, .slice none 0 0, .slice A1 n1 c1] := by
    have := Blk.new ((w.alloc (.cells #[.slice A0 n0 c0, .slice A s.funs.length c] 25)).alloc (.cells #[.slice none 0 0, .slice none 0 0, .slice none 0 0] 76)) 76 #[.slice A0 n0 c0, .slice none 0 0, .slice A1 n1 c1]
    simp only [World.size_alloc] at this
    exact this
  have W2 : Blk ((((w.alloc (.cells #[.slice A0 n0 c0, .slice A s.funs.length c] 25)).alloc (.cells #[.slice none 0 0, .slice none 0 0, .slice none 0 0] 76)).alloc (.cells #[.slice A0 n0 c0, .slice none 0 0, .slice A1 n1 c1] 76))) (w.heap.size + 1) 76 #[.slice none 0 0, .slice none 0 0, .slice none 0 0] := by
    have := Blk.new (w.alloc (.cells #[.slice A0 n0 c0, .slice A s.funs.length c] 25)) 76 #[.slice none 0 0, .slice none 0 0, .slice none 0 0]
    simp only [World.size_alloc] at this
    exact this.alloc _
  have W3 := ((k0.b.alloc (.cells #[.slice none 0 0, .slice none 0 0, .slice none 0 0] 76)).alloc (.cells #[.slice A0 n0 c0, .slice none 0 0, .slice A1 n1 c1] 76))
  have W4 := (hY.alloc (by simp; omega) (.cells #[.slice A0 n0 c0, .slice none 0 0, .slice A1 n1 c1] 76))
  have wb0 := W3.cell 0
  have wb1 := W3.cell 1
  simp at wb0 wb1
  have HW1 := Lib.hid W1
  have HW2 := Lib.hid W2
  have HW3 := Lib.hid W3
  have HW4 := Lib.hid W4
  clear W1 W2 W3 W4 kb b0 b1 k0 d0 d1 hX hY
  go_wp2_with fail
  go_loopw [15] (fun iv wr => ∃ (k : Nat) (vs : Value) (us : List Value), k ≤ s.funs.length ∧ iv = .int .i64 k ∧ SRow (w.heap.size + 3) hi wr ((s.funs.map Fn.sort).take k) vs us ∧ Blk wr (w.heap.size + 2) 76 #[.slice A0 n0 c0, vs, .slice A1 n1 c1] ∧
    Blk wr (w.heap.size + 1) 76 #[.slice none 0 0, .slice none 0 0, .slice none 0 0] ∧ Below w.heap.size w wr) (fun i _ => s.funs.length - (intOf i).toNat)
  case atStart => exact ⟨0, _, [], Nat.zero_le _, rfl, by simpa using SRow.nil _ _ _, HW1.out, HW2.out, HW4.out⟩
  case round =>
    obtain ⟨k, vs, us, hk, rfl, hrr, hpl, hrs, hbel⟩ := hrel
    have hzr := hbel.size
    have hpl0 := hpl.lt
    by_cases hlt : k < s.funs.length
    · have hx : s.funs[k]? = some s.funs[k] := List.getElem?_eq_getElem hlt
      obtain ⟨ad, u, v, had, hPa, hel, hsu, hbv, hsx⟩ := fn_el hrd hrow hx
      subst had
      obtain ⟨r0, r1, r2, r3, r4⟩ := hel.keep (hbel.block _ (by omega))
      have hsu' := hsu.below hbel hhi
      obtain ⟨A3, n3, c3, rfl⟩ := hsu.form
      obtain ⟨A2, n2, c2, rfl⟩ := hbv.form
      have hsnoc : (s.funs.map Fn.sort).take (k + 1) = (s.funs.map Fn.sort).take k ++ [s.funs[k].sort] := by rw [List.take_add_one, List.getElem?_map, hx] <;> rfl
      have hlk : ((s.funs.map Fn.sort).take k).length = k := by simp; omega
      generalize (s.funs.map Fn.sort).take k = rl at *
      generalize s.funs[k] = x at *
      obtain ⟨name, sort, body⟩ := x
      simp only at r0 r1 r2 r3 r4 hsx hsu hsu' hsnoc
      have HS := Lib.hid hsnoc
      have HL := Lib.hid hlk
      have hvl : ∀ b, vs.ownBlock = some b → w.heap.size + 3 ≤ b ∧ b < wr.heap.size := fun b hb => World.ownsRow.lt hrr.own b hb
      have hbb := Blk.new wr 64 #[.string name, .slice A3 n3 c3, .int .i64 body.kind, .int .i64 body.num, .slice A2 n2 c2]
      have b1 := hbb.cell 1
      have bx : Below wr.heap.size wr (wr.alloc (.cells #[.string name, .slice A3 n3 c3, .int .i64 body.kind, .int .i64 body.num, .slice A2 n2 c2] 64)) := (Below.refl _ _).alloc (Nat.le_refl _) _
      have hrr1 := hrr.next (by omega) bx
      have hsu1 := hsu'.below bx (by omega)
      have hpl1 := hpl.alloc (.cells #[.string name, .slice A3 n3 c3, .int .i64 body.kind, .int .i64 body.num, .slice A2 n2 c2] 64)
      have hrs1 := hrs.alloc (.cells #[.string name, .slice A3 n3 c3, .int .i64 body.kind, .int .i64 body.num, .slice A2 n2 c2] 64)
      have p1 := hpl1.cell 1
      simp at p1
      have HRR := Lib.hid hrr1
      have HSU := Lib.hid hsu1
      have hown1 := hrr1.own
      clear hx hel hsnoc hlk hsu hsu' hbv hrr hrr1 hsu1 hbb bx
      go_wp2_with
        (at_builtin
         refine wpList_append_lies _ rfl _ _ _ rfl (w.heap.size + 3) 62 i0 _ 1 24 Tryz.underlying60 hi0 hz0 HZ1.out HZ2.out rfl (by omega) vs _ us (by rfl) (hown1.alloc _)
           ⟨wr.heap.size + 1, 0, none⟩ 1 1 [.slice A3 n3 c3] (by rfl) (by rfl) (World.news_of_block (cs := #[.slice A3 n3 c3]) (t := 62) (fr := (0, 0)) (by simpa using heap_alloc_new (wr.alloc (.cells #[.string name, .slice A3 n3 c3, .int .i64 body.kind, .int .i64 body.num, .slice A2 n2 c2] 64)) _)) (fun u hu => by rw [List.mem_singleton.1 hu] <;> rfl) (by omega) (by rw [HL.out]; simp only [maxLen]; omega) (by rw [HL.out]; omega) (by simp; omega) (wr.heap.size + 2) (by simp) ?_
         intro gg cap2 w3 hown3 hgrow hat3 hlt3
         have hpl3 : Blk w3 (w.heap.size + 2) 76 #[.slice A0 n0 c0, vs, .slice A1 n1 c1] := (hgrow.block _ (by simp; omega) (fun e => by have := hvl _ e.symm; omega)).trans (hpl1.alloc _)
         have hrs3 : Blk w3 (w.heap.size + 1) 76 #[.slice none 0 0, .slice none 0 0, .slice none 0 0] := (hgrow.block _ (by simp; omega) (fun e => by have := hvl _ e.symm; omega)).trans (hrs1.alloc _)
         have q1 := hpl3.cell 1
         have q2 := hpl3.frozen 1
         simp at q1)
      go_roundw
      case rel =>
        refine ⟨k + 1, _, us ++ [.slice A3 n3 c3], by omega, by go_num, ?_, (hpl3.set_ 1 _).eq_ rfl, hrs3.far (by show w.heap.size + 1 ≠ w.heap.size + 2; omega) _, ?_⟩
        · rw [HS.out]
          refine (HRR.out.push HSU.out (by omega) (by simp; omega) hown3 hgrow).far (fun b hb => Below.heap_setCell _ _ _ _ ?_) (fun b hb => Below.heap_setCell _ _ _ _ (by show b ≠ w.heap.size + 2; omega))
          have e' : gg = b := by simpa [Value.ownBlock] using hb
          subst e'
          show gg ≠ w.heap.size + 2
          rcases hat3 with h | h
          · have := hvl _ h; omega
          · omega
        · exact (((hbel.alloc (by omega) _).alloc (by simp; omega) _).grown hgrow (by simp; omega) (fun b hb => by have := (hvl b hb).1; omega)).setCell (by show w.heap.size ≤ w.heap.size + 2; omega) _
      case measure => simp [intOf]; omega
    · have hll : (s.funs.map Fn.sort).take k = s.funs.map Fn.sort := List.take_of_length_le (by simp; omega)
      rw [hll] at hrr
      clear hll
      obtain ⟨A5, c5, rfl⟩ := hrr.form
      have x0 := hpl.cell 0
      have x1 := hpl.cell 1
      have x2 := hpl.cell 2
      have y0 := hrs.cell 0
      have y1 := hrs.cell 1
      have y2 := hrs.cell 2
      have z0 := hrs.frozen 0
      have z1 := hrs.frozen 1
      have z2 := hrs.frozen 2
      simp at x0 x1 x2 y0 y1 y2
      have HRR := Lib.hid hrr
      go_wp2_with fail
      have hBF := ((hbel.setCell (p := ⟨w.heap.size + 1, 0, none⟩) (Nat.le_succ _) (.slice A0 n0 c0)).setCell (p := ⟨w.heap.size + 1, 1, none⟩) (Nat.le_succ _) (.slice A5 (s.funs.map Fn.sort).length c5)).setCell (p := ⟨w.heap.size + 1, 2, none⟩) (Nat.le_succ _) (.slice A1 n1 c1)
      simp only [List.length_map] at hBF
      have hzF := hBF.size
      refine bodyPost_ret (placeOf_results rfl ((((hrs.set_ 0 _).set_ 1 _).set_ 2 _).eq_ rfl)) rfl ⟨_, rfl, ⟨(hin.sy.below hBF hhi).more (by omega), ?_, ?_⟩, hBF⟩
      · have hR := HRR.out
        have hov := fun b hb => (World.ownsRow.lt hR.own b hb).1
        simp only [List.length_map] at hR hov
        refine SRow.in_ (B := w.heap.size + 3) (hi := hi) (us := us) (hR.far (fun b hb => ?_) (fun b hb => ?_)) (by omega)
        · have := hov b hb
          rw [Below.heap_setCell _ _ _ _ (by show b ≠ w.heap.size + 1; omega), Below.heap_setCell _ _ _ _ (by show b ≠ w.heap.size + 1; omega), Below.heap_setCell _ _ _ _ (by show b ≠ w.heap.size + 1; omega)]
        · rw [Below.heap_setCell _ _ _ _ (by show b ≠ w.heap.size + 1; omega), Below.heap_setCell _ _ _ _ (by show b ≠ w.heap.size + 1; omega), Below.heap_setCell _ _ _ _ (by show b ≠ w.heap.size + 1; omega)]
      · exact (hsu0.below hBF hhi).more (Nat.le_refl _) (by omega)
end Go.Proofs.YtbbejhhohppdhaaGreatDoor
