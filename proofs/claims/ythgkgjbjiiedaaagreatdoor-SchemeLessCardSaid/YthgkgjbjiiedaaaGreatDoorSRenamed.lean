/-
  SchemeLess's renamed: its contract.
-/
import Derived.Test.YthgkgjbjiiedaaaGreatDoorSLessP
import Derived.Test.YthgkgjbjiiedaaaGreatDoorGC
import Derived.Test.YthgkgjbjiiedaaaGreatDoorZs
namespace Go.Proofs.YthgkgjbjiiedaaaGreatDoor
open Go.RowKit

/-- The number that a list of numbers has at a place. -/
def atZ (zl : List Int) (n : Int) : Int := (zl[n.toNat]?).getD (-1)
theorem T.renL_snoc (f : Int → Int) : ∀ (l : List T) (x : T), T.renL f (l ++ [x]) = T.renL f l ++ [x.ren f]
  | [], x => rfl
  | y :: r, x => by simp [T.renL, T.renL_snoc f r x]
theorem Zs.below' {B C : Nat} {w w' : World} {l : List Int} {v : Value} (h : Zs B w l v) (hb : Below C w w') (hC : w.heap.size ≤ C) : Zs B w' l v := h.below (hb.mono hC)
theorem renamed_results {tmps : Array Value} {w : World} {a : Nat} {x y z : Value} (h2 : tmps.getD 4 undef = .pointer (some ⟨a, 0, none⟩))
    (ha : Blk w a 50 #[x, y, z]) : (results Tryz.f33 tmps).run Tryz.prog w = .ok (.agg #[x, y, z]) w := by
  have h4 := ha.cell 0
  have h5 := ha.cell 1
  have h6 := ha.cell 2
  simp at h4 h5 h6
  have h2' : tmps[4]?.getD undef = .pointer (some ⟨a, 0, none⟩) := by simpa using h2
  simp [results, Tryz.results33, go_sem, h2', h4, h5, h6]

set_option maxRecDepth 100000 in
set_option maxHeartbeats 3200000 in
theorem renamed_any (K : Nat) : ∀ (t : T) (v : Value) (w : World) (P : Nat → Prop) (zl : List Int) (zv : Value), t.count ≤ K → t.count ≤ 100000 → t.In w P v → Old P w → Zs 0 w zl zv → (∀ m ∈ t.callsIn, 0 ≤ m ∧ m < (zl.length : Int)) →
    Calls Tryz.prog 33 #[.agg #[.int .i64 t.kind, .int .i64 t.num, v], zv] w (Made (t.ren (atZ zl)) w) := by
  induction K with
  | zero => intro t; have := t.count_pos; omega
  | succ K ih =>
    intro t v w P zl zv hK hm hin hold hzz hcl0
    obtain ⟨i0, hi0, hz0, hz1, hz2⟩ := info_parts term_info
    obtain ⟨kd, nm, l⟩ := t
    simp only [T.In] at hin
    obtain ⟨A, _, c, us0, rfl, rfl, hnc, hc, hrd, hrow⟩ := hin
    simp only [T.kind, T.num]
    have hlen := T.length_le l
    simp only [T.count] at hm hK
    obtain ⟨Az, cz, rfl, _, _⟩ := hzz.form
    have hhd : kd = 1 → ∃ g y, Az = some ⟨g, 0, none⟩ ∧ g < w.heap.size ∧ 0 ≤ nm ∧ nm < (zl.length : Int) ∧ w.cell? ⟨g, nm.toNat, none⟩ = some (.int .i64 y) ∧ atZ zl nm = y := fun hk => by
      obtain ⟨h0, h1⟩ := hcl0 nm (by simp [T.callsIn, hk])
      have hx : zl[nm.toNat]? = some (zl[nm.toNat]'(by omega)) := List.getElem?_eq_getElem (by omega)
      obtain ⟨g, e, h2, h3⟩ := hzz.cell hx
      exact ⟨g, _, e, h2, h0, h1, h3, by simp [atZ, hx]⟩
    have hcl1 : ∀ m ∈ T.callsL l, 0 ≤ m ∧ m < (zl.length : Int) := fun m hm => hcl0 m (by simp [T.callsIn, hm])
    have HZZ := Lib.hid hzz
    have hw3 : Below w.heap.size w (((w.alloc (.cells #[.int .i64 kd, .int .i64 nm, .slice A l.length c] 50)).alloc (.cells #[.int .i64 0, .int .i64 0, .slice none 0 0] 50)).alloc (.cells #[.int .i64 kd, .int .i64 nm, .slice none 0 0] 50)) := (((Below.refl _ _).alloc (Nat.le_refl _) _).alloc (by simp) _).alloc (by simp; omega) _
    clear hcl0
    by_cases hk1 : kd = 1
    · subst hk1
      obtain ⟨g, y, rfl, hgl, hn0, hn1, hcell, hat⟩ := hhd rfl
      obtain ⟨j, rfl⟩ := Int.eq_ofNat_of_zero_le hn0
      rw [Int.toNat_natCast] at hcell
      have hcell3 := (hw3.cell (p := ⟨g, j, none⟩) hgl).trans hcell
      have HREN : Hid ((T.mk 1 (j : Int) l).ren (atZ zl) = .mk 1 y (T.renL (atZ zl) l)) := Lib.hid (by simp [T.ren, hat])
      clear hn0 hat hhd hzz hw3 hcell
      go_enter Tryz.func33, Tryz.ntmps33
      go_wp2_with fail
      go_loopw [25] (fun i wr => ∃ k cv us, k ≤ l.length ∧ i = .int .i64 (k : Nat) ∧ RoundT (T.renL (atZ zl) (l.take k)) 1 y w.heap.size w cv us wr) (fun i _ => l.length - (Go.RowKit.intOf i).toNat)
      case atStart =>
        refine ⟨0, _, [], Nat.zero_le _, rfl, ⟨by simpa [T.renL] using Mk.nil _ _, ?_, ?_, ?_⟩⟩
        · simpa using Blk.new ((w.alloc (.cells #[.int .i64 1, .int .i64 (j : Int), .slice A l.length c] 50)).alloc (.cells #[.int .i64 0, .int .i64 0, .slice none 0 0] 50)) 50 #[.int .i64 1, .int .i64 y, .slice none 0 0]
        · exact (by simpa using Blk.new (w.alloc (.cells #[.int .i64 1, .int .i64 (j : Int), .slice A l.length c] 50)) 50 #[.int .i64 0, .int .i64 0, .slice none 0 0] : Blk ((w.alloc (.cells #[.int .i64 1, .int .i64 (j : Int), .slice A l.length c] 50)).alloc (.cells #[.int .i64 0, .int .i64 0, .slice none 0 0] 50)) (w.heap.size + 1) 50 #[.int .i64 0, .int .i64 0, .slice none 0 0]).alloc _
        · exact (((Below.refl _ _).alloc (Nat.le_refl _) _).alloc (by simp) _).alloc (by simp; omega) _
      case round =>
        obtain ⟨k, cv, us, hk, rfl, hr⟩ := hrel
        have hsz := hr.bel.size
        have hsz1 := hr.out.lt
        by_cases hlt : k < l.length
        · have hx : l[k]? = some l[k] := List.getElem?_eq_getElem hlt
          have hcl := T.count_lt (a := 1) (b := (j : Int)) hx
          simp only [T.count] at hcl
          obtain ⟨ad, u, rfl, hPa, hel, hinx⟩ := T.In.el hrd hrow hx
          obtain ⟨r0, r1, r2⟩ := hel.keep (hr.bel.block _ (hold _ hPa))
          obtain ⟨A', n', c', rfl⟩ := hinx.form
          have hw1 := hr.bel.alloc hsz (.cells #[.int .i64 l[k].kind, .int .i64 l[k].num, .slice A' n' c'] 50)
          have hinr := hinx.old hold hw1
          have d0 := (hr.out.alloc (.cells #[.int .i64 l[k].kind, .int .i64 l[k].num, .slice A' n' c'] 50)).cell 2
          have hxB := Blk.new wr 50 #[.int .i64 l[k].kind, .int .i64 l[k].num, .slice A' n' c']
          have d1 := hxB.cell 0
          have d2 := hxB.cell 1
          have d3 := hxB.cell 2
          have hcx : ∀ m ∈ l[k].callsIn, 0 ≤ m ∧ m < (zl.length : Int) := fun m hm => hcl1 m (T.callsL_at l hx hm)
          have hih := fun w' (h : Below (wr.heap.size + 1) (wr.alloc (.cells #[.int .i64 l[k].kind, .int .i64 l[k].num, .slice A' n' c'] 50)) w') => ih l[k] (.slice A' n' c') w' P zl (.slice (some ⟨g, 0, none⟩) zl.length cz) (by omega) (by omega) (hinr.below h (fun b hb => by have := hold b hb; omega)) ((hold.bel hw1).le h.size) ((HZZ.out.below hw1).below' h (by simp)) hcx
          have hsnoc : T.renL (atZ zl) (l.take (k + 1)) = T.renL (atZ zl) (l.take k) ++ [l[k].ren (atZ zl)] := by rw [List.take_add_one, hx]; exact T.renL_snoc _ _ _
          have hkl : (T.renL (atZ zl) (l.take k)).length = k := by rw [T.renL_length, List.length_take]; omega
          unfold Made at hih
          generalize T.renL (atZ zl) (l.take k) = ml at *
          generalize l[k].ren (atZ zl) = y2 at *
          have HIH := Lib.hid hih
          have HS := Lib.hid hsnoc
          have HL := Lib.hid hkl
          generalize l[k] = x at *
          clear hih ih hx hel hsnoc hkl hcx
          go_wp2_with fail
          go_region_law
            (first
              | (refine step_append_lies _ (by rfl) _ _ _ (by rfl) (w.heap.size + 3) 50 i0 _ 3 40 Tryz.underlying48 hi0 hz0 hz1 hz2 rfl (by omega) cv _ us (by rfl) (by exact (hown1.alloc _))
                  ⟨w1.heap.size, 0, none⟩ 1 1 [.int .i64 y2.kind, .int .i64 y2.num, v1] (by rfl) (by rfl) (by exact World.news_of_block (cs := #[.int .i64 y2.kind, .int .i64 y2.num, v1]) (t := 50) (fr := (0, 0)) (heap_alloc_new w1 _)) (by exact hones _ _ _ hone) (by omega) (by rw [HL.out]; simp only [maxLen]; omega) (by rw [HL.out]; omega) (by simp; omega) (w1.heap.size + 1) (by simp) ?_; intro gg cap w2 hown2 hgrow hat hlt2
                 have hblk2 : Blk w2 (w.heap.size + 1 + 1) 50 #[.int .i64 1, .int .i64 y, cv] := (hgrow.block _ (by simp; omega) (fun e => by have := (hr.lst.lt e.symm).1; omega)).trans (hblk1.alloc _)
                 have hxb2 : Blk w2 wr.heap.size 50 #[.int .i64 x.kind, .int .i64 x.num, .slice A' n' c'] := (hgrow.block _ (by simp; omega) (fun e => by have := (hr.lst.lt e.symm).2; omega)).trans (hxb1.alloc _)
                 have s1 := hblk2.cell 2
                 have s2 := hxb2.cell 0
                 have s3 := hxb2.cell 1
                 have s4 := hxb2.cell 2
                 have s5 := hblk2.frozen 2
                 simp at s1 s2 s3 s4)
              | (go_simp; go_at_call 33; refine (HIH.out _ (by exact (Below.refl _ _).drew)).mono ?_; rintro e w1 ⟨v1, us1, rfl, hm1, hb1⟩
                 have hone : v1.oneCell' = true := by obtain ⟨A1, c1, rfl⟩ := hm1.form; rfl
                 have hwz : wr.heap.size + 1 ≤ w1.heap.size := by have h : (wr.alloc (.cells #[.int .i64 x.kind, .int .i64 x.num, .slice A' n' c'] 50)).heap.size ≤ w1.heap.size := hb1.size; simpa using h
                 have hbb1 : Below (wr.heap.size + 1) (wr.alloc (.cells #[.int .i64 x.kind, .int .i64 x.num, .slice A' n' c'] 50)).drew w1 := hb1.mono (by show _ ≤ (wr.alloc _).heap.size; simp)
                 have hown1 : w1.ownsRow (w.heap.size + 3) 50 3 cv ml.length us := owns_kept3 ((hr.lst.own.alloc _).drew) (fun b hb => hbb1.block b (by have := (hr.lst.lt hb).2; omega))
                 have hblk1 : Blk w1 (w.heap.size + 1 + 1) 50 #[.int .i64 1, .int .i64 y, cv] := ((hr.out.alloc _).drew).below hbb1 (by omega)
                 have hxb1 : Blk w1 wr.heap.size 50 #[.int .i64 x.kind, .int .i64 x.num, .slice A' n' c'] := ((Blk.new wr 50 _).drew).below hbb1 (by omega)
                 have q1 := hblk1.cell 2
                 have q2 := hxb1.cell 0
                 have q3 := hxb1.cell 1
                 have q4 := hxb1.cell 2
                 have q5 : (w1.alloc (.cells #[.int .i64 y2.kind, .int .i64 y2.num, v1] 50)).cell? ⟨w.heap.size + 1 + 1, 2, none⟩ = some cv := (hblk1.alloc _).cell 2
                 simp at q1 q2 q3 q4))
          all_goals
            go_wp2_with fail
            go_roundw
            case rel => exact ⟨k + 1, _, _, by omega, by go_num, by rw [HS.out]; exact hr.next (by simpa [World.drew] using hm1) hbb1 hwz hown2 hgrow hat⟩
            case measure => simp [Go.RowKit.intOf]; omega
        · have hll : l.take k = l := List.take_of_length_le (by omega)
          rw [hll] at hr
          obtain ⟨A3, c3, rfl⟩ := hr.lst.form
          have c0 := hr.out.cell 0
          have c1 := hr.out.cell 1
          have c2 := hr.out.cell 2
          have e0 := hr.res.cell 0
          have e1 := hr.res.cell 1
          have e2 := hr.res.cell 2
          have e3 := hr.res.frozen 0
          have e4 := hr.res.frozen 1
          have e5 := hr.res.frozen 2
          clear ih hll
          go_wp2_with fail
          refine bodyPost_ret (renamed_results rfl ((((hr.res.set_ 0 _).set_ 1 _).set_ 2 _).eq_ (by simp; exact ⟨rfl, rfl, rfl⟩))) rfl ?_
          rw [HREN.out]
          refine ⟨_, us, rfl, ?_, ?_⟩
          · exact (((hr.lst.set (by simp) _).set (by simp) _).set (by simp) _).less (by omega)
          · exact ((hr.bel.setCell (by simp) _).setCell (by simp) _).setCell (by simp) _
    · have hkb : (kd == 1) = false := by simpa using hk1
      have HREN : Hid ((T.mk kd nm l).ren (atZ zl) = .mk kd nm (T.renL (atZ zl) l)) := Lib.hid (by simp [T.ren, hk1])
      clear hhd hzz hw3 hk1
      go_enter Tryz.func33, Tryz.ntmps33
      go_wp2_with fail
      go_loopw [25] (fun i wr => ∃ k cv us, k ≤ l.length ∧ i = .int .i64 (k : Nat) ∧ RoundT (T.renL (atZ zl) (l.take k)) kd nm w.heap.size w cv us wr) (fun i _ => l.length - (Go.RowKit.intOf i).toNat)
      case atStart =>
        refine ⟨0, _, [], Nat.zero_le _, rfl, ⟨by simpa [T.renL] using Mk.nil _ _, ?_, ?_, ?_⟩⟩
        · simpa using Blk.new ((w.alloc (.cells #[.int .i64 kd, .int .i64 nm, .slice A l.length c] 50)).alloc (.cells #[.int .i64 0, .int .i64 0, .slice none 0 0] 50)) 50 #[.int .i64 kd, .int .i64 nm, .slice none 0 0]
        · exact (by simpa using Blk.new (w.alloc (.cells #[.int .i64 kd, .int .i64 nm, .slice A l.length c] 50)) 50 #[.int .i64 0, .int .i64 0, .slice none 0 0] : Blk ((w.alloc (.cells #[.int .i64 kd, .int .i64 nm, .slice A l.length c] 50)).alloc (.cells #[.int .i64 0, .int .i64 0, .slice none 0 0] 50)) (w.heap.size + 1) 50 #[.int .i64 0, .int .i64 0, .slice none 0 0]).alloc _
        · exact (((Below.refl _ _).alloc (Nat.le_refl _) _).alloc (by simp) _).alloc (by simp; omega) _
      case round =>
        obtain ⟨k, cv, us, hk, rfl, hr⟩ := hrel
        have hsz := hr.bel.size
        have hsz1 := hr.out.lt
        by_cases hlt : k < l.length
        · have hx : l[k]? = some l[k] := List.getElem?_eq_getElem hlt
          have hcl := T.count_lt (a := kd) (b := nm) hx
          simp only [T.count] at hcl
          obtain ⟨ad, u, rfl, hPa, hel, hinx⟩ := T.In.el hrd hrow hx
          obtain ⟨r0, r1, r2⟩ := hel.keep (hr.bel.block _ (hold _ hPa))
          obtain ⟨A', n', c', rfl⟩ := hinx.form
          have hw1 := hr.bel.alloc hsz (.cells #[.int .i64 l[k].kind, .int .i64 l[k].num, .slice A' n' c'] 50)
          have hinr := hinx.old hold hw1
          have d0 := (hr.out.alloc (.cells #[.int .i64 l[k].kind, .int .i64 l[k].num, .slice A' n' c'] 50)).cell 2
          have hxB := Blk.new wr 50 #[.int .i64 l[k].kind, .int .i64 l[k].num, .slice A' n' c']
          have d1 := hxB.cell 0
          have d2 := hxB.cell 1
          have d3 := hxB.cell 2
          have hcx : ∀ m ∈ l[k].callsIn, 0 ≤ m ∧ m < (zl.length : Int) := fun m hm => hcl1 m (T.callsL_at l hx hm)
          have hih := fun w' (h : Below (wr.heap.size + 1) (wr.alloc (.cells #[.int .i64 l[k].kind, .int .i64 l[k].num, .slice A' n' c'] 50)) w') => ih l[k] (.slice A' n' c') w' P zl (.slice Az zl.length cz) (by omega) (by omega) (hinr.below h (fun b hb => by have := hold b hb; omega)) ((hold.bel hw1).le h.size) ((HZZ.out.below hw1).below' h (by simp)) hcx
          have hsnoc : T.renL (atZ zl) (l.take (k + 1)) = T.renL (atZ zl) (l.take k) ++ [l[k].ren (atZ zl)] := by rw [List.take_add_one, hx]; exact T.renL_snoc _ _ _
          have hkl : (T.renL (atZ zl) (l.take k)).length = k := by rw [T.renL_length, List.length_take]; omega
          unfold Made at hih
          generalize T.renL (atZ zl) (l.take k) = ml at *
          generalize l[k].ren (atZ zl) = y2 at *
          have HIH := Lib.hid hih
          have HS := Lib.hid hsnoc
          have HL := Lib.hid hkl
          generalize l[k] = x at *
          clear hih ih hx hel hsnoc hkl hcx
          go_wp2_with fail
          go_region_law
            (first
              | (refine step_append_lies _ (by rfl) _ _ _ (by rfl) (w.heap.size + 3) 50 i0 _ 3 40 Tryz.underlying48 hi0 hz0 hz1 hz2 rfl (by omega) cv _ us (by rfl) (by exact (hown1.alloc _))
                  ⟨w1.heap.size, 0, none⟩ 1 1 [.int .i64 y2.kind, .int .i64 y2.num, v1] (by rfl) (by rfl) (by exact World.news_of_block (cs := #[.int .i64 y2.kind, .int .i64 y2.num, v1]) (t := 50) (fr := (0, 0)) (heap_alloc_new w1 _)) (by exact hones _ _ _ hone) (by omega) (by rw [HL.out]; simp only [maxLen]; omega) (by rw [HL.out]; omega) (by simp; omega) (w1.heap.size + 1) (by simp) ?_; intro gg cap w2 hown2 hgrow hat hlt2
                 have hblk2 : Blk w2 (w.heap.size + 1 + 1) 50 #[.int .i64 kd, .int .i64 nm, cv] := (hgrow.block _ (by simp; omega) (fun e => by have := (hr.lst.lt e.symm).1; omega)).trans (hblk1.alloc _)
                 have hxb2 : Blk w2 wr.heap.size 50 #[.int .i64 x.kind, .int .i64 x.num, .slice A' n' c'] := (hgrow.block _ (by simp; omega) (fun e => by have := (hr.lst.lt e.symm).2; omega)).trans (hxb1.alloc _)
                 have s1 := hblk2.cell 2
                 have s2 := hxb2.cell 0
                 have s3 := hxb2.cell 1
                 have s4 := hxb2.cell 2
                 have s5 := hblk2.frozen 2
                 simp at s1 s2 s3 s4)
              | (go_simp; go_at_call 33; refine (HIH.out _ (by exact (Below.refl _ _).drew)).mono ?_; rintro e w1 ⟨v1, us1, rfl, hm1, hb1⟩
                 have hone : v1.oneCell' = true := by obtain ⟨A1, c1, rfl⟩ := hm1.form; rfl
                 have hwz : wr.heap.size + 1 ≤ w1.heap.size := by have h : (wr.alloc (.cells #[.int .i64 x.kind, .int .i64 x.num, .slice A' n' c'] 50)).heap.size ≤ w1.heap.size := hb1.size; simpa using h
                 have hbb1 : Below (wr.heap.size + 1) (wr.alloc (.cells #[.int .i64 x.kind, .int .i64 x.num, .slice A' n' c'] 50)).drew w1 := hb1.mono (by show _ ≤ (wr.alloc _).heap.size; simp)
                 have hown1 : w1.ownsRow (w.heap.size + 3) 50 3 cv ml.length us := owns_kept3 ((hr.lst.own.alloc _).drew) (fun b hb => hbb1.block b (by have := (hr.lst.lt hb).2; omega))
                 have hblk1 : Blk w1 (w.heap.size + 1 + 1) 50 #[.int .i64 kd, .int .i64 nm, cv] := ((hr.out.alloc _).drew).below hbb1 (by omega)
                 have hxb1 : Blk w1 wr.heap.size 50 #[.int .i64 x.kind, .int .i64 x.num, .slice A' n' c'] := ((Blk.new wr 50 _).drew).below hbb1 (by omega)
                 have q1 := hblk1.cell 2
                 have q2 := hxb1.cell 0
                 have q3 := hxb1.cell 1
                 have q4 := hxb1.cell 2
                 have q5 : (w1.alloc (.cells #[.int .i64 y2.kind, .int .i64 y2.num, v1] 50)).cell? ⟨w.heap.size + 1 + 1, 2, none⟩ = some cv := (hblk1.alloc _).cell 2
                 simp at q1 q2 q3 q4))
          all_goals
            go_wp2_with fail
            go_roundw
            case rel => exact ⟨k + 1, _, _, by omega, by go_num, by rw [HS.out]; exact hr.next (by simpa [World.drew] using hm1) hbb1 hwz hown2 hgrow hat⟩
            case measure => simp [Go.RowKit.intOf]; omega
        · have hll : l.take k = l := List.take_of_length_le (by omega)
          rw [hll] at hr
          obtain ⟨A3, c3, rfl⟩ := hr.lst.form
          have c0 := hr.out.cell 0
          have c1 := hr.out.cell 1
          have c2 := hr.out.cell 2
          have e0 := hr.res.cell 0
          have e1 := hr.res.cell 1
          have e2 := hr.res.cell 2
          have e3 := hr.res.frozen 0
          have e4 := hr.res.frozen 1
          have e5 := hr.res.frozen 2
          clear ih hll
          go_wp2_with fail
          refine bodyPost_ret (renamed_results rfl ((((hr.res.set_ 0 _).set_ 1 _).set_ 2 _).eq_ (by simp; exact ⟨rfl, rfl, rfl⟩))) rfl ?_
          rw [HREN.out]
          refine ⟨_, us, rfl, ?_, ?_⟩
          · exact (((hr.lst.set (by simp) _).set (by simp) _).set (by simp) _).less (by omega)
          · exact ((hr.bel.setCell (by simp) _).setCell (by simp) _).setCell (by simp) _
end Go.Proofs.YthgkgjbjiiedaaaGreatDoor
