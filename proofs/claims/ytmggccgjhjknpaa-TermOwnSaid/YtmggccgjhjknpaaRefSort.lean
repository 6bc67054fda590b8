/-
  The reference's Is, head and Sort of terms: contracts.
-/
import Derived.Test.YtmggccgjhjknpaaTermSort
namespace Go.Proofs.Ytmggccgjhjknpaa
open Go.RowKit

theorem refHead_results {tmps : Array Value} {w : World} {a : Nat} {x u : Value} (h2 : tmps.getD 4 undef = .pointer (some ⟨a, 0, none⟩)) (h3 : tmps.getD 5 undef = u)
    (ha : Blk w a 40 #[x]) : (results Try.f83 tmps).run Try.prog w = .ok (.tuple #[.agg #[x], u]) w := by
  have h4 := ha.cell 0
  simp at h4
  have h2' : tmps[4]?.getD undef = .pointer (some ⟨a, 0, none⟩) := by simpa using h2
  have h3' : tmps[5]?.getD undef = u := by simpa using h3
  simp [results, Try.results83, go_sem, h2', h3', h4]

theorem blk3 (w : World) (o1 o2 : Obj) (t : TypeId) (cs : Array Value) : Blk (((w.alloc o1).alloc o2).alloc (.cells cs t)) (w.heap.size + 1 + 1) t cs := by simpa using Blk.new ((w.alloc o1).alloc o2) t cs
theorem blk4 (w : World) (o1 o2 o3 : Obj) (t : TypeId) (cs : Array Value) : Blk ((((w.alloc o1).alloc o2).alloc o3).alloc (.cells cs t)) (w.heap.size + 1 + 1 + 1) t cs := by simpa using Blk.new (((w.alloc o1).alloc o2).alloc o3) t cs
theorem bel3 (w : World) (o1 o2 o3 : Obj) : Below w.heap.size w (((w.alloc o1).alloc o2).alloc o3) := (((Below.refl _ _).alloc (Nat.le_refl _) _).alloc (by simp) _).alloc (by simp; omega) _
set_option maxRecDepth 100000 in
set_option maxHeartbeats 3200000 in
theorem refHead_any (p : Pl) (hok : p.ok = true) (hi0 : Nat) (v0 v1 v2 : Value) (x : T) (v : Value) (w : World) (P : Nat → Prop) (hp : PlIn w 0 hi0 p v0 v1 v2) (hhi : hi0 ≤ w.heap.size) (hin : x.In w P v) (_hold : Old P w) :
    Calls Try.prog 83 #[.agg #[v0, v1, v2], .agg #[.int .i64 x.kind, .int .i64 x.num, v]] w (Found (fun lo hi => lo = 0 ∧ hi = hi0) (p.pick x.kind x.num) w) := by
  obtain ⟨_, hrk, _⟩ := Pl.ok_parts hok
  obtain ⟨i0, hi0', hz0, hz1, hz2⟩ := info_parts sort_info2
  have hmk := fun W (r : Nat) (h4 : r ≤ 4) => run_make (P := Try.prog) W 23 40 i0 _ Try.underlying23 hi0' hz0 .i64 .i64 (r : Int) (r : Int) (by omega) (by omega) (by rw [hz2]; omega) (by omega)
  simp only [hz1, Int.toNat_natCast, Nat.mul_one] at hmk
  have hmz : (Value.agg #[Value.slice none 0 0]).cells = #[.slice none 0 0] := rfl
  rw [hmz] at hmk
  have HMK := Lib.hid hmk
  clear hmk hmz hi0' hz0 hz1 hz2
  obtain ⟨g2, g1, g0⟩ := hp
  simp only [S.In] at g0 g1
  obtain ⟨A0, n0, c0, rfl, hn0, hc0, hm0, a0⟩ := g0
  obtain ⟨A1, n1, c1, rfl, hn1, hc1, hm1, a1⟩ := g1
  obtain ⟨A2, n2, c2, rfl, hn2, hc2, hm2, hrd2, hsz2⟩ := g2
  obtain ⟨A, n, c, rfl⟩ := hin.form
  obtain ⟨kd, nm, l⟩ := x
  simp only [T.kind, T.num]
  have hpick : ∀ k n, p.pick k n = pickH p.params p.funs (p.syms.map symS) k n := fun _ _ => rfl
  rw [hpick]
  generalize p.params = l0 at *
  generalize p.funs = l1 at *
  generalize p.syms = l2 at *
  clear hpick hok
  have hw3 : Below w.heap.size w (((w.alloc (.cells #[.slice A2 n2 c2, .slice A1 n1 c1, .slice A0 n0 c0] 25)).alloc (.cells #[.int .i64 kd, .int .i64 nm, .slice A n c] 35)).alloc (.cells #[.slice none 0 0] 40)) := (((Below.refl _ _).alloc (Nat.le_refl _) _).alloc (by simp) _).alloc (by simp; omega) _
  have bR : Blk (((w.alloc (.cells #[.slice A2 n2 c2, .slice A1 n1 c1, .slice A0 n0 c0] 25)).alloc (.cells #[.int .i64 kd, .int .i64 nm, .slice A n c] 35)).alloc (.cells #[.slice none 0 0] 40)) (w.heap.size + 1 + 1) 40 #[.slice none 0 0] := by
    simpa using Blk.new ((w.alloc (.cells #[.slice A2 n2 c2, .slice A1 n1 c1, .slice A0 n0 c0] 25)).alloc (.cells #[.int .i64 kd, .int .i64 nm, .slice A n c] 35)) 40 #[.slice none 0 0]
  by_cases hneg : nm < 0
  · have HF : Hid (pickH l0 l1 (l2.map symS) kd nm = none) := Lib.hid (by simp [pickH, hneg])
    clear hn0 hn1 hn2
    go_enter Try.func83, Try.ntmps83
    go_wp2_with fail
    rw [HF.out]
    exact bodyPost_ret (refHead_results rfl rfl bR) rfl ⟨_, rfl, S.At_nil, hw3⟩
  · obtain ⟨j, rfl⟩ : ∃ j : Nat, nm = (j : Int) := ⟨nm.toNat, by omega⟩
    have hj0 : (0 : Int) ≤ (j : Int) := by omega
    clear hneg
    by_cases k0 : kd = 0
    · subst k0
      by_cases hj : n0 ≤ j
      · have HF : Hid (pickH l0 l1 (l2.map symS) 0 (j : Int) = none) := Lib.hid (by simp [pickH]; omega)
        clear hn0 hn1 hn2
        go_enter Try.func83, Try.ntmps83
        go_wp2_with fail
        rw [HF.out]
        exact bodyPost_ret (refHead_results rfl rfl bR) rfl ⟨_, rfl, S.At_nil, hw3⟩
      · skip
        have hlt : j < l0.length := by omega
        have hx : l0[j]? = some l0[j] := List.getElem?_eq_getElem hlt
        have HF : Hid (pickH l0 l1 (l2.map symS) 0 (j : Int) = some l0[j]) := Lib.hid (by simp [pickH, hlt])
        obtain ⟨ad, u, rfl, _, hlt2, hcl, hinx⟩ := a0.at_ hx
        rw [Nat.zero_add] at hcl
        have hcl3 := (hw3.cell (p := ad.add j) (by rw [block_of_add]; omega)).trans hcl
        obtain ⟨A7, n7, c7, rfl⟩ := hinx.form
        have hin7 := hinx.below hw3 hhi
        generalize l0[j] = y at *
        have hjn : j < n0 := by omega
        clear hx hcl hn0 hn1 hn2
        go_enter Try.func83, Try.ntmps83
        go_wp2_with fail
        rw [HF.out]
        exact bodyPost_ret (refHead_results rfl rfl (blk3 _ _ _ _ _)) rfl ⟨_, rfl, ⟨0, hi0, hinx.below (bel3 _ _ _ _) hhi, .inl ⟨rfl, rfl⟩, by simp; omega⟩, bel3 _ _ _ _⟩
    · by_cases k1 : kd = 1
      · subst k1
        by_cases hj : n1 ≤ j
        · have HF : Hid (pickH l0 l1 (l2.map symS) 1 (j : Int) = none) := Lib.hid (by simp [pickH]; omega)
          clear hn0 hn1 hn2
          go_enter Try.func83, Try.ntmps83
          go_wp2_with fail
          rw [HF.out]
          exact bodyPost_ret (refHead_results rfl rfl bR) rfl ⟨_, rfl, S.At_nil, hw3⟩
        · skip
          have hlt : j < l1.length := by omega
          have hx : l1[j]? = some l1[j] := List.getElem?_eq_getElem hlt
          have HF : Hid (pickH l0 l1 (l2.map symS) 1 (j : Int) = some l1[j]) := Lib.hid (by simp [pickH, hlt])
          obtain ⟨ad, u, rfl, _, hlt2, hcl, hinx⟩ := a1.at_ hx
          rw [Nat.zero_add] at hcl
          have hcl3 := (hw3.cell (p := ad.add j) (by rw [block_of_add]; omega)).trans hcl
          obtain ⟨A7, n7, c7, rfl⟩ := hinx.form
          have hin7 := hinx.below hw3 hhi
          generalize l1[j] = y at *
          have hjn : j < n1 := by omega
          clear hx hcl hn0 hn1 hn2
          go_enter Try.func83, Try.ntmps83
          go_wp2_with fail
          rw [HF.out]
          exact bodyPost_ret (refHead_results rfl rfl (blk3 _ _ _ _ _)) rfl ⟨_, rfl, ⟨0, hi0, hinx.below (bel3 _ _ _ _) hhi, .inl ⟨rfl, rfl⟩, by simp; omega⟩, bel3 _ _ _ _⟩
      · by_cases k2 : kd = 2
        · subst k2
          by_cases hj : n2 ≤ j
          · have HF : Hid (pickH l0 l1 (l2.map symS) 2 (j : Int) = none) := Lib.hid (by simp [pickH]; omega)
            clear hn0 hn1 hn2
            go_enter Try.func83, Try.ntmps83
            go_wp2_with fail
            rw [HF.out]
            exact bodyPost_ret (refHead_results rfl rfl bR) rfl ⟨_, rfl, S.At_nil, hw3⟩
          · have hlt : j < l2.length := by omega
            have hx : l2[j]? = some l2[j] := List.getElem?_eq_getElem hlt
            have hrx := hrk l2[j] (List.getElem_mem hlt)
            have HF0 : pickH l0 l1 (l2.map symS) 2 (j : Int) = some (symS l2[j]) := by simp [pickH, hlt]
            obtain ⟨ad, rfl, hP2, hel⟩ := sy_el hrd2 hx
            obtain ⟨r0, r1⟩ := hel.keep (hw3.block _ (by omega))
            generalize l2[j] = y at *
            obtain ⟨name, rank⟩ := y
            simp only at *
            obtain ⟨r, rfl⟩ : ∃ r : Nat, rank = (r : Int) := ⟨rank.toNat, by omega⟩
            have h4 : r ≤ 4 := by omega
            have HF : Hid (pickH l0 l1 (l2.map symS) 2 (j : Int) = some (rankS r)) := Lib.hid (by rw [HF0]; simp [symS])
            have hmake := HMK.out (((w.alloc (.cells #[.slice (some ad) n2 c2, .slice A1 n1 c1, .slice A0 n0 c0] 25)).alloc (.cells #[.int .i64 2, .int .i64 (j : Int), .slice A n c] 35)).alloc (.cells #[.slice none 0 0] 40)) r h4
            have hjn : j < n2 := by omega
            generalize hmc : madeCells #[Value.slice none 0 0] r = mc at *
            have HMC := Lib.hid hmc
            clear hx hel hn0 hn1 hn2 HF0 hmc
            go_enter Try.func83, Try.ntmps83
            go_wp2_with fail
            rw [HF.out]
            refine bodyPost_ret (refHead_results rfl rfl ((blk3 _ _ _ _ _).alloc _)) rfl ⟨_, rfl, ⟨w.heap.size + 1 + 1 + 1, w.heap.size + 1 + 1 + 1 + 1, ?_, .inr (by omega), by simp⟩, (bel3 _ _ _ _).alloc (by simp; omega) _⟩
            refine S.In_ranks (by omega) ?_ (Nat.le_refl _) (by omega)
            rw [HMC.out]
            exact blk4 _ _ _ _ _ _
        · have HF : Hid (pickH l0 l1 (l2.map symS) kd (j : Int) = none) := Lib.hid (by simp [pickH, k0, k1, k2])
          have e0 : (kd == 0) = false := by simpa using k0
          have e1 : (kd == 1) = false := by simpa using k1
          have e2 : (kd == 2) = false := by simpa using k2
          clear hn0 hn1 hn2
          go_enter Try.func83, Try.ntmps83
          go_wp2_with fail
          rw [HF.out]
          exact bodyPost_ret (refHead_results rfl rfl bR) rfl ⟨_, rfl, S.At_nil, hw3⟩

set_option maxRecDepth 100000 in
set_option maxHeartbeats 3200000 in
theorem refIs_any (p : Pl) (v0 v1 v2 : Value) (w : World) (hi : Nat) (hin : PlIn w 0 hi p v0 v1 v2) (hhi : hi ≤ w.heap.size) :
    Calls Try.prog 37 #[.agg #[v0, v1, v2]] w fun e w' => e = .returned (.bool p.ok) ∧ Below w.heap.size w w' := by
  have k0 := PlKept.start (ty := 25) hin hhi
  obtain ⟨A0, n0, c0, rfl⟩ := hin.s.form
  have hf := hin.f
  have hr := hin.r
  simp only [S.In] at hf hr
  obtain ⟨A1, n1, c1, rfl, hn1, hc1, hm1, a1⟩ := hf
  obtain ⟨A2, n2, c2, rfl, hn2, hc2, hm2, a2⟩ := hr
  have HS := Lib.hid (refSymbols_any p.syms _ _ _ k0.i.s (fun b hb => by have := k0.hi; omega))
  cases h1 : symsB p.syms with
  | false =>
    have HF : Hid (p.ok = false) := Lib.hid (by simp [Pl.ok, h1])
    rw [h1] at HS
    clear h1 hn1 hn2
    go_enter Try.func37, Try.ntmps37
    go_wp2_with fail
    refine HS.out.mono ?_
    rintro e w1 ⟨rfl, hb1⟩
    have k1 := k0.next hb1
    go_wp2_with fail
    go_ret
    exact ⟨by rw [HF.out]; rfl, k1.bel⟩
  | true =>
    rw [h1] at HS
    have HX1 := Lib.hid h1
    clear h1
    by_cases h64 : p.funs.length ≤ 64
    · by_cases h8 : p.params.length ≤ 8
      · have HOK : Hid (p.ok = (p.funs.all S.ok && p.params.all S.ok)) := Lib.hid (by simp [Pl.ok, HX1.out, sortsB, h64, h8])
        have HN1 := Lib.hid hn1
        have HN2 := Lib.hid hn2
        have g64 : n1 ≤ 64 := by omega
        have g8 : n2 ≤ 8 := by omega
        clear hn1 hn2
        go_enter Try.func37, Try.ntmps37
        go_wp2_with fail
        refine HS.out.mono ?_
        rintro e w1 ⟨rfl, hb1⟩
        have k1 := k0.next hb1
        clear k0 hb1 HS
        have d1 := k1.b.cell 1
        have d2 := k1.b.cell 2
        go_wp2_with fail
        go_loopw [26] (fun i wr => ∃ k : Nat, k ≤ n1 ∧ i = .int .i64 k ∧ Hid ((p.funs.take k).all S.ok = true) ∧ PlKept 25 p (.slice A0 n0 c0) (.slice A1 n1 c1) (.slice A2 n2 c2) 0 hi w.heap.size w wr) (fun i _ => n1 - (intOf i).toNat)
        case atStart => exact ⟨0, Nat.zero_le _, rfl, Lib.hid (by simp), k1⟩
        case round =>
          obtain ⟨k, hk, rfl, hfk, kr⟩ := hrel
          clear d1 d2
          by_cases hlt : k < n1
          · have hlt' : k < p.funs.length := by have := HN1.out; omega
            have hx : p.funs[k]? = some p.funs[k] := List.getElem?_eq_getElem hlt'
            have hfr := kr.i.f
            simp only [S.In] at hfr
            obtain ⟨A1', n1', c1', he, _, _, _, ar⟩ := hfr
            injection he with e1 e2 e3
            subst e1 e2 e3
            obtain ⟨ad, u, rfl, _, hlt2, hcl, hinx⟩ := ar.at_ hx
            rw [Nat.zero_add] at hcl
            have hbx : Below wr.heap.size wr (wr.alloc (.cells #[u] 40)) := (Below.refl _ _).alloc (Nat.le_refl _) _
            have HI := Lib.hid (is_any p.funs[k] u _ 0 hi (hinx.below hbx kr.hi) (by have := kr.hi; simp; omega))
            have hsucc := allok_take_succ hx
            have hfin := @allok_false p.funs k p.funs[k] hx
            rw [hfk.out, Bool.true_and] at hsucc
            have kr2 := kr.next hbx
            generalize p.funs[k] = x at *
            obtain ⟨A7, n7, c7, rfl⟩ := hinx.form
            cases hxo : x.ok with
            | true =>
              rw [hxo] at HI hsucc
              have HR := Lib.hid hsucc
              clear hx hsucc hfin hxo
              go_wp2_with fail
              refine HI.out.mono ?_
              rintro e w2 ⟨rfl, hb2⟩
              have kr3 := kr2.next hb2
              go_wp2_with fail
              go_roundw
              case rel => exact ⟨k + 1, by omega, by go_num, HR, kr3⟩
              case measure => simp [intOf]; omega
            | false =>
              rw [hxo] at HI
              have HR := Lib.hid (hfin hxo)
              clear hx hsucc hfin hxo
              go_wp2_with fail
              refine HI.out.mono ?_
              rintro e w2 ⟨rfl, hb2⟩
              have kr3 := kr2.next hb2
              go_wp2_with fail
              go_ret
              exact ⟨by rw [HOK.out, HR.out]; rfl, kr3.bel⟩
          · have hll : p.funs.take k = p.funs := List.take_of_length_le (by have := HN1.out; omega)
            rw [hll] at hfk
            clear hll
            have d1 := kr.b.cell 1
            have d2 := kr.b.cell 2
            go_wp2_with fail
            go_loopw [37] (fun i wr => ∃ j : Nat, j ≤ n2 ∧ i = .int .i64 j ∧ Hid ((p.params.take j).all S.ok = true) ∧ PlKept 25 p (.slice A0 n0 c0) (.slice A1 n1 c1) (.slice A2 n2 c2) 0 hi w.heap.size w wr) (fun i _ => n2 - (intOf i).toNat)
            case atStart => exact ⟨0, Nat.zero_le _, rfl, Lib.hid (by simp), kr⟩
            case round =>
              obtain ⟨j, hj, rfl, hgj, kq⟩ := hrel
              clear d1 d2
              by_cases hltj : j < n2
              · have hlt' : j < p.params.length := by have := HN2.out; omega
                have hx : p.params[j]? = some p.params[j] := List.getElem?_eq_getElem hlt'
                have hfr := kq.i.r
                simp only [S.In] at hfr
                obtain ⟨A2', n2', c2', he, _, _, _, ar⟩ := hfr
                injection he with e1 e2 e3
                subst e1 e2 e3
                obtain ⟨ad, u, rfl, _, hlt2, hcl, hinx⟩ := ar.at_ hx
                rw [Nat.zero_add] at hcl
                have hbx : Below wr.heap.size wr (wr.alloc (.cells #[u] 40)) := (Below.refl _ _).alloc (Nat.le_refl _) _
                have HI := Lib.hid (is_any p.params[j] u _ 0 hi (hinx.below hbx kq.hi) (by have := kq.hi; simp; omega))
                have hsucc := allok_take_succ hx
                have hfin := @allok_false p.params j p.params[j] hx
                rw [hgj.out, Bool.true_and] at hsucc
                have kq2 := kq.next hbx
                generalize p.params[j] = x at *
                obtain ⟨A7, n7, c7, rfl⟩ := hinx.form
                cases hxo : x.ok with
                | true =>
                  rw [hxo] at HI hsucc
                  have HR := Lib.hid hsucc
                  clear hx hsucc hfin hxo
                  go_wp2_with fail
                  refine HI.out.mono ?_
                  rintro e w2 ⟨rfl, hb2⟩
                  have kq3 := kq2.next hb2
                  go_wp2_with fail
                  go_roundw
                  case rel => exact ⟨j + 1, by omega, by go_num, HR, kq3⟩
                  case measure => simp [intOf]; omega
                | false =>
                  rw [hxo] at HI
                  have HR := Lib.hid (hfin hxo)
                  clear hx hsucc hfin hxo
                  go_wp2_with fail
                  refine HI.out.mono ?_
                  rintro e w2 ⟨rfl, hb2⟩
                  have kq3 := kq2.next hb2
                  go_wp2_with fail
                  go_ret
                  exact ⟨by rw [HOK.out, HR.out, Bool.and_false]; rfl, kq3.bel⟩
              · have hll : p.params.take j = p.params := List.take_of_length_le (by have := HN2.out; omega)
                rw [hll] at hgj
                clear hll
                go_wp2_with fail
                go_ret
                exact ⟨by rw [HOK.out, hfk.out, hgj.out]; rfl, kq.bel⟩
      · have HF : Hid (p.ok = false) := Lib.hid (by simp [Pl.ok, sortsB, h8])
        have g64 : n1 ≤ 64 := by omega
        have g8 : 8 < n2 := by omega
        clear hn1 hn2
        go_enter Try.func37, Try.ntmps37
        go_wp2_with fail
        refine HS.out.mono ?_
        rintro e w1 ⟨rfl, hb1⟩
        have k1 := k0.next hb1
        have d1 := k1.b.cell 1
        have d2 := k1.b.cell 2
        go_wp2_with fail
        go_ret
        exact ⟨by rw [HF.out]; rfl, k1.bel⟩
    · have HF : Hid (p.ok = false) := Lib.hid (by simp [Pl.ok, sortsB, h64])
      have g64 : 64 < n1 := by omega
      clear hn1 hn2
      go_enter Try.func37, Try.ntmps37
      go_wp2_with fail
      refine HS.out.mono ?_
      rintro e w1 ⟨rfl, hb1⟩
      have k1 := k0.next hb1
      have d1 := k1.b.cell 1
      have d2 := k1.b.cell 2
      go_wp2_with fail
      go_ret
      exact ⟨by rw [HF.out]; rfl, k1.bel⟩
end Go.Proofs.Ytmggccgjhjknpaa
