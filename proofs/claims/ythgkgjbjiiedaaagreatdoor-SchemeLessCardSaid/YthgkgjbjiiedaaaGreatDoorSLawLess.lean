/-
  SchemeLess: a scheme without the functions that are not needed is valid, needs all of its functions, and has at most the order.
-/
import Derived.Test.YthgkgjbjiiedaaaGreatDoorSLessM
namespace Go.Proofs.YthgkgjbjiiedaaaGreatDoor
open Go.RowKit Go.Shelf

/-- The number before place k; -1 at the start. -/
def lastOf (l : List Int) : Nat → Int
  | 0 => -1
  | k + 1 => (l[k]?).getD (-1)

theorem reach_at {s : Sc} (G : s.Good) {k : Nat} {n : Int} (hx : s.reachL[k]? = some n) : 0 ≤ n ∧ n < (s.funs.length : Int) ∧ lastOf s.reachL k < n ∧ ∀ (i : Nat) (n' : Int), i < k → s.reachL[i]? = some n' → n' < n ∧ 0 ≤ n' := by
  have hr : ∀ {x : Int}, x ∈ s.reachL → 0 ≤ x ∧ x < (s.funs.length : Int) := fun {x} h =>
    (needF_good G.calls (s.funs.length + 1) 0 [] ⟨by simp, by simp⟩ (by omega) (by have := G.n1; omega)).1.2 x ((reachL_mem G.calls G.n1 x).1 h)
  have hb : ∀ (i : Nat) (n' : Int), i < k → s.reachL[i]? = some n' → n' < n ∧ 0 ≤ n' := by
    intro i n' hi hxi
    obtain ⟨h1, e1⟩ := List.getElem?_eq_some_iff.1 hxi
    obtain ⟨h2, e2⟩ := List.getElem?_eq_some_iff.1 hx
    have := List.pairwise_iff_getElem.1 (reachL_up s) i k h1 h2 hi
    rw [e1, e2] at this
    exact ⟨this, (hr (List.mem_of_getElem? hxi)).1⟩
  refine ⟨(hr (List.mem_of_getElem? hx)).1, (hr (List.mem_of_getElem? hx)).2, ?_, hb⟩
  cases k with
  | zero =>
    have := (hr (List.mem_of_getElem? hx)).1
    simp only [lastOf]; omega
  | succ k =>
    have hk : s.reachL[k]? = some (s.reachL[k]'(by have := (List.getElem?_eq_some_iff.1 hx).1; omega)) := List.getElem?_eq_getElem _
    simp only [lastOf, hk, Option.getD_some]
    exact (hb k _ (by omega) hk).1

set_option maxHeartbeats 3200000 in
set_option maxRecDepth 100000 in
theorem lawLessS_any (s : Sc) (v0 v1 : Value) (w : World) (hi : Nat) (hin : ScIn w hi s v0 v1) (hhi : hi ≤ w.heap.size) (hg : GV w) (h8 : 8 ≤ w.heap.size) :
    Calls Tryz.prog 12 #[.agg #[v0, v1]] w fun e w' => e = .returned (.bool true) ∧ Below w.heap.size w w' := by
  have k0 := ScG.start hin hhi hg h8
  obtain ⟨i0, hi0, hz0, hz1, hz2⟩ := info_parts int_info
  obtain ⟨j0, hj0, hy0, hy1, hy2⟩ := info_parts fn_info
  have hmk := fun W (r : Nat) (h4 : r ≤ 64) => run_make (P := Tryz.prog) W 33 3 i0 _ Tryz.underlying33 hi0 hz0 .i64 .i64 (r : Int) (r : Int) (by omega) (by omega) (by rw [hz2]; omega) (by omega)
  simp only [hz1, Int.toNat_natCast, Nat.mul_one] at hmk
  have hmz : (Value.int IntKind.i64 0).cells = #[.int .i64 0] := rfl
  rw [hmz] at hmk
  simp only [ints_made] at hmk
  clear hi0 hz0 hz1 hz2 hmz
  obtain ⟨⟨A0, n0, c0, rfl⟩, ⟨A1, n1, c1, rfl⟩⟩ := hin.form
  obtain ⟨d0, d1⟩ := k0.two
  have HR := Lib.hid (schemeReach_any s _ _ _ hi k0.k.i k0.lt.1)
  have HI := Lib.hid (fun W (h : ScG s (.slice A0 n0 c0) (.slice A1 n1 c1) hi w.heap.size w W) => refScIs_any s _ _ W hi h.k.i h.lt.1)
  rw [sayOk_ok] at HI
  cases hok : s.ok with
  | false =>
    have HRE : Hid (s.reaches = []) := Lib.hid (by simp [Sc.reaches, hok])
    rw [hok] at HI HR
    rw [HRE.out] at HR
    simp only [schErr] at HR
    clear hok hmk
    go_enter Tryz.func12, Tryz.ntmps12
    go_wp2_with fail
    refine HR.out.mono ?_
    rintro e w1 ⟨vl, rfl, hzl, b1⟩
    obtain ⟨A2, c2, rfl, _, _⟩ := hzl.form
    have k1 := k0.next b1
    obtain ⟨e0, e1⟩ := k1.two
    have HI1 := Lib.hid (HI.out _ k1)
    clear hzl d0 d1 k0 b1 HR HI
    go_wp2_with fail
    refine HI1.out.mono ?_
    rintro e w2 ⟨rfl, b2⟩
    have k2 := k1.next b2
    have HA := Lib.hid (aliveS_any w2 k2.g k2.lt.2)
    clear e0 e1 k1 b2 HI1
    go_wp2_with fail
    refine HA.out.mono ?_
    rintro e w3 ⟨rfl, b3⟩
    have k3 := k2.next b3
    go_wp2_with fail
    go_ret
    exact ⟨rfl, k3.k.bel⟩
  | true =>
    have HRE : Hid (s.reaches = s.reachL) := Lib.hid (by simp [Sc.reaches, hok])
    have G := Sc.good hok
    have HOK := Lib.hid hok
    rw [HRE.out, hok] at HR
    simp only [schErr, if_true] at HR
    have hrl := reachL_len s
    have hn64 := G.n64
    have hn1 := G.n1
    clear hok HI
    go_enter Tryz.func12, Tryz.ntmps12
    go_wp2_with fail
    refine HR.out.mono ?_
    rintro e w1 ⟨vl, rfl, hzl, b1⟩
    obtain ⟨A2, c2, rfl, hlc2, hcc2⟩ := hzl.form
    have k1 := k0.next b1
    obtain ⟨e0, e1⟩ := k1.two
    have HZL := Lib.hid hzl
    have K1 := Lib.hid k1
    obtain ⟨A, _, c, us, he, hl, hnc, hc, hrd, hrow⟩ := k1.k.i.fn
    injection he with g1 g2 g3
    subst g1 g2 g3 hl
    obtain ⟨cs, HMK, hB0⟩ : ∃ cs, (Instr.makeSlice 33 (.int .i64 (s.funs.length : Int)) (.int .i64 (s.funs.length : Int))).run Tryz.prog w1 = .ok (.slice (some ⟨w1.heap.size, 0, none⟩) s.funs.length s.funs.length) (w1.alloc (.cells cs 3)) ∧ Zs w1.heap.size (w1.alloc (.cells cs 3)) (List.replicate s.funs.length 0) (.slice (some ⟨w1.heap.size, 0, none⟩) s.funs.length s.funs.length) :=
      ⟨_, hmk w1 s.funs.length hn64, by simpa using Zs.of_blk (l := List.replicate s.funs.length 0) (Blk.new w1 _ _) (Nat.le_refl _) (by simp; omega)⟩
    have HB0 := Lib.hid hB0
    have hbel1 : Below w1.heap.size w1 (w1.alloc (.cells cs 3)) := (Below.refl _ _).alloc (Nat.le_refl _) _
    clear hzl d0 d1 k0 b1 HR hmk k1 hB0
    go_wp2_with fail
    go_loopw [44] (fun i wr => ∃ (k : Nat) (zl : List Int), k ≤ s.funs.length ∧ i = .int .i64 k ∧ zl.length = s.funs.length ∧ Zs w1.heap.size wr zl (.slice (some ⟨w1.heap.size, 0, none⟩) s.funs.length s.funs.length) ∧ Below w1.heap.size w1 wr) (fun i _ => s.funs.length - (Go.RowKit.intOf i).toNat)
    case atStart => exact ⟨0, _, Nat.zero_le _, rfl, by simp, HB0.out, hbel1⟩
    case round =>
      obtain ⟨k, zl, hk, rfl, hzlen, hzz, hbel⟩ := hrel
      by_cases hlt : k < s.funs.length
      · have hx : zl[k]? = some (zl[k]'(by omega)) := List.getElem?_eq_getElem (by omega)
        have r0 := hzz.cells hx
        obtain ⟨cur, hbk, _⟩ := hzz.blk
        have r1 := hbk.frozen k
        have HZZ := Lib.hid hzz
        have HZN := Lib.hid hzlen
        generalize zl[k]'(by omega) = y at *
        clear hx hzz hzlen hbk
        go_wp2_with fail
        go_roundw
        case rel => exact ⟨k + 1, zl.set k _, by omega, by go_num, by rw [List.length_set]; exact HZN.out, HZZ.out.set_ k _, hbel.setCell (Nat.le_refl _) _⟩
        case measure => simp [Go.RowKit.intOf]; omega
      · have hzr := hbel.size
        have HZ1 := Lib.hid (HZL.out.below hbel)
        have HZZ := Lib.hid hzz
        have HZN := Lib.hid hzlen
        clear hzz hzlen
        go_wp2_with fail
        go_loopw [53, 7] (fun i m wr2 => ∃ (k : Nat) (zl : List Int) (la : Int), k ≤ s.reachL.length ∧ i = .int .i64 k ∧ m = .int .i64 la ∧ la = lastOf s.reachL k ∧ zl.length = s.funs.length ∧ (∀ (i : Nat) (n : Int), i < k → s.reachL[i]? = some n → zl[n.toNat]? = some (i : Int)) ∧
          Zs w1.heap.size wr2 zl (.slice (some ⟨w1.heap.size, 0, none⟩) s.funs.length s.funs.length) ∧ Below w1.heap.size w1 wr2) (fun i _ _ => s.reachL.length - (Go.RowKit.intOf i).toNat)
        case atStart => exact ⟨0, zl, -1, Nat.zero_le _, rfl, rfl, rfl, HZN.out, fun i n h => absurd h (by omega), HZZ.out, hbel⟩
        case round =>
          obtain ⟨k, zl, la, hk, rfl, rfl, hla, hzlen, hto, hzz, hbel⟩ := hrel
          have hzr := hbel.size
          have e1r := (K1.out.k.b.below hbel K1.out.k.b.lt).cell 1
          have e0r := (K1.out.k.b.below hbel K1.out.k.b.lt).cell 0
          simp at e1r e0r
          by_cases hlt : k < s.reachL.length
          · have hx : s.reachL[k]? = some s.reachL[k] := List.getElem?_eq_getElem hlt
            obtain ⟨hn0, hnN, hln, hbef⟩ := reach_at G hx
            obtain ⟨g, rfl, hgl, r0⟩ := (HZL.out.below hbel).cell hx
            generalize s.reachL[k] = n at *
            obtain ⟨m, rfl⟩ := Int.eq_ofNat_of_zero_le hn0
            have hxz : zl[m]? = some (zl[m]'(by omega)) := List.getElem?_eq_getElem (by omega)
            have r1 := hzz.cells hxz
            obtain ⟨cur, hbk, _⟩ := hzz.blk
            have r2 := hbk.frozen m
            generalize zl[m]'(by omega) = y at *
            have g1 : decide ((m : Int) ≤ la) = false := decide_eq_false (by omega)
            have g2 : decide ((s.funs.length : Int) ≤ (m : Int)) = false := decide_eq_false (by omega)
            have hto2 : ∀ (i : Nat) (n : Int), i < k + 1 → s.reachL[i]? = some n → (zl.set m (k : Int))[n.toNat]? = some (i : Int) := by
              intro i n hi hxi
              by_cases hik : i = k
              · subst hik
                rw [hx] at hxi
                cases hxi
                rw [Int.toNat_natCast, List.getElem?_set_self (by omega)]
              · obtain ⟨h1, h2⟩ := hbef i n (by omega) hxi
                rw [List.getElem?_set_ne (by omega)]
                exact hto i n (by omega) hxi
            have HTO := Lib.hid hto2
            have HLA : Hid ((m : Int) = lastOf s.reachL (k + 1)) := Lib.hid (by simp [lastOf, hx])
            have HZZ2 := Lib.hid hzz
            have HZN2 := Lib.hid hzlen
            clear hx hla hzlen hto hto2 hzz hxz hbk hbef HMK HZ1 HZZ HZN
            go_wp2_with fail
            go_roundw
            case rel => exact ⟨k + 1, zl.set m (k : Int), (m : Int), by omega, by go_num, rfl, HLA.out, by rw [List.length_set]; exact HZN2.out, HTO.out, HZZ2.out.set_ m _, hbel.setCell (Nat.le_refl _) _⟩
            case measure => simp [Go.RowKit.intOf]; omega
          · have hke : k = s.reachL.length := by omega
            subst hke
            have hkp : Kept s (atZ zl) := ⟨G, fun i n hx => by
              have hi := (List.getElem?_eq_some_iff.1 hx).1
              simp [atZ, hto i n hi hx]⟩
            have HKP := Lib.hid hkp
            have HZZ2 := Lib.hid hzz
            have HZN2 := Lib.hid hzlen
            clear hla hzlen hto hzz hkp HMK HZ1 HZZ HZN
            go_wp2_with fail
            obtain ⟨WU, hWU⟩ : ∃ W, W = wr := ⟨_, rfl⟩
            subst hWU
            have K1U := Lib.hid (K1.out.next hbel)
            have hRL := RoundL.start (w := WU) (K1U.out.k.i.sy) K1U.out.lt.1
            have HRL := Lib.hid hRL
            have HZLU := Lib.hid (HZL.out.below hbel)
            clear hRL
            go_loopw [79] (fun i wr5 => ∃ (k : Nat) (vf : Value) (us : List Value), k ≤ s.reachL.length ∧ i = .int .i64 k ∧ RoundL s.syms ((s.reachL.take k).map (s.lessF (atZ zl))) hi WU.heap.size WU (.slice A0 n0 c0) vf us wr5) (fun i _ => s.reachL.length - (Go.RowKit.intOf i).toNat)
            case atStart => exact ⟨0, _, [], Nat.zero_le _, rfl, HRL.out⟩
            case round =>
              obtain ⟨k, vf, us, hk, rfl, hr⟩ := hrel
              have hsz := hr.bel.size
              have hsz1 := hr.out.lt
              have k5 := K1U.out.next hr.bel
              obtain ⟨f0, f1⟩ := k5.two
              by_cases hlt : k < s.reachL.length
              · have hx : s.reachL[k]? = some s.reachL[k] := List.getElem?_eq_getElem hlt
                obtain ⟨g, rfl, hgl, r0⟩ := (HZLU.out.below hr.bel).cell hx
                obtain ⟨f, hfx, hfm, hlf, hn0, hnN, hcc⟩ := HKP.out.mem (List.getElem_mem hlt)
                have hsnoc : (s.reachL.take (k + 1)).map (s.lessF (atZ zl)) = (s.reachL.take k).map (s.lessF (atZ zl)) ++ [s.lessF (atZ zl) s.reachL[k]] := by rw [List.take_add_one, hx, List.map_append]; rfl
                rw [hlf] at hsnoc
                have hkl : ((s.reachL.take k).map (s.lessF (atZ zl))).length = k := by rw [List.length_map, List.length_take]; omega
                generalize s.reachL[k] = n at *
                obtain ⟨m, rfl⟩ := Int.eq_ofNat_of_zero_le hn0
                rw [Int.toNat_natCast] at hfx
                obtain ⟨ad, u, v, rfl, hPa, hel, hsu, hbv, hsx⟩ := fn_el hrd hrow hfx
                have hbr := hbel.trans (hr.bel.mono (by have := hbel.size; omega))
                have hhi1 := K1.out.lt.1
                obtain ⟨s0, s1, s2, s3, s4⟩ := hel.keep (hbr.block _ (by omega))
                obtain ⟨A5, n5, c5, rfl⟩ := hsu.form
                obtain ⟨A6, n6, c6, rfl⟩ := hbv.form
                have hcb := (G.body hfm).1
                have hcls := G.calls f hfm
                obtain ⟨name, sort, body⟩ := f
                simp only at s0 s1 s2 s3 s4 hsu hbv hsx hcb hcls hsnoc
                have hih := fun w' (h : Below (wr.heap.size + 1) (wr.alloc (.cells #[.string name, .slice A5 n5 c5, .int .i64 body.kind, .int .i64 body.num, .slice A6 n6 c6] 52)).drew w') =>
                  renamed_any body.count body (.slice A6 n6 c6) w' (fun b => b < hi) zl (.slice (some ⟨w1.heap.size, 0, none⟩) s.funs.length s.funs.length) (Nat.le_refl _) (by omega)
                    ((((hbv.below hbr (fun b hb => by omega)).below ((Below.refl wr.heap.size wr).alloc (Nat.le_refl _) _) (fun b hb => by have := hbr.size; omega)).below (Below.refl wr.heap.size _).drew (fun b hb => by have := hbr.size; omega)).below h (fun b hb => by have := hbr.size; omega))
                    (fun b hb => by have h2 : (wr.alloc (.cells #[.string name, .slice A5 n5 c5, .int .i64 body.kind, .int .i64 body.num, .slice A6 n6 c6] 52)).heap.size ≤ w'.heap.size := h.size; have := hbr.size; simp at h2; omega)
                    (((HZZ2.out.less (Nat.zero_le _)).below hr.bel).below' (((Below.refl wr.heap.size wr).alloc (Nat.le_refl _) _).trans ((Below.refl wr.heap.size _).drew.trans (h.mono (by omega)))) (Nat.le_refl _))
                    (fun c hc => by rw [HZN2.out]; exact hcls c hc)
                have HSU := Lib.hid (fun w' (h : Below (wr.heap.size + 1) (wr.alloc (.cells #[.string name, .slice A5 n5 c5, .int .i64 body.kind, .int .i64 body.num, .slice A6 n6 c6] 52)).drew w') => ((((hsu.below hbr (by omega)).below ((Below.refl wr.heap.size wr).alloc (Nat.le_refl _) _) (by have := hbr.size; omega)).below (Below.refl wr.heap.size _).drew (by have := hbr.size; omega)).below h (by have := hbr.size; omega) : sort.In w' 0 hi (.slice A5 n5 c5)))
                unfold Made at hih
                generalize (s.reachL.take k).map (s.lessF (atZ zl)) = ml at *
                generalize body.ren (atZ zl) = y2 at *
                have HIH := Lib.hid hih
                have HS := Lib.hid hsnoc
                have HL := Lib.hid hkl
                have hxB := Blk.new wr 52 #[.string name, .slice A5 n5 c5, .int .i64 body.kind, .int .i64 body.num, .slice A6 n6 c6]
                have d0 := (hr.out.alloc (.cells #[.string name, .slice A5 n5 c5, .int .i64 body.kind, .int .i64 body.num, .slice A6 n6 c6] 52)).cell 1
                have HXB := Lib.hid (hxB.drew)
                clear hih hx hel hsnoc hkl hsu hbv hxB hfx hlf hcc hcls
                go_wp2_with fail
                refine wp_region_held_drew (S := (fun W : World => W.cell? ⟨wr.heap.size, 0, none⟩ = some (.string name) ∧ W.cell? ⟨wr.heap.size, 1, none⟩ = some (.slice A5 n5 c5) ∧ W.cell? ⟨wr.heap.size, 2, none⟩ = some (.int .i64 body.kind) ∧ W.cell? ⟨wr.heap.size, 3, none⟩ = some (.int .i64 body.num) ∧ W.cell? ⟨wr.heap.size, 4, none⟩ = some (.slice A6 n6 c6))) (by kernel_rfl) (Blk.five HXB.out) (fun hHeld => ?_)
                refine wpAnyH_take (i := 0) (oi := { dst := some 88, op := Op.fieldAddr 25 (Operand.tmp 10) 1, type := 0, pos := "law.go:155", after := #[], guard := none }) (v := ?_) rfl (by kernel_rfl) (by kernel_rfl) (by kernel_rfl) (fun _ _ _ h => h) (Or.inl ⟨by rfl, ?_⟩) (by assumption) ?_
                rotate_left 1
                · intro w hSw
                  (try dsimp only at hSw)
                  go_simp <;> with_reducible rfl
                try simp only [Act.put, List.setIfInBounds_toArray, List.set_cons_zero, List.set_cons_succ]
                refine wpAnyH_take (i := 2) (oi := { dst := some 90, op := Op.fieldAddr 52 (Operand.tmp 13) 0, type := 0, pos := "law.go:155", after := #[], guard := none }) (v := ?_) rfl (by kernel_rfl) (by kernel_rfl) (by kernel_rfl) (fun _ _ _ h => h) (Or.inl ⟨by rfl, ?_⟩) (by assumption) ?_
                rotate_left 1
                · intro w hSw
                  (try dsimp only at hSw)
                  go_simp <;> with_reducible rfl
                try simp only [Act.put, List.setIfInBounds_toArray, List.set_cons_zero, List.set_cons_succ]
                refine wpAnyH_take (i := 3) (oi := { dst := some 91, op := Op.load 9 (Operand.tmp 90), type := 9, pos := "law.go:155", after := #[{ on := 2, ground := Ground.data }], guard := none }) (v := ?_) rfl (by kernel_rfl) (by kernel_rfl) (by kernel_rfl) (fun _ _ _ h => h) (Or.inl ⟨by rfl, ?_⟩) (by assumption) ?_
                rotate_left 1
                · intro w hSw
                  (try dsimp only at hSw)
                  go_simp <;> with_reducible rfl
                try simp only [Act.put, List.setIfInBounds_toArray, List.set_cons_zero, List.set_cons_succ]
                refine wpAnyH_take (i := 4) (oi := { dst := some 92, op := Op.fieldAddr 52 (Operand.tmp 13) 1, type := 0, pos := "law.go:155", after := #[], guard := none }) (v := ?_) rfl (by kernel_rfl) (by kernel_rfl) (by kernel_rfl) (fun _ _ _ h => h) (Or.inl ⟨by rfl, ?_⟩) (by assumption) ?_
                rotate_left 1
                · intro w hSw
                  (try dsimp only at hSw)
                  go_simp <;> with_reducible rfl
                try simp only [Act.put, List.setIfInBounds_toArray, List.set_cons_zero, List.set_cons_succ]
                refine wpAnyH_take (i := 5) (oi := { dst := some 93, op := Op.load 47 (Operand.tmp 92), type := 47, pos := "law.go:155", after := #[{ on := 4, ground := Ground.data }], guard := none }) (v := ?_) rfl (by kernel_rfl) (by kernel_rfl) (by kernel_rfl) (fun _ _ _ h => h) (Or.inl ⟨by rfl, ?_⟩) (by assumption) ?_
                rotate_left 1
                · intro w hSw
                  (try dsimp only at hSw)
                  go_simp <;> with_reducible rfl
                try simp only [Act.put, List.setIfInBounds_toArray, List.set_cons_zero, List.set_cons_succ]
                refine wpAnyH_take (i := 6) (oi := { dst := some 94, op := Op.fieldAddr 52 (Operand.tmp 13) 2, type := 0, pos := "law.go:155", after := #[], guard := none }) (v := ?_) rfl (by kernel_rfl) (by kernel_rfl) (by kernel_rfl) (fun _ _ _ h => h) (Or.inl ⟨by rfl, ?_⟩) (by assumption) ?_
                rotate_left 1
                · intro w hSw
                  (try dsimp only at hSw)
                  go_simp <;> with_reducible rfl
                try simp only [Act.put, List.setIfInBounds_toArray, List.set_cons_zero, List.set_cons_succ]
                refine wpAnyH_take (i := 7) (oi := { dst := some 95, op := Op.load 50 (Operand.tmp 94), type := 50, pos := "law.go:155", after := #[{ on := 6, ground := Ground.data }], guard := none }) (v := ?_) rfl (by kernel_rfl) (by kernel_rfl) (by kernel_rfl) (fun _ _ _ h => h) (Or.inl ⟨by rfl, ?_⟩) (by assumption) ?_
                rotate_left 1
                · intro w hSw
                  (try dsimp only at hSw)
                  go_simp <;> with_reducible rfl
                try simp only [Act.put, List.setIfInBounds_toArray, List.set_cons_zero, List.set_cons_succ]
                refine wpAnyH_take (i := 8) (oi := { dst := some 96, op := Op.move (Operand.tmp 5), type := 33, pos := "law.go:155", after := #[], guard := none }) (v := ?_) rfl (by kernel_rfl) (by kernel_rfl) (by kernel_rfl) (fun _ _ _ h => h) (Or.inl ⟨by rfl, ?_⟩) (by assumption) ?_
                rotate_left 1
                · intro w hSw
                  (try dsimp only at hSw)
                  go_simp <;> with_reducible rfl
                try simp only [Act.put, List.setIfInBounds_toArray, List.set_cons_zero, List.set_cons_succ]
                refine wpAnyH_ready (rs := [1, 9]) (by kernel_rfl) (by simp) ?_
                refine AllReadyH.cons (o := { dst := some 89, op := Op.load 23 (Operand.tmp 88), type := 23, pos := "law.go:155", after := #[{ on := 0, ground := Ground.data }], guard := none }) rfl (fun K hK => ?_) ?_
                · skip
                  go_simp
                  refine hK.out _ _ (Blk.five HXB.out) (fun hHeld => ?_)
                  clear hK K
                  try simp only [Act.put, List.setIfInBounds_toArray, List.set_cons_zero, List.set_cons_succ]
                  refine wpAnyH_ready (rs := [9]) (by kernel_rfl) (by simp) ?_
                  refine AllReadyH.cons (o := { dst := some 97, op := Op.call { callee := Callee.value (Operand.func 33), args := #[Operand.tmp 95, Operand.tmp 96], argTypes := #[50, 33] }, type := 50, pos := "law.go:155", after := #[{ on := 7, ground := Ground.data }, { on := 8, ground := Ground.data }], guard := none }) rfl (fun K hK => ?_) ?_
                  · skip
                    go_simp
                    go_at_call 33
                    refine (HIH.out _ (by exact Below.refl _ _)).mono ?_
                    rintro e w2 ⟨z2, us2, rfl, hm2, hb2⟩
                    obtain ⟨Az, cz, rfl⟩ := hm2.form
                    generalize hnz : y2.args.length = nz at *
                    have hwz2 : wr.heap.size + 1 ≤ w2.heap.size := by have h : (wr.alloc (.cells #[.string name, .slice A5 n5 c5, .int .i64 body.kind, .int .i64 body.num, .slice A6 n6 c6] 52)).heap.size ≤ w2.heap.size := hb2.size; simpa using h
                    have hbb2 : Below (wr.heap.size + 1) (wr.alloc (.cells #[.string name, .slice A5 n5 c5, .int .i64 body.kind, .int .i64 body.num, .slice A6 n6 c6] 52)).drew w2 := hb2.mono (by show _ ≤ (wr.alloc _).heap.size; simp)
                    have hblk2 : Blk w2 WU.heap.size 25 #[.slice A0 n0 c0, vf] := ((hr.out.alloc _).drew).below hbb2 (by omega)
                    have hxb2 : Blk w2 wr.heap.size 52 #[.string name, .slice A5 n5 c5, .int .i64 body.kind, .int .i64 body.num, .slice A6 n6 c6] := ((Blk.new wr 52 _).drew).below hbb2 (by omega)
                    have hown2 : w2.ownsRow (WU.heap.size + 1) 52 5 vf ml.length us := owns_kept3 ((hr.own.alloc _).drew) (fun b hb => hbb2.block b (by have := (hr.own.lt b hb).2; omega))
                    have q0 := hblk2.cell 1
                    have q5 : (w2.alloc (.cells #[.string name, .slice A5 n5 c5, .int .i64 y2.kind, .int .i64 y2.num, .slice Az nz cz] 52)).cell? ⟨WU.heap.size, 1, none⟩ = some vf := (hblk2.alloc _).cell 1
                    simp at q0
                    go_wp2_with fail
                    refine hK.out _ _ (Blk.five hxb2) (fun hHeld => ?_)
                    clear hK K
                    try simp only [Act.put, List.setIfInBounds_toArray, List.set_cons_zero, List.set_cons_succ]
                    refine wpAnyH_take (i := 10) (oi := { dst := some 98, op := Op.build 52 #[(0, Operand.tmp 91), (1, Operand.tmp 93), (2, Operand.tmp 97)], type := 52, pos := "law.go:155", after := #[{ on := 3, ground := Ground.data }, { on := 5, ground := Ground.data }, { on := 9, ground := Ground.data }], guard := none }) (v := ?_) rfl (by kernel_rfl) (by kernel_rfl) (by kernel_rfl) (fun _ _ _ h => h) (Or.inl ⟨by rfl, ?_⟩) (by assumption) ?_
                    rotate_left 1
                    · intro w hSw
                      (try dsimp only at hSw)
                      go_simp <;> with_reducible rfl
                    try simp only [Act.put, List.setIfInBounds_toArray, List.set_cons_zero, List.set_cons_succ]
                    refine wpAnyH_ready (rs := [11]) (by kernel_rfl) (by simp) ?_
                    refine AllReadyH.cons (o := { dst := some 99, op := Op.buildSlice 23 1 #[(0, Operand.tmp 98)], type := 23, pos := "law.go:155", after := #[{ on := 10, ground := Ground.data }], guard := none }) rfl (fun K hK => ?_) ?_
                    · skip
                      go_simp
                      refine hK.out _ _ (Blk.five (hxb2.alloc _)) (fun hHeld => ?_)
                      clear hK K
                      try simp only [Act.put, List.setIfInBounds_toArray, List.set_cons_zero, List.set_cons_succ]
                      refine wpAnyH_ready (rs := [12]) (by kernel_rfl) (by simp) ?_
                      refine AllReadyH.cons (o := { dst := some 100, op := Op.call { callee := Callee.builtin Builtin.append, args := #[Operand.tmp 89, Operand.tmp 99], argTypes := #[23, 23] }, type := 23, pos := "law.go:155", after := #[{ on := 1, ground := Ground.data }, { on := 11, ground := Ground.data }, { on := 9, ground := Ground.chain }], guard := none }) rfl (fun K hK => ?_) ?_
                      · skip
                        refine step_append_lies _ (by rfl) _ _ _ (by rfl) (WU.heap.size + 1) 52 j0 _ 5 80 Tryz.underlying23 hj0 hy0 hy1 hy2 rfl (by omega) vf _ us (by rfl) (by exact (hown2.alloc _)) ⟨w2.heap.size, 0, none⟩ 1 1 [.string name, .slice A5 n5 c5, .int .i64 y2.kind, .int .i64 y2.num, .slice Az nz cz] (by rfl) (by rfl) (by exact World.news_of_block (cs := #[.string name, .slice A5 n5 c5, .int .i64 y2.kind, .int .i64 y2.num, .slice Az nz cz]) (t := 52) (fr := (0, 0)) (heap_alloc_new w2 _)) (by simp [Value.oneCell']) (by omega) (by rw [HL.out]; simp only [maxLen]; omega) (by rw [HL.out]; omega) (by simp; omega) (w2.heap.size + 1) (by simp) ?_
                        intro gg cap w3 hown3 hgrow hat3 hlt3
                        have hblk3 : Blk w3 WU.heap.size 25 #[.slice A0 n0 c0, vf] := (hgrow.block _ (by simp; omega) (fun e => by have := (hr.own.lt _ e.symm).1; omega)).trans (hblk2.alloc _)
                        have hxb3 : Blk w3 wr.heap.size 52 #[.string name, .slice A5 n5 c5, .int .i64 body.kind, .int .i64 body.num, .slice A6 n6 c6] := (hgrow.block _ (by simp; omega) (fun e => by have := (hr.own.lt _ e.symm).2; omega)).trans (hxb2.alloc _)
                        have g2 := hblk3.cell 1
                        have g3 := hblk3.frozen 1
                        simp at g2
                        refine hK.out _ _ (Blk.five hxb3) (fun hHeld => ?_)
                        clear hK K
                        try simp only [Act.put, List.setIfInBounds_toArray, List.set_cons_zero, List.set_cons_succ]
                        refine wpAnyH_take (i := 13) (oi := { dst := some 101, op := Op.fieldAddr 25 (Operand.tmp 10) 1, type := 0, pos := "law.go:155", after := #[{ on := 0, ground := Ground.phase }, { on := 1, ground := Ground.phase }, { on := 2, ground := Ground.phase }, { on := 3, ground := Ground.phase }, { on := 4, ground := Ground.phase }, { on := 5, ground := Ground.phase }, { on := 6, ground := Ground.phase }, { on := 7, ground := Ground.phase }, { on := 8, ground := Ground.phase }, { on := 9, ground := Ground.phase }, { on := 10, ground := Ground.phase }, { on := 11, ground := Ground.phase }, { on := 12, ground := Ground.phase }], guard := none }) (v := ?_) rfl (by kernel_rfl) (by kernel_rfl) (by kernel_rfl) (fun _ _ _ h => h) (Or.inl ⟨by rfl, ?_⟩) (by assumption) ?_
                        rotate_left 1
                        · intro w hSw
                          (try dsimp only at hSw)
                          go_simp <;> with_reducible rfl
                        try simp only [Act.put, List.setIfInBounds_toArray, List.set_cons_zero, List.set_cons_succ]
                        refine wpAnyH_ready (rs := [14]) (by kernel_rfl) (by simp) ?_
                        refine AllReadyH.cons (o := { dst := none, op := Op.store 23 (Operand.tmp 101) (Operand.tmp 100), type := 0, pos := "law.go:155", after := #[{ on := 13, ground := Ground.data }, { on := 12, ground := Ground.data }, { on := 12, ground := Ground.chain }, { on := 0, ground := Ground.phase }, { on := 1, ground := Ground.phase }, { on := 2, ground := Ground.phase }, { on := 3, ground := Ground.phase }, { on := 4, ground := Ground.phase }, { on := 5, ground := Ground.phase }, { on := 6, ground := Ground.phase }, { on := 7, ground := Ground.phase }, { on := 8, ground := Ground.phase }, { on := 9, ground := Ground.phase }, { on := 10, ground := Ground.phase }, { on := 11, ground := Ground.phase }, { on := 12, ground := Ground.phase }], guard := none }) rfl (fun K hK => ?_) ?_
                        · skip
                          go_simp
                          refine hK.out _ _ (Blk.five (hxb3.far (by simp; omega) _)) (fun hHeld => ?_)
                          clear hK K
                          try simp only [Act.put, List.setIfInBounds_toArray, List.set_cons_zero, List.set_cons_succ]
                          refine wpAnyH_done (by kernel_rfl) ?_ _
                          go_wp2_with fail
                          go_roundw
                          case rel =>
                            have hnx := hr.next (x := ⟨name, sort, y2⟩) hsx (HSU.out _ hbb2) hbb2 hwz2 (by simpa [World.drew] using hm2) hown3 hgrow hat3 hlt3
                            rw [← HS.out] at hnx
                            exact ⟨k + 1, _, _, by omega, by go_num, hnx⟩
                          case measure => simp [Go.RowKit.intOf]; omega
                        exact AllReadyH.nil
                      exact AllReadyH.nil
                    exact AllReadyH.nil
                  exact AllReadyH.nil
                refine AllReadyH.cons (o := { dst := some 97, op := Op.call { callee := Callee.value (Operand.func 33), args := #[Operand.tmp 95, Operand.tmp 96], argTypes := #[50, 33] }, type := 50, pos := "law.go:155", after := #[{ on := 7, ground := Ground.data }, { on := 8, ground := Ground.data }], guard := none }) rfl (fun K hK => ?_) ?_
                · skip
                  go_simp
                  go_at_call 33
                  refine (HIH.out _ (by exact Below.refl _ _)).mono ?_
                  rintro e w2 ⟨z2, us2, rfl, hm2, hb2⟩
                  obtain ⟨Az, cz, rfl⟩ := hm2.form
                  generalize hnz : y2.args.length = nz at *
                  have hwz2 : wr.heap.size + 1 ≤ w2.heap.size := by have h : (wr.alloc (.cells #[.string name, .slice A5 n5 c5, .int .i64 body.kind, .int .i64 body.num, .slice A6 n6 c6] 52)).heap.size ≤ w2.heap.size := hb2.size; simpa using h
                  have hbb2 : Below (wr.heap.size + 1) (wr.alloc (.cells #[.string name, .slice A5 n5 c5, .int .i64 body.kind, .int .i64 body.num, .slice A6 n6 c6] 52)).drew w2 := hb2.mono (by show _ ≤ (wr.alloc _).heap.size; simp)
                  have hblk2 : Blk w2 WU.heap.size 25 #[.slice A0 n0 c0, vf] := ((hr.out.alloc _).drew).below hbb2 (by omega)
                  have hxb2 : Blk w2 wr.heap.size 52 #[.string name, .slice A5 n5 c5, .int .i64 body.kind, .int .i64 body.num, .slice A6 n6 c6] := ((Blk.new wr 52 _).drew).below hbb2 (by omega)
                  have hown2 : w2.ownsRow (WU.heap.size + 1) 52 5 vf ml.length us := owns_kept3 ((hr.own.alloc _).drew) (fun b hb => hbb2.block b (by have := (hr.own.lt b hb).2; omega))
                  have q0 := hblk2.cell 1
                  have q5 : (w2.alloc (.cells #[.string name, .slice A5 n5 c5, .int .i64 y2.kind, .int .i64 y2.num, .slice Az nz cz] 52)).cell? ⟨WU.heap.size, 1, none⟩ = some vf := (hblk2.alloc _).cell 1
                  simp at q0
                  go_wp2_with fail
                  refine hK.out _ _ (Blk.five hxb2) (fun hHeld => ?_)
                  clear hK K
                  try simp only [Act.put, List.setIfInBounds_toArray, List.set_cons_zero, List.set_cons_succ]
                  refine wpAnyH_take (i := 10) (oi := { dst := some 98, op := Op.build 52 #[(0, Operand.tmp 91), (1, Operand.tmp 93), (2, Operand.tmp 97)], type := 52, pos := "law.go:155", after := #[{ on := 3, ground := Ground.data }, { on := 5, ground := Ground.data }, { on := 9, ground := Ground.data }], guard := none }) (v := ?_) rfl (by kernel_rfl) (by kernel_rfl) (by kernel_rfl) (fun _ _ _ h => h) (Or.inl ⟨by rfl, ?_⟩) (by assumption) ?_
                  rotate_left 1
                  · intro w hSw
                    (try dsimp only at hSw)
                    go_simp <;> with_reducible rfl
                  try simp only [Act.put, List.setIfInBounds_toArray, List.set_cons_zero, List.set_cons_succ]
                  refine wpAnyH_ready (rs := [1, 11]) (by kernel_rfl) (by simp) ?_
                  refine AllReadyH.cons (o := { dst := some 89, op := Op.load 23 (Operand.tmp 88), type := 23, pos := "law.go:155", after := #[{ on := 0, ground := Ground.data }], guard := none }) rfl (fun K hK => ?_) ?_
                  · skip
                    go_simp
                    refine hK.out _ _ (Blk.five hxb2) (fun hHeld => ?_)
                    clear hK K
                    try simp only [Act.put, List.setIfInBounds_toArray, List.set_cons_zero, List.set_cons_succ]
                    refine wpAnyH_ready (rs := [11]) (by kernel_rfl) (by simp) ?_
                    refine AllReadyH.cons (o := { dst := some 99, op := Op.buildSlice 23 1 #[(0, Operand.tmp 98)], type := 23, pos := "law.go:155", after := #[{ on := 10, ground := Ground.data }], guard := none }) rfl (fun K hK => ?_) ?_
                    · skip
                      go_simp
                      refine hK.out _ _ (Blk.five (hxb2.alloc _)) (fun hHeld => ?_)
                      clear hK K
                      try simp only [Act.put, List.setIfInBounds_toArray, List.set_cons_zero, List.set_cons_succ]
                      refine wpAnyH_ready (rs := [12]) (by kernel_rfl) (by simp) ?_
                      refine AllReadyH.cons (o := { dst := some 100, op := Op.call { callee := Callee.builtin Builtin.append, args := #[Operand.tmp 89, Operand.tmp 99], argTypes := #[23, 23] }, type := 23, pos := "law.go:155", after := #[{ on := 1, ground := Ground.data }, { on := 11, ground := Ground.data }, { on := 9, ground := Ground.chain }], guard := none }) rfl (fun K hK => ?_) ?_
                      · skip
                        refine step_append_lies _ (by rfl) _ _ _ (by rfl) (WU.heap.size + 1) 52 j0 _ 5 80 Tryz.underlying23 hj0 hy0 hy1 hy2 rfl (by omega) vf _ us (by rfl) (by exact (hown2.alloc _)) ⟨w2.heap.size, 0, none⟩ 1 1 [.string name, .slice A5 n5 c5, .int .i64 y2.kind, .int .i64 y2.num, .slice Az nz cz] (by rfl) (by rfl) (by exact World.news_of_block (cs := #[.string name, .slice A5 n5 c5, .int .i64 y2.kind, .int .i64 y2.num, .slice Az nz cz]) (t := 52) (fr := (0, 0)) (heap_alloc_new w2 _)) (by simp [Value.oneCell']) (by omega) (by rw [HL.out]; simp only [maxLen]; omega) (by rw [HL.out]; omega) (by simp; omega) (w2.heap.size + 1) (by simp) ?_
                        intro gg cap w3 hown3 hgrow hat3 hlt3
                        have hblk3 : Blk w3 WU.heap.size 25 #[.slice A0 n0 c0, vf] := (hgrow.block _ (by simp; omega) (fun e => by have := (hr.own.lt _ e.symm).1; omega)).trans (hblk2.alloc _)
                        have hxb3 : Blk w3 wr.heap.size 52 #[.string name, .slice A5 n5 c5, .int .i64 body.kind, .int .i64 body.num, .slice A6 n6 c6] := (hgrow.block _ (by simp; omega) (fun e => by have := (hr.own.lt _ e.symm).2; omega)).trans (hxb2.alloc _)
                        have g2 := hblk3.cell 1
                        have g3 := hblk3.frozen 1
                        simp at g2
                        refine hK.out _ _ (Blk.five hxb3) (fun hHeld => ?_)
                        clear hK K
                        try simp only [Act.put, List.setIfInBounds_toArray, List.set_cons_zero, List.set_cons_succ]
                        refine wpAnyH_take (i := 13) (oi := { dst := some 101, op := Op.fieldAddr 25 (Operand.tmp 10) 1, type := 0, pos := "law.go:155", after := #[{ on := 0, ground := Ground.phase }, { on := 1, ground := Ground.phase }, { on := 2, ground := Ground.phase }, { on := 3, ground := Ground.phase }, { on := 4, ground := Ground.phase }, { on := 5, ground := Ground.phase }, { on := 6, ground := Ground.phase }, { on := 7, ground := Ground.phase }, { on := 8, ground := Ground.phase }, { on := 9, ground := Ground.phase }, { on := 10, ground := Ground.phase }, { on := 11, ground := Ground.phase }, { on := 12, ground := Ground.phase }], guard := none }) (v := ?_) rfl (by kernel_rfl) (by kernel_rfl) (by kernel_rfl) (fun _ _ _ h => h) (Or.inl ⟨by rfl, ?_⟩) (by assumption) ?_
                        rotate_left 1
                        · intro w hSw
                          (try dsimp only at hSw)
                          go_simp <;> with_reducible rfl
                        try simp only [Act.put, List.setIfInBounds_toArray, List.set_cons_zero, List.set_cons_succ]
                        refine wpAnyH_ready (rs := [14]) (by kernel_rfl) (by simp) ?_
                        refine AllReadyH.cons (o := { dst := none, op := Op.store 23 (Operand.tmp 101) (Operand.tmp 100), type := 0, pos := "law.go:155", after := #[{ on := 13, ground := Ground.data }, { on := 12, ground := Ground.data }, { on := 12, ground := Ground.chain }, { on := 0, ground := Ground.phase }, { on := 1, ground := Ground.phase }, { on := 2, ground := Ground.phase }, { on := 3, ground := Ground.phase }, { on := 4, ground := Ground.phase }, { on := 5, ground := Ground.phase }, { on := 6, ground := Ground.phase }, { on := 7, ground := Ground.phase }, { on := 8, ground := Ground.phase }, { on := 9, ground := Ground.phase }, { on := 10, ground := Ground.phase }, { on := 11, ground := Ground.phase }, { on := 12, ground := Ground.phase }], guard := none }) rfl (fun K hK => ?_) ?_
                        · skip
                          go_simp
                          refine hK.out _ _ (Blk.five (hxb3.far (by simp; omega) _)) (fun hHeld => ?_)
                          clear hK K
                          try simp only [Act.put, List.setIfInBounds_toArray, List.set_cons_zero, List.set_cons_succ]
                          refine wpAnyH_done (by kernel_rfl) ?_ _
                          go_wp2_with fail
                          go_roundw
                          case rel =>
                            have hnx := hr.next (x := ⟨name, sort, y2⟩) hsx (HSU.out _ hbb2) hbb2 hwz2 (by simpa [World.drew] using hm2) hown3 hgrow hat3 hlt3
                            rw [← HS.out] at hnx
                            exact ⟨k + 1, _, _, by omega, by go_num, hnx⟩
                          case measure => simp [Go.RowKit.intOf]; omega
                        exact AllReadyH.nil
                      exact AllReadyH.nil
                    exact AllReadyH.nil
                  refine AllReadyH.cons (o := { dst := some 99, op := Op.buildSlice 23 1 #[(0, Operand.tmp 98)], type := 23, pos := "law.go:155", after := #[{ on := 10, ground := Ground.data }], guard := none }) rfl (fun K hK => ?_) ?_
                  · skip
                    go_simp
                    refine hK.out _ _ (Blk.five (hxb2.alloc _)) (fun hHeld => ?_)
                    clear hK K
                    try simp only [Act.put, List.setIfInBounds_toArray, List.set_cons_zero, List.set_cons_succ]
                    refine wpAnyH_ready (rs := [1]) (by kernel_rfl) (by simp) ?_
                    refine AllReadyH.cons (o := { dst := some 89, op := Op.load 23 (Operand.tmp 88), type := 23, pos := "law.go:155", after := #[{ on := 0, ground := Ground.data }], guard := none }) rfl (fun K hK => ?_) ?_
                    · skip
                      go_simp
                      refine hK.out _ _ (Blk.five (hxb2.alloc _)) (fun hHeld => ?_)
                      clear hK K
                      try simp only [Act.put, List.setIfInBounds_toArray, List.set_cons_zero, List.set_cons_succ]
                      refine wpAnyH_ready (rs := [12]) (by kernel_rfl) (by simp) ?_
                      refine AllReadyH.cons (o := { dst := some 100, op := Op.call { callee := Callee.builtin Builtin.append, args := #[Operand.tmp 89, Operand.tmp 99], argTypes := #[23, 23] }, type := 23, pos := "law.go:155", after := #[{ on := 1, ground := Ground.data }, { on := 11, ground := Ground.data }, { on := 9, ground := Ground.chain }], guard := none }) rfl (fun K hK => ?_) ?_
                      · skip
                        refine step_append_lies _ (by rfl) _ _ _ (by rfl) (WU.heap.size + 1) 52 j0 _ 5 80 Tryz.underlying23 hj0 hy0 hy1 hy2 rfl (by omega) vf _ us (by rfl) (by exact (hown2.alloc _)) ⟨w2.heap.size, 0, none⟩ 1 1 [.string name, .slice A5 n5 c5, .int .i64 y2.kind, .int .i64 y2.num, .slice Az nz cz] (by rfl) (by rfl) (by exact World.news_of_block (cs := #[.string name, .slice A5 n5 c5, .int .i64 y2.kind, .int .i64 y2.num, .slice Az nz cz]) (t := 52) (fr := (0, 0)) (heap_alloc_new w2 _)) (by simp [Value.oneCell']) (by omega) (by rw [HL.out]; simp only [maxLen]; omega) (by rw [HL.out]; omega) (by simp; omega) (w2.heap.size + 1) (by simp) ?_
                        intro gg cap w3 hown3 hgrow hat3 hlt3
                        have hblk3 : Blk w3 WU.heap.size 25 #[.slice A0 n0 c0, vf] := (hgrow.block _ (by simp; omega) (fun e => by have := (hr.own.lt _ e.symm).1; omega)).trans (hblk2.alloc _)
                        have hxb3 : Blk w3 wr.heap.size 52 #[.string name, .slice A5 n5 c5, .int .i64 body.kind, .int .i64 body.num, .slice A6 n6 c6] := (hgrow.block _ (by simp; omega) (fun e => by have := (hr.own.lt _ e.symm).2; omega)).trans (hxb2.alloc _)
                        have g2 := hblk3.cell 1
                        have g3 := hblk3.frozen 1
                        simp at g2
                        refine hK.out _ _ (Blk.five hxb3) (fun hHeld => ?_)
                        clear hK K
                        try simp only [Act.put, List.setIfInBounds_toArray, List.set_cons_zero, List.set_cons_succ]
                        refine wpAnyH_take (i := 13) (oi := { dst := some 101, op := Op.fieldAddr 25 (Operand.tmp 10) 1, type := 0, pos := "law.go:155", after := #[{ on := 0, ground := Ground.phase }, { on := 1, ground := Ground.phase }, { on := 2, ground := Ground.phase }, { on := 3, ground := Ground.phase }, { on := 4, ground := Ground.phase }, { on := 5, ground := Ground.phase }, { on := 6, ground := Ground.phase }, { on := 7, ground := Ground.phase }, { on := 8, ground := Ground.phase }, { on := 9, ground := Ground.phase }, { on := 10, ground := Ground.phase }, { on := 11, ground := Ground.phase }, { on := 12, ground := Ground.phase }], guard := none }) (v := ?_) rfl (by kernel_rfl) (by kernel_rfl) (by kernel_rfl) (fun _ _ _ h => h) (Or.inl ⟨by rfl, ?_⟩) (by assumption) ?_
                        rotate_left 1
                        · intro w hSw
                          (try dsimp only at hSw)
                          go_simp <;> with_reducible rfl
                        try simp only [Act.put, List.setIfInBounds_toArray, List.set_cons_zero, List.set_cons_succ]
                        refine wpAnyH_ready (rs := [14]) (by kernel_rfl) (by simp) ?_
                        refine AllReadyH.cons (o := { dst := none, op := Op.store 23 (Operand.tmp 101) (Operand.tmp 100), type := 0, pos := "law.go:155", after := #[{ on := 13, ground := Ground.data }, { on := 12, ground := Ground.data }, { on := 12, ground := Ground.chain }, { on := 0, ground := Ground.phase }, { on := 1, ground := Ground.phase }, { on := 2, ground := Ground.phase }, { on := 3, ground := Ground.phase }, { on := 4, ground := Ground.phase }, { on := 5, ground := Ground.phase }, { on := 6, ground := Ground.phase }, { on := 7, ground := Ground.phase }, { on := 8, ground := Ground.phase }, { on := 9, ground := Ground.phase }, { on := 10, ground := Ground.phase }, { on := 11, ground := Ground.phase }, { on := 12, ground := Ground.phase }], guard := none }) rfl (fun K hK => ?_) ?_
                        · skip
                          go_simp
                          refine hK.out _ _ (Blk.five (hxb3.far (by simp; omega) _)) (fun hHeld => ?_)
                          clear hK K
                          try simp only [Act.put, List.setIfInBounds_toArray, List.set_cons_zero, List.set_cons_succ]
                          refine wpAnyH_done (by kernel_rfl) ?_ _
                          go_wp2_with fail
                          go_roundw
                          case rel =>
                            have hnx := hr.next (x := ⟨name, sort, y2⟩) hsx (HSU.out _ hbb2) hbb2 hwz2 (by simpa [World.drew] using hm2) hown3 hgrow hat3 hlt3
                            rw [← HS.out] at hnx
                            exact ⟨k + 1, _, _, by omega, by go_num, hnx⟩
                          case measure => simp [Go.RowKit.intOf]; omega
                        exact AllReadyH.nil
                      exact AllReadyH.nil
                    exact AllReadyH.nil
                  exact AllReadyH.nil
                exact AllReadyH.nil
              · have hke : k = s.reachL.length := by omega
                subst hke
                have hus : ScIn wr wr.heap.size (s.less (atZ zl)) (.slice A0 n0 c0) vf := by
                  have h1 := hr.scheme
                  rw [List.take_length] at h1
                  exact h1
                have hub := hr.out
                obtain ⟨A7, n7, c7, rfl⟩ := hr.f1
                have hokU := HKP.out.ok
                have hordU := HKP.out.order
                have hallU := HKP.out.all
                have hbv : Below w1.heap.size w1 WU := hbel
                have O1 : Hid (s.orders.1 = (ordF s.funs : Int) ∧ s.orders.2 = 0) := Lib.hid (by simp [Sc.orders, HOK.out])
                have O2 : Hid ((s.less (atZ zl)).orders.1 = (ordF (s.less (atZ zl)).funs : Int) ∧ (s.less (atZ zl)).orders.2 = 0) := Lib.hid (by simp [Sc.orders, hokU])
                have O3 : Hid ((s.less (atZ zl)).reaches.length = s.reachL.length) := Lib.hid (by simp [Sc.reaches, hokU, hallU])
                have HOU := Lib.hid hokU
                have HORD := Lib.hid hordU
                generalize s.less (atZ zl) = su at *
                have HR1 := Lib.hid (schemeOrder_any s _ _ wr hi k5.k.i k5.lt.1)
                rw [O1.out.1, O1.out.2] at HR1
                have HUS := Lib.hid hus
                have HUB := Lib.hid hub
                have K5 := Lib.hid k5
                clear hr hus hub hokU hordU hallU k5
                go_wp2_with fail
                refine HR1.out.mono ?_
                rintro e w6 ⟨rfl, b6⟩
                have hub6 := HUB.out.below b6 HUB.out.lt
                have hz6 := b6.size
                have t0 := hub6.cell 0
                have t1 := hub6.cell 1
                simp at t0 t1
                have HR2 := Lib.hid (schemeOrder_any su _ _ w6 wr.heap.size (HUS.out.below b6 (Nat.le_refl _)) hz6)
                rw [O2.out.1, O2.out.2] at HR2
                clear HR1
                go_wp2_with fail
                refine HR2.out.mono ?_
                rintro e w7 ⟨rfl, b7⟩
                have b67 := b6.trans (b7.mono hz6)
                have hub7 := HUB.out.below b67 HUB.out.lt
                have hz7 := b67.size
                have x0 := hub7.cell 0
                have x1 := hub7.cell 1
                simp at x0 x1
                have HR3 := Lib.hid (schemeReach_any su _ _ w7 wr.heap.size (HUS.out.below b67 (Nat.le_refl _)) hz7)
                rw [HOU.out] at HR3
                simp only [schErr, if_true] at HR3
                clear HR2 t0 t1 hub6 b6 b7 hz6
                go_wp2_with fail
                refine HR3.out.mono ?_
                rintro e w8 ⟨vr, rfl, hzr8, b8⟩
                obtain ⟨A8, c8, rfl, _, _⟩ := hzr8.form
                have b68 := b67.trans (b8.mono hz7)
                have hub8 := HUB.out.below b68 HUB.out.lt
                have hz8 := b68.size
                have y0 := hub8.cell 0
                have y1 := hub8.cell 1
                simp at y0 y1
                have HR4 := Lib.hid (schemeCheck_any su _ _ w8 wr.heap.size (HUS.out.below b68 (Nat.le_refl _)) hz8)
                rw [HOU.out] at HR4
                simp only [schErr, if_true] at HR4
                have m1 : decide ((ordF su.funs : Int) ≤ (ordF s.funs : Int)) = true := decide_eq_true (by have := HORD.out; omega)
                have m2 : ((su.reaches.length : Int) == (s.reachL.length : Int)) = true := by rw [O3.out]; simp
                have HB68 := Lib.hid b68
                clear HR3 x0 x1 hub7 b67 b8 hz7 hzr8 b68
                go_wp2_with fail
                refine HR4.out.mono ?_
                rintro e w9 ⟨rfl, b9⟩
                have k9 := K5.out.next (HB68.out.trans (b9.mono hz8))
                have HA := Lib.hid (aliveS_any w9 k9.g k9.lt.2)
                clear HR4 b9
                go_wp2_with fail
                refine HA.out.mono ?_
                rintro e w10 ⟨rfl, b10⟩
                have k10 := k9.next b10
                go_wp2_with fail
                go_ret
                exact ⟨rfl, k10.k.bel⟩
end Go.Proofs.YthgkgjbjiiedaaaGreatDoor
