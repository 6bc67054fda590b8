/-
  The reference's Subst: its contract.
-/
import Derived.Test.YtmggccgjhjknpaaTReplace
import Derived.Test.YtmggccgjhjknpaaTApply
namespace Go.Proofs.Ytmggccgjhjknpaa
open Go.RowKit

theorem refSubst_results {tmps : Array Value} {w : World} {a : Nat} {x y z u : Value} (h2 : tmps.getD 4 undef = .pointer (some ⟨a, 0, none⟩)) (h3 : tmps.getD 5 undef = u)
    (ha : Blk w a 35 #[x, y, z]) : (results Try.f30 tmps).run Try.prog w = .ok (.tuple #[.agg #[x, y, z], u]) w := by
  have h4 := ha.cell 0
  have h5 := ha.cell 1
  have h6 := ha.cell 2
  simp at h4 h5 h6
  have h2' : tmps[4]?.getD undef = .pointer (some ⟨a, 0, none⟩) := by simpa using h2
  have h3' : tmps[5]?.getD undef = u := by simpa using h3
  simp [results, Try.results30, go_sem, h2', h3', h4, h5, h6]

theorem T.substT_bad {gs : List T} {t : T} {E : Int} (h : T.substE gs t = E) (hE : E ≠ 0) : T.substT gs t = .mk 0 0 [] := by simp [T.substT, h, hE]
theorem T.substE_large {gs : List T} {t : T} (h : t.large = true) : T.substE gs t = 3 := by simp [T.substE, h]
theorem T.substE_any {gs : List T} {t : T} (h : gs.any T.large = true) : T.substE gs t = 3 := by unfold T.substE; rw [h]; simp
theorem T.substE_cov {gs : List T} {t : T} (h0 : gs.any T.large = false) (h1 : t.large = false) (h2 : t.cov gs.length = false) : T.substE gs t = 2 := by simp [T.substE, h0, h1, h2]
theorem T.substE_fit {gs : List T} {t : T} (h0 : gs.any T.large = false) (h1 : t.large = false) (h2 : t.cov gs.length = true) (h3 : ¬ (t.sub gs).count ≤ 100000) : T.substE gs t = 3 := by simp [T.substE, h0, h1, h2, h3]
theorem T.substE_ok {gs : List T} {t : T} (h0 : gs.any T.large = false) (h1 : t.large = false) (h2 : t.cov gs.length = true) (h3 : (t.sub gs).count ≤ 100000) : T.substE gs t = 0 := by simp [T.substE, h0, h1, h2, h3]

theorem own_cell {w : World} {base : Nat} {e : TypeId} {size : Nat} {n cap g : Nat} {xs : List Value} (h : w.ownsRow base e size (.slice (some ⟨g, 0, none⟩) n cap) n xs) {j : Nat} {x : Value} (hj : xs[j]? = some x) : w.cell? ⟨g, j, none⟩ = some x := by
  have hc := World.ownsRow.cells h (g := g) rfl j x hj
  have he : (⟨g, 0, none⟩ : Addr).add j = ⟨g, j, none⟩ := by
    unfold Addr.add
    split
    · rename_i h0; rw [h0]
    · simp
  rwa [he] at hc
/-- What the loop over the args holds. -/
def Szs (t : T) (gs : List T) (v u : Value) (w0 : World) (z i : Value) (w : World) : Prop :=
  ∃ k : Nat, k ≤ gs.length ∧ i = .int .i64 k ∧ Hid ((gs.take k).any T.large = false) ∧ Ints (w0.heap.size + 2) w ((gs.take k).map T.count) z ∧ AppCtx t gs v u w0.heap.size w0 w
/-- What the loop over the variables holds. -/
def Vrl (t : T) (gs : List T) (v u : Value) (z : Value) (l : List Int) (lv : Value) (w0 : World) (i : Value) (w : World) : Prop :=
  ∃ k : Nat, k ≤ l.length ∧ i = .int .i64 k ∧ Hid (∀ x ∈ l.take k, 0 ≤ x ∧ x < (gs.length : Int)) ∧ Ints (w0.heap.size + 2) w (gs.map T.count) z ∧ AppCtx t gs v u w0.heap.size w0 w ∧ Zs 0 w l lv

set_option maxRecDepth 100000 in
set_option maxHeartbeats 3200000 in
theorem refSubst_any (t : T) (v u : Value) (gs : List T) (w : World) (P Q : Nat → Prop) (hin : t.In w P v) (hold : Old P w) (hins : T.InL w Q gs u) (holds : Old Q w) (hm : gs.length ≤ 3600000000000) :
    Calls Try.prog 30 #[.agg #[.int .i64 t.kind, .int .i64 t.num, v], u] w (Gave (T.substT gs t) (T.substE gs t) w) := by
  obtain ⟨i0, hi0, hz0, hz1, hz2⟩ := info_parts int_info
  have HZ1 := Lib.hid hz1
  have HZ2 := Lib.hid hz2
  clear hz1 hz2
  have k0 := AppCtx.start hin hold hins holds
  obtain ⟨A, n, c, rfl⟩ := hin.form
  obtain ⟨A1, n1, c1, rfl⟩ := T.In.form hins
  have hn1 := T.InL.len hins
  subst hn1
  have hin2 : t.In ((w.alloc (.cells #[.int .i64 t.kind, .int .i64 t.num, .slice A n c] 35)).alloc (.cells #[.int .i64 0, .int .i64 0, .slice none 0 0] 35)) P (.slice A n c) := hin.old hold k0.bel
  have HL := Lib.hid (large_any t _ _ P hin2 (hold.bel k0.bel))
  clear hin2 hin hins
  have hiT : ∀ (wr : World), AppCtx t gs (.slice A n c) (.slice A1 gs.length c1) w.heap.size w wr → t.In wr (fun b => b < w.heap.size) (.slice A n c) ∧ Old (fun b => b < w.heap.size) wr := fun wr k => by
    have := T.InL.to (k := t.kind) (n := t.num) k.iT
    rw [T.eta] at this
    exact ⟨this, fun b hb => by have := k.hz; omega⟩
  have HIT := Lib.hid hiT
  clear hiT
  cases hlg : t.large with
  | true =>
    have HE := Lib.hid (T.substE_large (gs := gs) hlg)
    have HT := Lib.hid (T.substT_bad HE.out (by omega))
    rw [hlg] at HL
    clear hlg
    go_enter Try.func30, Try.ntmps30
    go_wp2_with fail
    refine HL.out.mono ?_
    rintro e w1 ⟨rfl, hb1⟩
    have k1 := k0.nx hb1
    clear k0 hb1
    have q0 := k1.bC.cell 0
    have q1 := k1.bC.cell 1
    have q2 := k1.bC.cell 2
    have q3 := k1.bC.frozen 0
    have q4 := k1.bC.frozen 1
    have q5 := k1.bC.frozen 2
    simp at q0 q1 q2
    go_wp2_with fail
    rw [HT.out, HE.out]
    refine bodyPost_ret (refSubst_results rfl rfl ((((k1.bC.set_ 0 _).set_ 1 _).set_ 2 _).eq_ rfl)) rfl ⟨_, [], rfl, Mk.nil _ _, ((k1.bel.setCell (by simp) _).setCell (by simp) _).setCell (by simp) _⟩
  | false =>
    have HLG := Lib.hid hlg
    have htc : t.count ≤ 100000 := not_large hlg
    rw [hlg] at HL
    clear hlg
    go_enter Try.func30, Try.ntmps30
    go_wp2_with fail
    refine HL.out.mono ?_
    rintro e w1 ⟨rfl, hb1⟩
    have k1 := k0.nx hb1
    clear k0 hb1 HL
    go_wp2_with fail
    go_loopw [6, 16] (fun z i wr => Szs t gs (.slice A n c) (.slice A1 gs.length c1) w z i wr) (fun _ i _ => gs.length - (intOf i).toNat)
    case atStart => exact ⟨0, Nat.zero_le _, rfl, Lib.hid (by simp), ⟨by simp, .inl ⟨rfl, rfl⟩⟩, k1⟩
    case round =>
      obtain ⟨k, hk, rfl, hall, hzi, kr⟩ := hrel
      clear k1
      have hzr := kr.hz
      obtain ⟨A2, c2, hv⟩ := hzi.form
      have hkl : ((gs.take k).map T.count).length = k := by rw [List.length_map, List.length_take]; omega
      rw [hkl] at hv
      subst hv
      have HKL := Lib.hid hkl
      have hvb : ∀ b, (Value.slice A2 k c2).ownBlock = some b → w.heap.size + 2 ≤ b := fun b hb => (hzi.lt hb).1
      by_cases hlt : k < gs.length
      · have hx : gs[k]? = some gs[k] := List.getElem?_eq_getElem hlt
        have hS := kr.iS
        unfold T.InL at hS
        simp only [T.In] at hS
        obtain ⟨_, _, _, us, he, _, hnc, hc, hrd, hrow⟩ := hS
        injection he with e1 e2 e3
        subst e1 e2 e3
        obtain ⟨ad, ux, rfl, hPa, hel, hinx⟩ := T.In.el hrd hrow hx
        obtain ⟨r0, r1, r2⟩ := hel
        obtain ⟨A', n', c', rfl⟩ := hinx.form
        have hxb : Below wr.heap.size wr (wr.alloc (.cells #[.int .i64 gs[k].kind, .int .i64 gs[k].num, .slice A' n' c'] 35)) := (Below.refl _ _).alloc (Nat.le_refl _) _
        have HN := Lib.hid (nodesT_any _ gs[k] _ 100000 _ _ (Nat.le_refl _) (by omega) (by omega) (hinx.below hxb (fun b hb => by omega)) (fun b hb => by simp; omega))
        have hts : (gs.take (k + 1)).any T.large = ((gs.take k).any T.large || gs[k].large) := any_take_succ hx
        have HMAP : Hid ((gs.take (k + 1)).map T.count = (gs.take k).map T.count ++ [gs[k].count]) := Lib.hid (by rw [List.take_add_one, hx, List.map_append]; rfl)
        have hown : wr.ownsRow (w.heap.size + 2) 3 1 (.slice A2 k c2) k (((gs.take k).map T.count).map fun n : Nat => Value.int .i64 (n : Int)) := by have := hzi; unfold Ints at this; rw [HKL.out] at this; exact this
        have hsm : gs[k].large = decide (100000 < min (gs[k].count : Int) (100000 + 1)) := decide_eq_decide.2 (by omega)
        have hmc : min (gs[k].count : Int) (100000 + 1) ≤ 100000 → min (gs[k].count : Int) (100000 + 1) = (gs[k].count : Int) := by omega
        have hM0 : 1 ≤ min (gs[k].count : Int) (100000 + 1) := by have := gs[k].count_pos; omega
        have HHIT : Hid (gs[k].large = true → gs.any T.large = true) := Lib.hid (fun h => any_of_take (k := k + 1) (by rw [hts, h]; simp))
        have hM1 : min (gs[k].count : Int) (100000 + 1) ≤ 100001 := by omega
        generalize min (gs[k].count : Int) (100000 + 1) = M at *
        have HTS := Lib.hid hts
        have HMC := Lib.hid hmc
        have HSM := Lib.hid hsm
        have HNEW : Hid (∀ W : World, (W.alloc (.cells #[.int .i64 M] 3)).heap[W.heap.size]? = some (.cells #[.int .i64 M] 3 (0, 0))) := Lib.hid (fun W => heap_alloc_new W _)
        generalize gs[k].large = lg at *
        generalize gs[k].count = cnt at *
        generalize gs[k] = x at *
        clear hx hrow hrd hts hmc hsm hzi hkl hinx
        by_cases hMl : 100000 < M
        · have HE : Hid (T.substE gs t = 3) := Lib.hid (T.substE_any (HHIT.out (by rw [HSM.out]; simpa using hMl)))
          have HT := Lib.hid (T.substT_bad HE.out (by omega))
          go_wp2_with fail
          refine HN.out.mono ?_
          rintro e w2 ⟨rfl, hb2⟩
          have hb2' := hxb.trans (hb2.mono (by simp))
          have hzw2 := hb2'.size
          have hown2 : w2.ownsRow (w.heap.size + 2) 3 1 (.slice A2 k c2) k (((gs.take k).map T.count).map fun n : Nat => Value.int .i64 (n : Int)) := owns_kept3 hown (fun b hb => hb2'.block b (World.ownsRow.lt hown b hb).2)
          have k2 := kr.nx hb2'
          clear hown hb2 r0 r1 r2
          generalize hvs : ((gs.take k).map T.count).map (fun n : Nat => Value.int .i64 (n : Int)) = vs at *
          have HVS := Lib.hid hvs
          clear hvs
          go_wp2_with
            (at_builtin
             refine wpList_append_lies _ rfl (.tmp 20) (.tmp 23) _ rfl (w.heap.size + 2) 3 i0 _ 1 8 Try.underlying47 hi0 hz0 HZ1.out HZ2.out rfl (by omega) (.slice A2 k c2) k vs (by rfl) (hown2.alloc _)
               ⟨w2.heap.size, 0, none⟩ 1 1 [.int .i64 M] (by rfl) (by rfl) (World.news_of_block (HNEW.out w2)) (by simp [Value.oneCell']) (by omega) (by simp only [maxLen]; omega) (by omega) (by simp; omega) (w2.heap.size + 1) (by simp) ?_
             intro gg cap2 w3 hown3 hgrow hat3 hlt3
             have hb3 : Below (w.heap.size + 2) w2 w3 := ((Below.refl _ _).alloc (by omega) _).grown hgrow (by simp; omega) hvb
             have k3 := k2.next hb3
             have hlen3 := hown3.1
             have y3 := own_cell hown3 (j := k) (x := .int .i64 M) (by rw [List.getElem?_append_right (by simp at hlen3; omega)]; simp at hlen3; simp [hlen3])
             have q0 := k3.bC.cell 0
             have q1 := k3.bC.cell 1
             have q2 := k3.bC.cell 2
             have q3 := k3.bC.frozen 0
             have q4 := k3.bC.frozen 1
             have q5 := k3.bC.frozen 2
             simp at q0 q1 q2)
          rw [HT.out, HE.out]
          refine bodyPost_ret (refSubst_results rfl rfl ((((k3.bC.set_ 0 _).set_ 1 _).set_ 2 _).eq_ rfl)) rfl ⟨_, [], rfl, Mk.nil _ _, ((k3.bel.setCell (by simp) _).setCell (by simp) _).setCell (by simp) _⟩
        · have HLGX : Hid (lg = false) := Lib.hid (by rw [HSM.out]; simpa using hMl)
          have HMC2 := Lib.hid (HMC.out (by omega))
          go_wp2_with fail
          refine HN.out.mono ?_
          rintro e w2 ⟨rfl, hb2⟩
          have hb2' := hxb.trans (hb2.mono (by simp))
          have hzw2 := hb2'.size
          have hown2 : w2.ownsRow (w.heap.size + 2) 3 1 (.slice A2 k c2) k (((gs.take k).map T.count).map fun n : Nat => Value.int .i64 (n : Int)) := owns_kept3 hown (fun b hb => hb2'.block b (World.ownsRow.lt hown b hb).2)
          have k2 := kr.nx hb2'
          clear hown hb2 r0 r1 r2
          generalize hvs : ((gs.take k).map T.count).map (fun n : Nat => Value.int .i64 (n : Int)) = vs at *
          have HVS := Lib.hid hvs
          clear hvs
          go_wp2_with
            (at_builtin
             refine wpList_append_lies _ rfl (.tmp 20) (.tmp 23) _ rfl (w.heap.size + 2) 3 i0 _ 1 8 Try.underlying47 hi0 hz0 HZ1.out HZ2.out rfl (by omega) (.slice A2 k c2) k vs (by rfl) (hown2.alloc _)
               ⟨w2.heap.size, 0, none⟩ 1 1 [.int .i64 M] (by rfl) (by rfl) (World.news_of_block (HNEW.out w2)) (by simp [Value.oneCell']) (by omega) (by simp only [maxLen]; omega) (by omega) (by simp; omega) (w2.heap.size + 1) (by simp) ?_
             intro gg cap2 w3 hown3 hgrow hat3 hlt3
             have hb3 : Below (w.heap.size + 2) w2 w3 := ((Below.refl _ _).alloc (by omega) _).grown hgrow (by simp; omega) hvb
             have k3 := k2.next hb3
             have hlen3 := hown3.1
             have y3 := own_cell hown3 (j := k) (x := .int .i64 M) (by rw [List.getElem?_append_right (by simp at hlen3; omega)]; simp at hlen3; simp [hlen3]))
          go_roundw
          case rel =>
            refine ⟨k + 1, by omega, by go_num, Lib.hid (by rw [HTS.out, hall.out, HLGX.out]; rfl), ?_, k3⟩
            show World.ownsRow _ _ _ _ _ _ _
            rw [HMAP.out, List.length_append, HKL.out, List.map_append, HVS.out]
            simp only [List.map_cons, List.map_nil]
            rw [← HMC2.out]
            exact hown3
          case measure => simp [intOf]; omega
      · have hkk : k = gs.length := by omega
        have hll : gs.take k = gs := List.take_of_length_le (by omega)
        rw [hll] at hall hzi
        have hlz : (gs.map T.count).length = k := by rw [List.length_map]; omega
        subst hkk
        obtain ⟨hiT, hoT⟩ := HIT.out wr kr
        have HV := Lib.hid (variables_any _ t (.slice A n c) wr _ [] (.slice none 0 0) 0 (Nat.le_refl _) (by simp; omega) hiT hoT (Zs.nil _ _) (Nat.zero_le _))
        obtain ⟨a0, a1, a2⟩ : wr.cell? ⟨w.heap.size, 0, none⟩ = some (.int .i64 t.kind) ∧ wr.cell? ⟨w.heap.size, 1, none⟩ = some (.int .i64 t.num) ∧ wr.cell? ⟨w.heap.size, 2, none⟩ = some (.slice A n c) := by
          have a0 := kr.bA.cell 0
          have a1 := kr.bA.cell 1
          have a2 := kr.bA.cell 2
          simp at a0 a1 a2
          exact ⟨a0, a1, a2⟩
        clear hll hiT hoT hkl hvb hlz HKL
        go_wp2_with fail
        obtain ⟨wo, rfl⟩ : ∃ wo : World, wo = wr := ⟨_, rfl⟩
        refine HV.out.mono ?_
        rintro e w4 ⟨lv, rfl, hzs4, hb4⟩
        have k4 := kr.nx hb4
        have hzi4 := hzi.below hb4
        have hcv := T.cov_vars (m := gs.length) t
        generalize t.vars [] = vl at *
        obtain ⟨A4, c4, rfl, hlc4, _⟩ := hzs4.form
        have HCV := Lib.hid hcv
        clear a0 a1 a2 kr hzi hb4 HV hcv
        go_wp2_with fail
        go_loopw [37] (fun i wr => Vrl t gs (.slice A n c) (.slice A1 gs.length c1) (.slice A2 gs.length c2) vl (.slice A4 vl.length c4) w i wr) (fun i _ => vl.length - (intOf i).toNat)
        case atStart => exact ⟨0, Nat.zero_le _, rfl, Lib.hid (by simp), hzi4, k4, hzs4⟩
        case round =>
          obtain ⟨j, hj, rfl, hal, hzi5, k5, hzs5⟩ := hrel
          clear k4 hzi4 hzs4
          by_cases hlt2 : j < vl.length
          · have hx : vl[j]? = some vl[j] := List.getElem?_eq_getElem hlt2
            obtain ⟨g, rfl, hg, r0⟩ := hzs5.cell hx
            have hvt : vl.take (j + 1) = vl.take j ++ [vl[j]] := by rw [List.take_add_one, hx]; rfl
            have hmem : vl[j] ∈ vl := List.getElem_mem hlt2
            by_cases hin : 0 ≤ vl[j] ∧ vl[j] < (gs.length : Int)
            · have HAL : Hid (∀ x ∈ vl.take (j + 1), 0 ≤ x ∧ x < (gs.length : Int)) := Lib.hid (by
                rw [hvt]
                intro x hx
                rcases List.mem_append.1 hx with hx | hx
                · exact hal.out x hx
                · rw [List.mem_singleton] at hx; rw [hx]; exact hin)
              obtain ⟨hin1, hin2⟩ := hin
              generalize vl[j] = x at *
              clear hx hvt hmem
              go_wp2_with fail
              go_roundw
              case rel => exact ⟨j + 1, by omega, by go_num, HAL, hzi5, k5, hzs5⟩
              case measure => simp [intOf]; omega
            · have HE : Hid (T.substE gs t = 2) := Lib.hid (T.substE_cov hall.out HLG.out (by
                rw [HCV.out, List.all_eq_false]
                exact ⟨vl[j], hmem, by simpa using hin⟩))
              have HT := Lib.hid (T.substT_bad HE.out (by omega))
              generalize vl[j] = x at *
              clear hx hvt hmem
              by_cases hneg : x < 0
              · clear hin
                have q0 := k5.bC.cell 0
                have q1 := k5.bC.cell 1
                have q2 := k5.bC.cell 2
                have q3 := k5.bC.frozen 0
                have q4 := k5.bC.frozen 1
                have q5 := k5.bC.frozen 2
                simp at q0 q1 q2
                go_wp2_with fail
                rw [HT.out, HE.out]
                refine bodyPost_ret (refSubst_results rfl rfl ((((k5.bC.set_ 0 _).set_ 1 _).set_ 2 _).eq_ rfl)) rfl ⟨_, [], rfl, Mk.nil _ _, ((k5.bel.setCell (by simp) _).setCell (by simp) _).setCell (by simp) _⟩
              · have hge : (gs.length : Int) ≤ x := by omega
                clear hin
                have q0 := k5.bC.cell 0
                have q1 := k5.bC.cell 1
                have q2 := k5.bC.cell 2
                have q3 := k5.bC.frozen 0
                have q4 := k5.bC.frozen 1
                have q5 := k5.bC.frozen 2
                simp at q0 q1 q2
                go_wp2_with fail
                rw [HT.out, HE.out]
                refine bodyPost_ret (refSubst_results rfl rfl ((((k5.bC.set_ 0 _).set_ 1 _).set_ 2 _).eq_ rfl)) rfl ⟨_, [], rfl, Mk.nil _ _, ((k5.bel.setCell (by simp) _).setCell (by simp) _).setCell (by simp) _⟩
          · have hll : vl.take j = vl := List.take_of_length_le (by omega)
            rw [hll] at hal
            have HCT : Hid (t.cov gs.length = true) := Lib.hid (by
              rw [HCV.out, List.all_eq_true]
              intro x hx
              have := hal.out x hx
              simp [this.1, this.2])
            obtain ⟨hiT, hoT⟩ := HIT.out wr k5
            have HG := Lib.hid (grown_any gs (none_large hall.out) _ t (.slice A n c) wr _ (.slice A2 gs.length c2) (w.heap.size + 2) (Nat.le_refl _) HCT.out hiT hoT hzi5)
            obtain ⟨a0, a1, a2⟩ : wr.cell? ⟨w.heap.size, 0, none⟩ = some (.int .i64 t.kind) ∧ wr.cell? ⟨w.heap.size, 1, none⟩ = some (.int .i64 t.num) ∧ wr.cell? ⟨w.heap.size, 2, none⟩ = some (.slice A n c) := by
              have a0 := k5.bA.cell 0
              have a1 := k5.bA.cell 1
              have a2 := k5.bA.cell 2
              simp at a0 a1 a2
              exact ⟨a0, a1, a2⟩
            by_cases hfit : (t.sub gs).count ≤ 100000
            · have HE : Hid (T.substE gs t = 0) := Lib.hid (T.substE_ok hall.out HLG.out HCT.out hfit)
              have HT : Hid (T.substT gs t = t.sub gs) := Lib.hid (by simp [T.substT, HE.out])
              have hmn : min ((t.sub gs).count : Int) 100001 ≤ 100000 := by omega
              have HFIT := Lib.hid hfit
              generalize min ((t.sub gs).count : Int) 100001 = M at *
              clear hll hiT hoT hfit
              go_wp2_with fail
              refine HG.out.mono ?_
              rintro e w6 ⟨rfl, hb6⟩
              have k6 := k5.nx hb6
              obtain ⟨hiT, hoT⟩ := HIT.out w6 k6
              have HR := Lib.hid (replace_any gs _ t (.slice A n c) (.slice A1 gs.length c1) w6 _ _ (Nat.le_refl _) htc HCT.out HFIT.out hiT hoT k6.iS (fun b hb => by have := k6.hz; omega))
              clear a0 a1 a2 hiT hoT
              obtain ⟨a0, a1, a2⟩ : w6.cell? ⟨w.heap.size, 0, none⟩ = some (.int .i64 t.kind) ∧ w6.cell? ⟨w.heap.size, 1, none⟩ = some (.int .i64 t.num) ∧ w6.cell? ⟨w.heap.size, 2, none⟩ = some (.slice A n c) := by
                have a0 := k6.bA.cell 0
                have a1 := k6.bA.cell 1
                have a2 := k6.bA.cell 2
                simp at a0 a1 a2
                exact ⟨a0, a1, a2⟩
              go_wp2_with fail
              refine HR.out.mono ?_
              rintro e w8 ⟨y, us, rfl, hm8, hb8⟩
              have k8 := k6.nx hb8
              have hz6 := k6.hz
              obtain ⟨A8, c8, rfl⟩ := hm8.form
              have q0 := k8.bC.cell 0
              have q1 := k8.bC.cell 1
              have q2 := k8.bC.cell 2
              have q3 := k8.bC.frozen 0
              have q4 := k8.bC.frozen 1
              have q5 := k8.bC.frozen 2
              simp at q0 q1 q2
              go_wp2_with fail
              rw [HT.out, HE.out]
              refine bodyPost_ret (refSubst_results rfl rfl ((((k8.bC.set_ 0 _).set_ 1 _).set_ 2 _).eq_ rfl)) rfl ⟨_, us, rfl, ?_, ((k8.bel.setCell (by simp) _).setCell (by simp) _).setCell (by simp) _⟩
              exact Mk.less (B := w6.heap.size) (((hm8.put (by omega) _).put (by omega) _).put (by omega) _) (by omega)
            · have HE : Hid (T.substE gs t = 3) := Lib.hid (T.substE_fit hall.out HLG.out HCT.out hfit)
              have HT := Lib.hid (T.substT_bad HE.out (by omega))
              have hmn : 100000 < min ((t.sub gs).count : Int) 100001 := by omega
              generalize min ((t.sub gs).count : Int) 100001 = M at *
              clear hll hiT hoT hfit
              go_wp2_with fail
              refine HG.out.mono ?_
              rintro e w6 ⟨rfl, hb6⟩
              have k6 := k5.nx hb6
              clear a0 a1 a2 hb6
              have q0 := k6.bC.cell 0
              have q1 := k6.bC.cell 1
              have q2 := k6.bC.cell 2
              have q3 := k6.bC.frozen 0
              have q4 := k6.bC.frozen 1
              have q5 := k6.bC.frozen 2
              simp at q0 q1 q2
              go_wp2_with fail
              rw [HT.out, HE.out]
              refine bodyPost_ret (refSubst_results rfl rfl ((((k6.bC.set_ 0 _).set_ 1 _).set_ 2 _).eq_ rfl)) rfl ⟨_, [], rfl, Mk.nil _ _, ((k6.bel.setCell (by simp) _).setCell (by simp) _).setCell (by simp) _⟩
end Go.Proofs.Ytmggccgjhjknpaa
