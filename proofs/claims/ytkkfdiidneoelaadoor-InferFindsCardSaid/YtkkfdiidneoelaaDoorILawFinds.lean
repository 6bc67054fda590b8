/-
  InferFinds: of each scheme that can be read and that the reference calls valid, without its sorts, an assignment is found that is at most the scheme's own.
-/
import Derived.Test.YtkkfdiidneoelaaDoorGY
import Derived.Test.YtkkfdiidneoelaaDoorGI
import Derived.Test.YtkkfdiidneoelaaDoorGS
import Derived.Test.YtkkfdiidneoelaaDoorGB
import Derived.Deep.RegionHeld3
namespace Go.Proofs.YtkkfdiidneoelaaDoor
open Go.RowKit

theorem sort_len {w : World} {lo hi : Nat} {s : S} {u : Value} (h : s.In w lo hi u) : ∃ A c, u = .slice A s.args.length c := by
  obtain ⟨l⟩ := s
  exact ex_len h
/-- What the first loop holds behind k rounds. -/
def FndAt (s : Sc) (v0 v1 : Value) (hi B : Nat) (w0 w : World) (v i : Value) (wr : World) : Prop :=
  ∃ (k : Nat) (us : List Value), k ≤ s.funs.length ∧ i = .int .i64 (k : Int) ∧ wr.ownsRow w.heap.size 48 5 v (s.funs.take k).length us ∧ LzRow wr hi ((s.funs.take k).map lzOf) us ∧ Below w.heap.size w wr ∧ ScKept s v0 v1 hi B w0 wr

/-- The second loop: so many sorts have been looked at. -/
def FndIn (n : Nat) (w : World) (i : Value) (wr : World) : Prop := ∃ j : Nat, j ≤ n ∧ i = .int .i64 (j : Int) ∧ Below w.heap.size w wr
set_option maxHeartbeats 3200000 in
set_option maxRecDepth 100000 in
theorem lawFindsI_any (s : Sc) (v0 v1 : Value) (w : World) (hi : Nat) (hin : ScIn w hi s v0 v1) (hhi : hi ≤ w.heap.size) :
    Calls Tryd.prog 5 #[.agg #[v0, v1]] w fun e w' => e = .returned (.bool true) ∧ Below w.heap.size w w' := by
  obtain ⟨i0, hi0, hz0, hz1, hz2⟩ := info_parts lz_info
  have HZ1 := Lib.hid hz1
  have HZ2 := Lib.hid hz2
  clear hz1 hz2
  have HA := Lib.hid aliveI_any
  have K0 := ScKept.start hin hhi
  obtain ⟨⟨A0, n0, c0, rfl⟩, _⟩ := hin.form
  have hfn := hin.fn
  obtain ⟨A1, _, c1, fs, rfl, rfl, hnc, hc, hrd, hrow⟩ := hfn
  have HIs : Hid (∀ W, ScKept s (.slice A0 n0 c0) (.slice A1 s.funs.length c1) hi w.heap.size w W → Calls Tryd.prog 15 #[.agg #[.slice A0 n0 c0, .slice A1 s.funs.length c1]] W fun e w' => e = .returned (.bool s.sayOk) ∧ Below W.heap.size W w') :=
    Lib.hid fun W h => refScIs_any s _ _ W hi h.i (by have := h.hi; have := h.b.lt; omega)
  have k0 := K0.b
  have x0 := k0.cell 0
  have x1 := k0.cell 1
  simp at x0 x1
  have HK := Lib.hid K0
  have HW := Lib.hid (⟨hrd, hrow⟩ : Rd w (fun b => b < hi) A1 fs ∧ FnRow w hi s.funs fs)
  clear K0 k0 hin hrd hrow
  cases hsay : s.sayOk with
  | false =>
    rw [hsay] at HIs
    clear hsay
    go_enter Tryd.func5, Tryd.ntmps5
    go_wp2_with fail
    refine (HIs.out _ HK.out).mono ?_
    rintro e w1 ⟨rfl, hb1⟩
    have B1 := Lib.hid (HK.out.next hb1).bel
    clear hb1
    go_wp2_with fail
    refine (HA.out _).mono ?_
    rintro e w2 ⟨rfl, hb2⟩
    have B2 := Lib.hid (B1.out.trans (hb2.mono B1.out.size))
    clear hb2
    go_wp2_with fail
    go_ret
    exact ⟨rfl, B2.out⟩
  | true =>
    rw [hsay] at HIs
    have HS := Lib.hid hsay
    clear hsay
    go_enter Tryd.func5, Tryd.ntmps5
    go_wp2_with fail
    refine (HIs.out _ HK.out).mono ?_
    rintro e w1 ⟨rfl, hb1⟩
    have k1 := HK.out.next hb1
    have K1 := Lib.hid k1
    have y0 := k1.b.cell 0
    have y1 := k1.b.cell 1
    simp at y0 y1
    clear hb1 k1
    go_wp2_with fail
    go_loopw [3, 18] (fun v i wr => FndAt s (.slice A0 n0 c0) (.slice A1 s.funs.length c1) hi w.heap.size w w1 v i wr) (fun _ i _ => s.funs.length - (intOf i).toNat)
    case atStart => exact ⟨0, [], Nat.zero_le _, rfl, by simpa using World.ownsRow_nil _ _ _ _, by simp [LzRow], Below.refl _ _, K1.out⟩
    case round =>
      obtain ⟨k, us1, hk, rfl, hown, hrw, hbel, hkp⟩ := hrel
      by_cases hlt : k < s.funs.length
      · have hx : s.funs[k]? = some s.funs[k] := List.getElem?_eq_getElem hlt
        obtain ⟨ad, u, v, rfl, hPa, hel, hsr, hbv, hnm⟩ := fn_el HW.out.1 HW.out.2 hx
        obtain ⟨r0, r1, r2, r3, r4⟩ := hel.keep (hkp.bel.block _ (by omega))
        have htk : s.funs.take (k + 1) = s.funs.take k ++ [s.funs[k]] := by rw [List.take_add_one, hx]; rfl
        have hkl : (s.funs.take k).length = k := by simp; omega
        generalize s.funs[k] = x at *
        obtain ⟨Au, cu, rfl⟩ := sort_len hsr
        obtain ⟨A', n', c', rfl⟩ := hbv.form
        have z0 := hkp.b.cell 0
        have z1 := hkp.b.cell 1
        simp at z0 z1
        have hP0 : (lzOf x).params = (x.sort.args.length : Int) := rfl
        have HR : Hid (LzRow wr hi ((s.funs.take k).map lzOf) us1 ∧ (s.funs.take (k + 1)).map lzOf = (s.funs.take k).map lzOf ++ [lzOf x] ∧ x.body.In w (fun b => b < hi) (.slice A' n' c') ∧ x.name.size ≤ maxLen ∧ (s.funs.take (k + 1)).length = (s.funs.take k).length + 1) :=
          Lib.hid ⟨hrw, by rw [htk]; simp, hbv, hnm, by rw [htk]; simp⟩
        have HL := Lib.hid hkl
        have hvl : ∀ b, u3.ownBlock = some b → w1.heap.size ≤ b ∧ b < wr.heap.size := fun b hb => World.ownsRow.lt hown b hb
        have hzr := hbel.size
        have hz64 := (say_fits HS.out).1
        have hB2 := hbel.alloc hzr (.cells #[.string x.name, .slice Au x.sort.args.length cu, .int .i64 x.body.kind, .int .i64 x.body.num, .slice A' n' c'] 46)
        have HO := Lib.hid hown
        have HB2 := Lib.hid hB2
        have HB := Lib.hid hbel
        have HP := Lib.hid hkp
        clear hx hel hbv hnm htk hkl hrw hown hB2 hbel hsr hkp hP0
        go_wp2_with
          (at_builtin
           refine wpList_append_lies _ rfl _ _ _ rfl w1.heap.size 48 i0 _ 5 64 Tryd.underlying27 hi0 hz0 HZ1.out HZ2.out rfl (by omega) u3 _ us1 (by rfl) ((HO.out.alloc _).alloc _)
             ⟨wr.heap.size + 1, 0, none⟩ 1 1 [.string x.name, .int .i64 (x.sort.args.length : Int), .int .i64 x.body.kind, .int .i64 x.body.num, .slice A' n' c'] (by rfl) (by rfl) (World.news_of_block (cs := #[.string x.name, .int .i64 (x.sort.args.length : Int), .int .i64 x.body.kind, .int .i64 x.body.num, .slice A' n' c']) (t := 48) (fr := (0, 0)) (by have := heap_alloc_new (wr.alloc (.cells #[.string x.name, .slice Au x.sort.args.length cu, .int .i64 x.body.kind, .int .i64 x.body.num, .slice A' n' c'] 46)) (.cells #[.string x.name, .int .i64 (x.sort.args.length : Int), .int .i64 x.body.kind, .int .i64 x.body.num, .slice A' n' c'] 48); simpa using this)) (by simp [Value.oneCell']) (by omega) (by rw [HL.out]; simp only [maxLen]; omega) (by rw [HL.out]; omega) (by simp; omega) (wr.heap.size + 1 + 1) (by simp) ?_
           intro gg cap2 w3 hown3 hgrow hat3 hlt3)
        have HF : Hid (FndAt s (.slice A0 n0 c0) (.slice (some ad) s.funs.length c1) hi w.heap.size w w1 (.slice (some ⟨gg, 0, none⟩) ((s.funs.take k).length + 1) cap2) (.int .i64 ((k + 1 : Nat) : Int)) w3) := by
          obtain ⟨h1, h2, h3, h4, h5⟩ := HR.out
          have hb3 : Below w1.heap.size w1 w3 := (HB2.out.alloc (by simp; omega) _).grown hgrow (by simp; omega) (fun b hb => (hvl b hb).1)
          have hl1 := K1.out.b.lt
          have hh1 := K1.out.hi
          have hk3 : ScKept s (.slice A0 n0 c0) (.slice (some ad) s.funs.length c1) hi w.heap.size w w3 := K1.out.next hb3
          refine Lib.hid (⟨k + 1, us1 ++ ((lzOf x).cells (.slice A' n' c')).toList, by omega, rfl, ?_, ?_, hb3, hk3⟩ : FndAt _ _ _ _ _ _ _ _ _ _)
          · rw [h5]
            exact hown3
          · rw [h2]
            exact LzRow.snoc (f := lzOf x) (v := .slice A' n' c') (hi := hi) (w := w3) (h3.below hk3.bel (fun b hb => by omega)) h4 (LzRow.keep (w' := w3) (fun b hb => (hb3.block b (by omega)).trans (HB.out.block b (by omega)).symm) _ h1)
        clear hown3 hgrow hat3 hlt3
        go_roundw
        case rel => simpa [HL.out] using HF.out
        case measure => simp [intOf]; omega
      · have hll : s.funs.take k = s.funs := List.take_of_length_le (by omega)
        rw [hll] at hown hrw
        have hle : hi ≤ wr.heap.size := by have := hkp.hi; have := hkp.b.lt; omega
        have hlz : LzIn wr wr.heap.size (s.funs.map lzOf) u3 := LzIn.of_own (by simpa using hown) hrw hle
        obtain ⟨A3, n3, c3, rfl⟩ := hlz.form
        have HSo := Lib.hid (sortsI_any s.syms (s.funs.map lzOf) (.slice A0 n0 c0) (.slice A3 n3 c3) wr wr.heap.size (hkp.i.sy.more hle) hlz (Nat.le_refl _) (say_body HS.out))
        have z0 := hkp.b.cell 0
        have z1 := hkp.b.cell 1
        simp at z0 z1
        have HP := Lib.hid hkp
        clear hll hown hrw hle hlz hkp hbel
        go_wp2_with fail
        refine HSo.out.mono ?_
        rintro e w2 ⟨E, lst, v, fp, rfl, han, hsep, hnod, hrng, hb2⟩
        obtain ⟨hE, hlen, hall⟩ := finds_say HS.out han
        subst hE
        obtain ⟨A4, n4, c4, rfl⟩ := hsep.form
        have hin4 : (S.mk lst).In w2 0 w2.heap.size (.slice A4 n4 c4) := S.Sep.in_ _ hsep (fun b hb => ⟨Nat.zero_le _, (hrng b hb).2⟩)
        have k2 := HP.out.next hb2
        obtain ⟨A', c', e4⟩ := ex_len hin4
        have e5 : n4 = s.funs.length := by simp at e4; omega
        subst e5
        have q0 := k2.b.cell 0
        have q1 := k2.b.cell 1
        simp at q0 q1
        have HP2 := Lib.hid k2
        have HI4 := Lib.hid hin4
        have HAL := Lib.hid hall
        have HLn := Lib.hid hlen
        clear HSo han hsep hnod hrng hb2 hin4 k2 e4 hall hlen z0 z1 x0 x1
        go_wp2_with fail
        go_loopw [54] (fun i wr => FndIn s.funs.length w2 i wr) (fun i _ => s.funs.length - (intOf i).toNat)
        case atStart => exact ⟨0, Nat.zero_le _, rfl, Below.refl _ _⟩
        case round =>
          obtain ⟨j, hj, rfl, hbel⟩ := hrel
          by_cases hlt : j < s.funs.length
          · obtain ⟨x, hx⟩ : ∃ x, lst[j]? = some x := ⟨lst[j]'(by have := HLn.out; omega), List.getElem?_eq_getElem _⟩
            obtain ⟨f, hf⟩ : ∃ f, s.funs[j]? = some f := ⟨s.funs[j], List.getElem?_eq_getElem _⟩
            obtain ⟨g1, g2, g3, g4⟩ := HAL.out j x f hx hf
            have g5 := say_ok HS.out f (List.mem_of_getElem? hf)
            have hkp := HP2.out.next hbel
            have h4 := HI4.out
            simp only [S.In] at h4
            obtain ⟨_, _, _, e1, _, _, _, e5⟩ := h4
            cases e1
            obtain ⟨ad4, u4, rfl, _, hb4, hc4, hxin⟩ := e5.at_ hx
            obtain ⟨ad, u, v, rfl, hPa, hel, hsr, _, _⟩ := fn_el HW.out.1 HW.out.2 hf
            obtain ⟨_, r1, _, _, _⟩ := hel.keep (hkp.bel.block _ (by omega))
            have hc4' : wr.cell? (ad4.add j) = some u4 := (hbel.cell (by rw [block_of_add]; exact hb4)).trans (by simpa using hc4)
            have z2 := HP2.out.b.lt
            have zr := hbel.size
            have hxin' := hxin.below hbel (Nat.le_refl _)
            have hsr' := hsr.below hkp.bel hhi
            obtain ⟨Ax, cx, rfl⟩ := sort_len hxin
            obtain ⟨Ay, cy, rfl⟩ := sort_len hsr
            rw [g2] at hc4' hxin'
            have q0 := hkp.b.cell 0
            have q1 := hkp.b.cell 1
            simp at q0 q1
            have HB := Lib.hid hbel
            have c60 : x.count ≤ 60 ∧ f.sort.count ≤ 60 := by
              simp only [S.ok, Bool.and_eq_true, decide_eq_true_eq] at g1 g5
              exact ⟨g1.1.1, g5.1.1⟩
            have C1 : Hid (∀ W, Below wr.heap.size wr W → Calls Tryd.prog 16 #[.agg #[.slice Ax f.sort.args.length cx]] W fun e w' => e = .returned (.bool true) ∧ Below W.heap.size W w') :=
              Lib.hid fun W hW => g1 ▸ is_any x _ W 0 w2.heap.size (hxin'.below hW (by omega)) (by have := hW.size; omega)
            have C2 : Hid (∀ W, Below wr.heap.size wr W → Calls Tryd.prog 17 #[.agg #[.slice Ax f.sort.args.length cx]] W fun e w' => e = .returned (.int .i64 (x.ord : Int)) ∧ Below W.heap.size W w') :=
              Lib.hid fun W hW => rank_any 60 x _ W 0 w2.heap.size c60.1 (by omega) (hxin'.below hW (by omega)) (by have := hW.size; have := hkp.hi; have := hkp.b.lt; omega)
            have C3 : Hid (∀ W, Below wr.heap.size wr W → Calls Tryd.prog 17 #[.agg #[.slice Ay f.sort.args.length cy]] W fun e w' => e = .returned (.int .i64 (f.sort.ord : Int)) ∧ Below W.heap.size W w') :=
              Lib.hid fun W hW => rank_any 60 f.sort _ W 0 hi c60.2 (by omega) (hsr'.below hW (by have := hkp.hi; have := hkp.b.lt; omega)) (by have := hW.size; have := hkp.hi; have := hkp.b.lt; omega)
            have C4 : Hid (∀ W, Below wr.heap.size wr W → Calls Tryd.prog 18 #[.agg #[.slice Ax f.sort.args.length cx], .int .i64 60] W fun e w' => e = .returned (.int .i64 (x.count : Int)) ∧ Below W.heap.size W w') :=
              Lib.hid fun W hW => by
                have h := nodes_any 60 x _ 60 W 0 w2.heap.size c60.1 (by omega) (by omega) (hxin'.below hW (by omega)) (by have := hW.size; have := hkp.hi; have := hkp.b.lt; omega)
                rwa [show min (x.count : Int) (60 + 1) = (x.count : Int) from by have := c60.1; omega] at h
            have C5 : Hid (∀ W, Below wr.heap.size wr W → Calls Tryd.prog 18 #[.agg #[.slice Ay f.sort.args.length cy], .int .i64 60] W fun e w' => e = .returned (.int .i64 (f.sort.count : Int)) ∧ Below W.heap.size W w') :=
              Lib.hid fun W hW => by
                have h := nodes_any 60 f.sort _ 60 W 0 hi c60.2 (by omega) (by omega) (hsr'.below hW (by have := hkp.hi; have := hkp.b.lt; omega)) (by have := hW.size; have := hkp.hi; have := hkp.b.lt; omega)
                rwa [show min (f.sort.count : Int) (60 + 1) = (f.sort.count : Int) from by have := c60.2; omega] at h
            have hr : ¬ (f.sort.ord : Int) < (x.ord : Int) := by omega
            have hn : ¬ (f.sort.count : Int) < (x.count : Int) := by omega
            have zk := hkp.b.lt
            have zb : (ad.add (j * 5)).block < wr.heap.size := by rw [block_of_add]; omega
            have hb1 : decide ((f.sort.ord : Int) < (x.ord : Int)) = false := decide_eq_false (by omega)
            have hb2 : decide ((f.sort.count : Int) < (x.count : Int)) = false := decide_eq_false (by omega)
            generalize hox : (x.ord : Int) = ox at *
            generalize hof : (f.sort.ord : Int) = of at *
            generalize hcx : (x.count : Int) = nx at *
            generalize hcf : (f.sort.count : Int) = nf at *
            clear hox hof hcx hcf
            clear hx hf hel hsr hsr' hxin hxin' hc4 e5 g1 g2 g3 g4 g5 c60 hkp hbel hr hn
            go_upto_region 16 with fail
            have W2b : Below wr.heap.size wr ((wr.alloc (.cells #[.slice Ax f.sort.args.length cx] 41)).alloc (.cells #[.slice Ay f.sort.args.length cy] 41)) := ((Below.refl _ _).alloc (Nat.le_refl _) _).alloc (by simp) _
            obtain ⟨d1, d2⟩ := Blk.both (w' := ((wr.alloc (.cells #[.slice Ax f.sort.args.length cx] 41)).alloc (.cells #[.slice Ay f.sort.args.length cy] 41))) (Below.refl _ _)
            generalize ((wr.alloc (.cells #[.slice Ax f.sort.args.length cx] 41)).alloc (.cells #[.slice Ay f.sort.args.length cy] 41)) = W2 at *
            have HK2 : Hid (∀ W, Below W2.heap.size W2 W → W.cell? ⟨wr.heap.size, 0, none⟩ = some (.slice Ax f.sort.args.length cx) ∧ W.cell? ⟨wr.heap.size + 1, 0, none⟩ = some (.slice Ay f.sort.args.length cy)) := Lib.hid fun W hW => by
              have a := (d1.below hW d1.lt).cell 0
              have b := (d2.below hW d2.lt).cell 0
              simp at a b
              exact ⟨a, b⟩
            have s0 := HK2.out W2 (Below.refl _ _)
            have hd : Below W2.heap.size W2 W2.drew := (Below.refl _ _).drew
            go_region_held3 (fun W => W.cell? ⟨wr.heap.size, 0, none⟩ = some (.slice Ax f.sort.args.length cx) ∧ W.cell? ⟨wr.heap.size + 1, 0, none⟩ = some (.slice Ay f.sort.args.length cy))
              (first | assumption | exact HK2.out _ (by assumption) | go_keep)
              (first
               | (go_at_call 16; ((with_reducible refine (C1.out _ (by exact W2b.trans (hd.mono W2b.size))).mono ?_); rintro e wI ⟨rfl, bwI⟩)
                  have hwI : Below W2.heap.size W2 wI := hd.trans (bwI.mono hd.size))
               | (go_at_call 17; ((with_reducible refine (C2.out _ (by exact W2b.trans (hwI.mono W2b.size))).mono ?_); rintro e wJ ⟨rfl, bwJ⟩)
                  have hwJ : Below W2.heap.size W2 wJ := hwI.trans (bwJ.mono hwI.size))
               | (go_at_call 17; ((with_reducible refine (C3.out _ (by exact W2b.trans (hwJ.mono W2b.size))).mono ?_); rintro e wK ⟨rfl, bwK⟩)
                  have hwK : Below W2.heap.size W2 wK := hwJ.trans (bwK.mono hwJ.size))
               | (go_at_call 18; ((with_reducible refine (C4.out _ (by exact W2b.trans (hwK.mono W2b.size))).mono ?_); rintro e wL ⟨rfl, bwL⟩)
                  have hwL : Below W2.heap.size W2 wL := hwK.trans (bwL.mono hwK.size))
               | (go_at_call 18; ((with_reducible refine (C5.out _ (by exact W2b.trans (hwL.mono W2b.size))).mono ?_); rintro e wQ ⟨rfl, bwQ⟩)
                  have hwQ : Below W2.heap.size W2 wQ := hwL.trans (bwQ.mono hwL.size)))
            have B5 : Hid (Below w2.heap.size w2 wQ) := Lib.hid (HB.out.trans ((W2b.trans (hwQ.mono W2b.size)).mono HB.out.size))
            clear hwI hwJ hwK hwL hwQ
            go_wp2_with fail
            go_roundw
            case rel => exact ⟨j + 1, by omega, by go_num, B5.out⟩
            case measure => simp [intOf]; omega
          · have B2 := Lib.hid (HP2.out.next hbel).bel
            clear hbel
            go_wp2_with fail
            refine (HA.out _).mono ?_
            rintro e w5 ⟨rfl, hb5⟩
            have B3 := Lib.hid (B2.out.trans (hb5.mono B2.out.size))
            clear hb5
            go_wp2_with fail
            go_ret
            exact ⟨rfl, B3.out⟩
end Go.Proofs.YtkkfdiidneoelaaDoor
