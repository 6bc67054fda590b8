/-
  The reference's sort of a term: a contract.
-/
import Derived.Test.YtkkfdiidneoelaaGreatDoorIRUni
namespace Go.Proofs.YtkkfdiidneoelaaGreatDoor
open Go.RowKit

/-- The heads' nodes, three slices of numbers. -/
structure HdR (w : World) (q0 q1 q2 : List Nat) (h0 h1 h2 : Value) : Prop where
  z0 : Zs 0 w (nints q0) h0
  z1 : Zs 0 w (nints q1) h1
  z2 : Zs 0 w (nints q2) h2
theorem HdR.rt {p : Nat} {w w' : World} {G : Gr} {v v' : Value} {q0 q1 q2 : List Nat} {h0 h1 h2 : Value} (h : HdR w q0 q1 q2 h0 h1 h2) (hg : RG p w G v) (ht : RT p w v w' v') : HdR w' q0 q1 q2 h0 h1 h2 := ⟨h.z0.rt hg ht, h.z1.rt hg ht, h.z2.rt hg ht⟩
theorem HdR.below {w w' : World} {q0 q1 q2 : List Nat} {h0 h1 h2 : Value} (h : HdR w q0 q1 q2 h0 h1 h2) (hb : Below w.heap.size w w') : HdR w' q0 q1 q2 h0 h1 h2 := ⟨h.z0.below hb, h.z1.below hb, h.z2.below hb⟩
theorem zs_head {w : World} {q : List Nat} {h : Value} (hz : Zs 0 w (nints q) h) {j : Nat} (hj : j < q.length) : ∃ g gb c m : Nat, h = .slice (some ⟨gb, 0, none⟩) m c ∧ j < m ∧ w.cell? ⟨gb, j, none⟩ = some (.int .i64 (g : Int)) ∧ q[j]? = some g := by
  obtain ⟨A, c, rfl, _, _⟩ := hz.form
  have hx : q[j]? = some q[j] := List.getElem?_eq_getElem hj
  obtain ⟨gb, rfl, _, hc⟩ := hz.cell (nints_at hx)
  exact ⟨q[j], gb, c, _, rfl, by rw [nints_len]; exact hj, hc, hx⟩
/-- The node of a head. -/
def HeadR (w : World) (q0 q1 q2 : List Nat) (h0 h1 h2 : Value) (k n : Int) (kk nn g gb c m : Nat) : Prop :=
  k = (kk : Int) ∧ n = (nn : Int) ∧ kk < 3 ∧ (#[h0, h1, h2] : Array Value)[kk]? = some (.slice (some ⟨gb, 0, none⟩) m c) ∧ nn < m ∧ w.cell? ⟨gb, nn, none⟩ = some (.int .i64 (g : Int)) ∧ pickA q0 q1 q2 k n = some g
theorem HdR.pick {w : World} {q0 q1 q2 : List Nat} {h0 h1 h2 : Value} (h : HdR w q0 q1 q2 h0 h1 h2) {k n : Int} (he : headIn q0.length q1.length q2.length k n = true) : ∃ kk nn g gb c m, HeadR w q0 q1 q2 h0 h1 h2 k n kk nn g gb c m := by
  simp only [headIn, Bool.and_eq_true, decide_eq_true_eq] at he
  obtain ⟨hn0, hn⟩ := he
  by_cases hk0 : k = 0
  · rw [if_pos hk0] at hn
    obtain ⟨g, gb, c, m, rfl, h1, h2, h3⟩ := zs_head h.z0 (j := n.toNat) (by omega)
    exact ⟨0, n.toNat, g, gb, c, m, by omega, by omega, by decide, rfl, h1, h2, by unfold pickA; rw [if_neg (by omega), if_pos hk0]; exact h3⟩
  rw [if_neg hk0] at hn
  by_cases hk1 : k = 1
  · rw [if_pos hk1] at hn
    obtain ⟨g, gb, c, m, rfl, h1, h2, h3⟩ := zs_head h.z1 (j := n.toNat) (by omega)
    exact ⟨1, n.toNat, g, gb, c, m, by omega, by omega, by decide, rfl, h1, h2, by unfold pickA; rw [if_neg (by omega), if_neg hk0, if_pos hk1]; exact h3⟩
  rw [if_neg hk1] at hn
  by_cases hk2 : k = 2
  · rw [if_pos hk2] at hn
    obtain ⟨g, gb, c, m, rfl, h1, h2, h3⟩ := zs_head h.z2 (j := n.toNat) (by omega)
    exact ⟨2, n.toNat, g, gb, c, m, by omega, by omega, by decide, rfl, h1, h2, by unfold pickA; rw [if_neg (by omega), if_neg hk0, if_neg hk1, if_pos hk2]; exact h3⟩
  rw [if_neg hk2] at hn
  omega
/-- What sort answers. -/
def SrtPost (p : Nat) (G : Gr) (v : Value) (hs : Int → Int → Option Nat) (t : T) (w : World) (e : Ending) (w' : World) : Prop :=
  ∃ (G' : Gr) (v' : Value), RG p w' G' v' ∧ RT p w v w' v' ∧ G'.length + 2 ≤ G.length + 2 * t.count ∧
    ((∃ r : Nat, e = .returned (.tuple #[.int .i64 (r : Int), .bool true]) ∧ Typed G G' hs t r) ∨ (e = .returned (.tuple #[.int .i64 0, .bool false]) ∧ NoTy G hs t))
/-- So many arguments are seen. -/
structure SrtAt (p : Nat) (G : Gr) (v : Value) (hs : Int → Int → Option Nat) (l : List T) (g k : Nat) (B : Nat) (tb hb : Array Value) (w : World) (G1 : Gr) (v1 : Value) (r : Nat) (wr : World) : Prop where
  ty : TypedL G G1 hs (l.take k) g r
  rg : RG p wr G1 v1
  rt : RT p w v wr v1
  len : G1.length ≤ G.length + 2 * T.countL (l.take k)
  b4 : Blk wr B 53 tb
  b5 : Blk wr (B + 1) 137 hb
theorem RT.drewN {p : Nat} {w w' : World} {v v' : Value} (h : RT p w v w' v') (n : Nat) : RT p w v (w'.drewN n) v' := ⟨⟨h.sav.os, h.sav.tape, h.sav.output, h.sav.size, h.sav.block⟩, h.at_⟩
theorem SrtAt.drewN {p : Nat} {G : Gr} {v : Value} {hs : Int → Int → Option Nat} {l : List T} {g k B : Nat} {tb hb : Array Value} {w : World} {G1 : Gr} {v1 : Value} {r : Nat} {wr : World} (h : SrtAt p G v hs l g k B tb hb w G1 v1 r wr) (n : Nat) : SrtAt p G v hs l g k B tb hb w G1 v1 r (wr.drewN n) :=
  ⟨h.ty, h.rg.drewN n, h.rt.drewN n, h.len, h.b4.drewN n, h.b5.drewN n⟩
/-- The state at the loop's head. -/
def SrtRel (p : Nat) (G : Gr) (v : Value) (hs : Int → Int → Option Nat) (l : List T) (g B : Nat) (tb hb : Array Value) (w : World) (n i : Value) (wr : World) : Prop :=
  ∃ (k : Nat) (G1 : Gr) (v1 : Value) (r : Nat), k ≤ l.length ∧ n = .int .i64 (r : Int) ∧ i = .int .i64 (k : Int) ∧ SrtAt p G v hs l g k B tb hb w G1 v1 r wr
theorem cut_at {α : Type} {l : List α} {k : Nat} {x : α} (h : l[k]? = some x) : l = l.take k ++ x :: l.drop (k + 1) := by
  have hk := (List.getElem?_eq_some_iff.1 h).1
  have e : l[k] = x := by rw [List.getElem?_eq_getElem hk] at h; exact Option.some.inj h
  rw [← e, ← List.drop_eq_getElem_cons hk, List.take_append_drop]
theorem add2 {p : Nat} {G2 : Gr} {v4 : Value} {a : Nat} {w4 : World} (h : RG p w4 (G2 ++ [.open_]) v4) (hl : G2.length ≤ 900000) :
    Calls Tryz.prog 71 #[.pointer (some (at0 p)), .int .i64 2, .int .i64 (a : Int), .int .i64 (G2.length : Int)] w4 fun e w' => ∃ z : Int, z = ((G2.length + 1 : Nat) : Int) ∧ e = .returned (.int .i64 z) ∧ ∃ v', RG p w' (withArg G2 a) v' ∧ RT p w4 v4 w' v' :=
  (addR_any p (G2 ++ [.open_]) v4 (.arrow a G2.length) 2 (a : Int) (G2.length : Int) w4 rfl rfl rfl h (by simp; omega)).mono fun e w' ⟨he, v', h1, h2⟩ => ⟨_, by simp, he, v', h1, h2⟩
set_option maxRecDepth 100000 in
set_option maxHeartbeats 3200000 in
theorem sortR_any (p : Nat) (q0 q1 q2 : List Nat) (h0 h1 h2 : Value) (K : Nat) : ∀ (t : T) (G : Gr) (v bv : Value) (w : World) (P : Nat → Prop), t.count ≤ K → Good G → RG p w G v → HdR w q0 q1 q2 h0 h1 h2 →
    (∀ k n x, pickA q0 q1 q2 k n = some x → x < G.length) → t.exist q0.length q1.length q2.length = true → t.In w P bv → Old P w → (∀ b, P b → b ≠ p ∧ v.ownBlock ≠ some b) → G.length + 2 * t.count ≤ 800000 →
    Calls Tryz.prog 73 #[.pointer (some (at0 p)), .agg #[.int .i64 t.kind, .int .i64 t.num, bv], .agg #[h0, h1, h2]] w (SrtPost p G v (pickA q0 q1 q2) t w) := by
  induction K with
  | zero => intro t; have := t.count_pos; omega
  | succ K ih =>
    intro t G v bv w P hK hG hg hd hm he hin hold hPn hlen
    obtain ⟨kd, nm, l⟩ := t
    simp only [T.exist, Bool.and_eq_true] at he
    obtain ⟨kk, nn, g, gb, cg, mg, hk1, hk2, hk3, hk4, hk5, hk6, hk7⟩ := hd.pick he.1
    simp only [T.In] at hin
    obtain ⟨A, _, c, us0, rfl, rfl, hnc, hc, hrd, hrow⟩ := hin
    simp only [T.count] at hK hlen
    subst hk1 hk2
    have HHS := Lib.hid hk7
    simp only [T.kind, T.num]
    have hbw : Below w.heap.size w ((w.alloc (.cells #[.int .i64 (kk : Int), .int .i64 (nn : Int), .slice A l.length c] 53)).alloc (.cells #[h0, h1, h2] 137)) := ((Below.refl _ _).alloc (Nat.le_refl _) _).alloc (by simp) _
    have b4 := (Blk.new w 53 #[.int .i64 (kk : Int), .int .i64 (nn : Int), .slice A l.length c]).alloc (.cells #[h0, h1, h2] 137)
    have b5 : Blk ((w.alloc (.cells #[.int .i64 (kk : Int), .int .i64 (nn : Int), .slice A l.length c] 53)).alloc (.cells #[h0, h1, h2] 137)) (w.heap.size + 1) 137 #[h0, h1, h2] := by simpa using Blk.new (w.alloc (.cells #[.int .i64 (kk : Int), .int .i64 (nn : Int), .slice A l.length c] 53)) 137 #[h0, h1, h2]
    obtain ⟨A0, n0, c0, rfl⟩ := own_form hd.z0
    obtain ⟨A1, n1, c1, rfl⟩ := own_form hd.z1
    obtain ⟨A2, n2, c2, rfl⟩ := own_form hd.z2
    have hgb : gb < w.heap.size := by
      rcases Nat.lt_or_ge gb w.heap.size with h | h
      · exact h
      · have : w.cell? ⟨gb, nn, none⟩ = none := by simp [World.cell?, Array.getElem?_eq_none h]
        rw [this] at hk6; cases hk6
    have d0 := b4.cell 0
    have d1 := b4.cell 1
    have d2 := b4.cell 2
    have d5 := (b5.cell kk).trans hk4
    have d6 := (hbw.cell (p := ⟨gb, nn, none⟩) hgb).trans hk6
    simp at d0 d1 d2
    have H0 : Hid (SrtAt p G v (pickA q0 q1 q2) l g 0 w.heap.size #[.int .i64 (kk : Int), .int .i64 (nn : Int), .slice A l.length c] #[.slice A0 n0 c0, .slice A1 n1 c1, .slice A2 n2 c2] w G v g _) :=
      Lib.hid ⟨.nil hG (hm _ _ _ hk7), hg.below hbw, RT.of_below hbw, by simp, b4, b5⟩
    have HI := Lib.hid ih
    have HL := Lib.hid hlen
    have HM := Lib.hid hm
    have HG := Lib.hid hG
    have HGW := Lib.hid hg
    have HE := Lib.hid he.2
    have HHD := Lib.hid hd
    have HRD := Lib.hid (⟨hrd, hrow⟩ : Rd w P A us0 ∧ T.Row w P l us0)
    have HP := Lib.hid (⟨hold, hPn⟩ : Old P w ∧ ∀ b, P b → b ≠ p ∧ v.ownBlock ≠ some b)
    clear ih hlen hm hG hg he hd hrd hrow hold hPn hbw b4 b5 hk4 hk6 hk7
    go_enter Tryz.func73, Tryz.ntmps73
    go_wp2_with fail
    go_quiet (fail)
    go_wp2_with fail
    go_loopw [8, 25] (fun n i wr => SrtRel p G v (pickA q0 q1 q2) l g w.heap.size #[.int .i64 (kk : Int), .int .i64 (nn : Int), .slice A l.length c] #[.slice A0 n0 c0, .slice A1 n1 c1, .slice A2 n2 c2] w n i wr) (fun _ i _ => l.length - (intOf i).toNat)
    case atStart => exact ⟨0, G, v, g, Nat.zero_le _, rfl, rfl, H0.out.drewN _⟩
    case round =>
      clear H0 d0 d1 d2 d5 d6
      obtain ⟨k, G1, v1, r, hk, rfl, rfl, hs⟩ := hrel
      by_cases hlt : k < l.length
      · have hx : l[k]? = some l[k] := List.getElem?_eq_getElem hlt
        have hzr := hs.rt.sav.size
        have hkb : ∀ b, P b → wr.heap[b]? = w.heap[b]? := fun b hb => hs.rt.block (HP.out.1 b hb) (HP.out.2 b hb).1 (HP.out.2 b hb).2
        obtain ⟨ad, u, rfl, hPa, hel, hinx⟩ := T.In.el HRD.out.1 HRD.out.2 hx
        obtain ⟨r0, r1, r2⟩ := hel.keep (hkb _ hPa)
        have hex := T.existL_at HE.out hx
        have hcs := T.countL_take_succ l k _ hx
        have hcl := T.countL_take_le l (k + 1)
        have hcut := cut_at hx
        have htk : l.take (k + 1) = l.take k ++ [l[k]] := by rw [List.take_add_one, hx]; rfl
        generalize l[k] = x at *
        obtain ⟨A', n', c', rfl⟩ := hinx.form
        have hw1 : Below wr.heap.size wr (wr.alloc (.cells #[.int .i64 x.kind, .int .i64 x.num, .slice A' n' c'] 53)) := (Below.refl _ _).alloc (Nat.le_refl _) _
        have hG1 := hs.ty.len
        have hlen1 := hs.len
        have hL := HL.out
        have hat : ∀ b, v1.ownBlock = some b → v.ownBlock = some b ∨ w.heap.size ≤ b := hs.rt.at_
        have HCX := Lib.hid (HI.out x G1 v1 (.slice A' n' c') _ P (by omega) hs.ty.good (hs.rg.alloc _) ((HHD.out.rt HGW.out hs.rt).below hw1) (fun k n y hy => by have := HM.out k n y hy; omega) hex
          ((hinx.keep hkb _).below hw1 (fun b hb => by have := HP.out.1 b hb; omega)) (fun b hb => by have := HP.out.1 b hb; simp; omega) (fun b hb => ⟨(HP.out.2 b hb).1, fun e => by
            rcases hat b e with h | h
            · exact (HP.out.2 b hb).2 h
            · have := HP.out.1 b hb; omega⟩) (by omega))
        have e40 := hs.b4.cell 2
        have e50 := hs.b5.cell 0
        have e51 := hs.b5.cell 1
        have e52 := hs.b5.cell 2
        simp at e40 e50 e51 e52
        have z5 : w.heap.size + 1 < wr.heap.size := hs.b5.lt
        have HSX := Lib.hid hs
        have HCUT := Lib.hid hcut
        have HTK := Lib.hid htk
        have HCN : Hid (T.countL (l.take (k + 1)) = T.countL (l.take k) + x.count ∧ T.countL (l.take (k + 1)) ≤ T.countL l) := Lib.hid ⟨hcs, hcl⟩
        have HW1 := Lib.hid hw1
        have HLN : Hid (G1.length ≤ G.length + 2 * T.countL (l.take k) ∧ G.length + 2 * (1 + T.countL l) ≤ 800000) := Lib.hid ⟨hlen1, hL⟩
        clear hx hel hinx hkb hex hcs hcl hcut htk hs hw1 hG1 hlen1 hL hat
        go_wp2_with fail
        refine HCX.out.mono ?_
        rintro e w3 ⟨G2, v2, hg2, ht2, hl2, hres⟩
        have hr2 : RT p wr v1 w3 v2 := (RT.of_below HW1.out).trans ht2
        rcases hres with ⟨a, rfl, htx⟩ | ⟨rfl, hno⟩
        · have HTX := Lib.hid htx
          have HR2 := Lib.hid hr2
          have HL2 := Lib.hid hl2
          have HCA := Lib.hid (addR_any p G2 v2 .open_ 0 0 0 w3 rfl rfl rfl hg2 (by have := HCN.out; have := HLN.out; omega))
          clear hg2 ht2 hl2 htx hr2
          go_wp2_with fail
          refine HCA.out.mono ?_
          rintro e w4 ⟨rfl, v4, hg4, ht4⟩
          have HR4 := Lib.hid (HR2.out.trans ht4)
          have HCB := Lib.hid (add2 (a := a) hg4 (by have := HCN.out; have := HLN.out; have := HL2.out; omega))
          clear hg4 ht4
          go_wp2_with fail
          refine HCB.out.mono ?_
          rintro e w5 ⟨z, hz, rfl, v5, hg5, ht5⟩
          have HR5 := Lib.hid (HR4.out.trans ht5)
          obtain ⟨ok, hok⟩ := Unifies.bool (withArg G2 a) r (G2.length + 1)
          have hrl := HSX.out.ty.lt
          have hxl := HTX.out.len
          have HCU := Lib.hid (uniR_any p _ (withArg G2 a) v5 r (G2.length + 1) (r : Int) z ok w5 (Nat.le_refl _) (withArg_good HTX.out.good HTX.out.lt) hg5 (by rw [withArg_len]; omega) (by rw [withArg_len]; omega) rfl hz hok)
          clear hg5 ht5 hok hz hrl hxl
          go_wp2_with fail
          refine HCU.out.mono ?_
          rintro e w6 ⟨rfl, G6, hj, hg6, ht6⟩
          have hr6 := HR5.out.trans ht6
          have hl6 := hj.len
          rw [withArg_len] at hl6
          cases ok with
          | false =>
            have HF : Hid (SrtPost p G v (pickA q0 q1 q2) (.mk (kk : Int) (nn : Int) l) w (.returned (.tuple #[.int .i64 0, .bool false])) w6) := by
              refine Lib.hid ⟨G6, v5, hg6, HSX.out.rt.trans hr6, by have := HCN.out; have := HLN.out; have := HL2.out; simp only [T.count]; omega, .inr ⟨rfl, ?_⟩⟩
              have := NoTyL.join HM.out HSX.out.ty HTX.out hj (l.drop (k + 1))
              rw [← HCUT.out] at this
              exact this.no HHS.out
            clear hj hg6 ht6 hr6 hl6
            go_wp2_with fail
            go_ret2
            exact HF.out
          | true =>
            have HF : Hid (SrtRel p G v (pickA q0 q1 q2) l g w.heap.size #[.int .i64 (kk : Int), .int .i64 (nn : Int), .slice (some ad) l.length c] #[.slice A0 n0 c0, .slice A1 n1 c1, .slice A2 n2 c2] w (.int .i64 (G2.length : Int)) (.int .i64 ((k + 1 : Nat) : Int)) w6) := by
              have hb := fun (g8 : Nat) (t8 : TypeId) (cs8 : Array Value) (h : Blk wr g8 t8 cs8) (hp : g8 ≠ p) (hv : v1.ownBlock ≠ some g8) => ((hr6.block h.lt hp hv).trans h : Blk w6 g8 t8 cs8)
              have hpl := HGW.out.box.lt
              refine Lib.hid ⟨k + 1, G6, v5, G2.length, by omega, rfl, rfl, ⟨?_, hg6, HSX.out.rt.trans hr6, ?_, ?_, ?_⟩⟩
              · rw [HTK.out]
                exact TypedL.snoc HM.out HSX.out.ty HTX.out hj
              · have := HCN.out; have := HLN.out; have := HL2.out; omega
              · exact hb _ _ _ HSX.out.b4 (by omega) (own_ne HSX.out.rg.own HSX.out.b4 (by decide))
              · exact hb _ _ _ HSX.out.b5 (by omega) (own_ne HSX.out.rg.own HSX.out.b5 (by decide))
            clear hj hg6 ht6 hr6 hl6
            go_wp2_with fail
            go_roundw
            case rel => exact HF.out
            case measure => simp [intOf]; omega
        · have HF : Hid (SrtPost p G v (pickA q0 q1 q2) (.mk (kk : Int) (nn : Int) l) w (.returned (.tuple #[.int .i64 0, .bool false])) w3) := by
            refine Lib.hid ⟨G2, v2, hg2, HSX.out.rt.trans hr2, by have := HCN.out; have := HLN.out; simp only [T.count]; omega, .inr ⟨rfl, ?_⟩⟩
            have := NoTyL.arg HM.out HSX.out.ty hno (l.drop (k + 1))
            rw [← HCUT.out] at this
            exact this.no HHS.out
          clear hg2 ht2 hl2 hno hr2
          go_wp2_with fail
          go_ret2
          exact HF.out
      · have hll : l.take k = l := List.take_of_length_le (by omega)
        have HF : Hid (SrtPost p G v (pickA q0 q1 q2) (.mk (kk : Int) (nn : Int) l) w (.returned (.tuple #[.int .i64 (r : Int), .bool true])) wr) := by
          have h1 := hs.ty
          have h2 := hs.len
          rw [hll] at h1 h2
          exact Lib.hid ⟨G1, v1, hs.rg, hs.rt, by simp only [T.count]; omega, .inl ⟨r, rfl, h1.typed HHS.out⟩⟩
        clear hs hll
        go_wp2_with fail
        go_ret2
        exact HF.out
end Go.Proofs.YtkkfdiidneoelaaGreatDoor
