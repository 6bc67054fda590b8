/-
  join of guesses: a contract.
-/
import Derived.Test.YtkkfdiidneoelaaDoorIMem
import Derived.Deep.RegionHeld3
import Derived.Deep.QuietTactic
import Derived.BigQuiet
import Derived.LaidEqlPtr
namespace Go.Proofs.YtkkfdiidneoelaaDoor
open Go.RowKit

/-- There are trees with which two nodes may be the same. -/
def Unifies (G : Gr) (x y : Nat) : Prop := ∃ v, Sol G v ∧ v x = v y
theorem Joined.iff {G G' : Gr} {x y : Nat} {ok : Bool} (j : Joined G G' x y ok) : ok = true ↔ Unifies G x y := by
  constructor
  · intro h
    obtain ⟨v, hv⟩ := Can.exists j.good
    exact ⟨v, (j.yes h v).1 hv.sol⟩
  · rintro ⟨v, h1, h2⟩
    cases ok with
    | true => rfl
    | false => exact (j.no rfl v h1 h2).elim
theorem Unifies.bool (G : Gr) (x y : Nat) : ∃ ok : Bool, (ok = true ↔ Unifies G x y) := by
  by_cases h : Unifies G x y
  · exact ⟨true, by simp [h]⟩
  · exact ⟨false, by simp [h]⟩
/-- What join answers. -/
def JoinPost (ps : List Nat) (G : Gr) (vis : Nat → Int) (x y : Nat) (ok : Bool) (w : World) (e : Ending) (w' : World) : Prop :=
  e = .returned (.bool ok) ∧ ∃ G', Joined G G' x y ok ∧ Gs w' ps G' vis ∧ Turns ps w w'
/-- The way to two roots changes nothing. -/
theorem Joined.behind {G G1 G2 : Gr} {g h a b : Nat} {ok : Bool} (hs : Alike G G1) (hg : ∀ v, Sol G v → v g = v a) (hh : ∀ v, Sol G v → v h = v b) (j : Joined G1 G2 a b ok) : Joined G G2 g h ok := by
  have hl := hs.len
  have hr := hs.roots
  have hl2 := j.len
  have hr2 := j.roots
  refine ⟨j.good, by omega, by omega, fun e v => ?_, fun e v hv hh' => ?_⟩
  · rw [j.yes e v, hs.sol v]
    exact and_congr_right fun hv => by rw [hg v hv, hh v hv]
  · exact j.no e v ((hs.sol v).2 hv) (by rw [← hg v hv, ← hh v hv]; exact hh')
/-- The state at the two roots. -/
structure Roots (ps : List Nat) (G : Gr) (vis : Nat → Int) (x y : Nat) (w : World) (G' : Gr) (r s p q : Nat) (w' : World) : Prop where
  al : Alike G G'
  ex : ∀ v, Sol G v → v x = v r
  ey : ∀ v, Sol G v → v y = v s
  gs : Gs w' ps G' vis
  tu : Turns ps w w'
  hr : ps[r]? = some p
  hs : ps[s]? = some q
  rr : ∃ d, G'[r]? = some d ∧ d.root = true
  rs : ∃ d, G'[s]? = some d ∧ d.root = true
theorem JoinPost.of {ps : List Nat} {G G' G2 : Gr} {vis : Nat → Int} {x y r s p q : Nat} {ok : Bool} {w w1 w2 : World} (h : Roots ps G vis x y w G' r s p q w1) (j : Joined G' G2 r s ok) (hg : Gs w2 ps G2 vis) (ht : Turns ps w1 w2) :
    JoinPost ps G vis x y ok w (.returned (.bool ok)) w2 := ⟨rfl, G2, j.behind h.al h.ex h.ey, hg, h.tu.trans ht⟩
theorem JoinPost.ok_ {ps : List Nat} {G : Gr} {vis : Nat → Int} {x y : Nat} {ok ok' : Bool} {w w' : World} {e : Ending} (h : JoinPost ps G vis x y ok w e w') (hok : ok' = true ↔ Unifies G x y) : JoinPost ps G vis x y ok' w e w' := by
  obtain ⟨_, G', j, _⟩ := id h
  have : ok = ok' := by rw [Bool.eq_iff_iff, j.iff, hok]
  exact this ▸ h
theorem roots_pos {G : Gr} {r : Nat} {d : Nd} (h : G[r]? = some d) (hd : d.root = true) : 0 < roots G := by
  have := roots_set (e := .link 0) h
  rw [if_pos hd] at this
  simp [Nd.root] at this
  omega
/-- What the second pair of parts answers, where the first one is the same. -/
theorem Joined.second {G G1 : Gr} {a b p q r s : Nat} {ok : Bool} (ha : G[a]? = some (.arrow p q)) (hb : G[b]? = some (.arrow r s)) (hab : a ≠ b)
    (h1 : Joined (G.set a (.link b)) G1 p r true) (hok : ok = true ↔ Unifies G a b) : ok = true ↔ Unifies G1 q s := by
  obtain ⟨ok2, h2⟩ := Unifies.bool G1 q s
  rw [hok]
  constructor
  · rintro ⟨v, hv, hh⟩
    have g := (Sol.linked (b := b) ha).2 ⟨hv, hh⟩
    have g3 : v a = D.arr (v p) (v q) := hv a (.arrow p q) ha
    have g4 : v b = D.arr (v r) (v s) := hv b (.arrow r s) hb
    obtain ⟨e1, e2⟩ := D.arr_inj (g3.symm.trans (hh.trans g4))
    exact ⟨v, (h1.yes rfl v).2 ⟨g.1, e1⟩, e2⟩
  · rintro ⟨v, hv, hh⟩
    obtain ⟨g1, g2⟩ := (h1.yes rfl v).1 hv
    have g3 : v a = v b := g1 a (.link b) (get_set_eq ha)
    have g4 : v b = D.arr (v r) (v s) := g1 b (.arrow r s) (by rw [get_set_ne hab]; exact hb)
    have key : v a = D.arr (v p) (v q) := by rw [g3, g4, g2, hh]
    obtain ⟨h5, h6⟩ := (Sol.linked (b := b) ha).1 ⟨g1, key⟩
    exact ⟨v, h5, h6⟩

theorem guess_size : (Tryd.prog.info? 116).map (·.size) = some 5 := by kernel_rfl
theorem guess_same (p : Nat) (w : World) : (binOp .eql 76 (.pointer (some (at0 p))) (.pointer (some (at0 p)))).run Tryd.prog w = .ok (.bool true) w := by
  obtain ⟨j, hj, _⟩ := Option.map_eq_some_iff.1 guess_size
  exact run_eql_ptr_same w _ Tryd.underlying76 hj
theorem guess_other {p q : Nat} {w : World} {cp cq : Array Value} (h : ¬ p = q) (hp : Blk w p 116 cp) (hq : Blk w q 116 cq) :
    (binOp .eql 76 (.pointer (some (at0 p))) (.pointer (some (at0 q)))).run Tryd.prog w = .ok (.bool false) w := by
  obtain ⟨j, hj, hjs⟩ := Option.map_eq_some_iff.1 guess_size
  exact run_eql_ptr_other w Tryd.underlying76 hj (by rw [hjs]; decide) (fun e => h (by injection e)) hp hq

set_option maxRecDepth 100000 in
set_option maxHeartbeats 1600000 in
theorem join_any (m : Nat) : ∀ (ps : List Nat) (G : Gr) (vis : Nat → Int) (x y p q : Nat) (ok : Bool) (w : World), roots G ≤ m → Good G → Gs w ps G vis → ps[x]? = some p → ps[y]? = some q → (ok = true ↔ Unifies G x y) →
    Calls Tryd.prog 61 #[.pointer (some (at0 p)), .pointer (some (at0 q))] w (JoinPost ps G vis x y ok w) := by
  induction m with
  | zero =>
    intro ps G vis x y p q ok w hm hG hgs hx
    obtain ⟨r, k, he⟩ := hG.ends x (by have := hgs.len; have := (List.getElem?_eq_some_iff.1 hx).1; omega)
    obtain ⟨d, h1, h2⟩ := he.at_
    have := roots_pos h1 h2
    omega
  | succ m ih =>
    intro ps G vis x y p q ok w hm hG hgs hx hy hok
    have HI := Lib.hid ih
    have HM := Lib.hid hm
    have HO := Lib.hid hok
    clear ih hm hok
    obtain ⟨r, k, he⟩ := hG.ends x (by have := hgs.len; have := (List.getElem?_eq_some_iff.1 hx).1; omega)
    have HG := Lib.hid hG
    have HE := Lib.hid he
    have HC := Lib.hid (last_any ps G vis x p r k w hG hgs hx he)
    have HY := Lib.hid hy
    clear hG hgs hx he hy
    go_enter Tryd.func61, Tryd.ntmps61
    go_wp2_with fail
    refine HC.out.mono ?_
    rintro e w1 ⟨G1, p1, hp1, rfl, ha1, hg1, ht1⟩
    obtain ⟨s, l, he2⟩ := ha1.good.ends y (by have := hg1.len; have := (List.getElem?_eq_some_iff.1 HY.out).1; omega)
    have HC2 := Lib.hid (last_any ps G1 vis y q s l w1 ha1.good hg1 HY.out he2)
    have HP1 := Lib.hid hp1
    have HA1 := Lib.hid ha1
    have HE2 := Lib.hid he2
    have HT1 := Lib.hid ht1
    clear hp1 ha1 hg1 he2 ht1
    go_wp2_with fail
    refine HC2.out.mono ?_
    rintro e w2 ⟨G2, q1, hq1, rfl, ha2, hg2, ht2⟩
    have R : Roots ps G vis x y w G2 r s p1 q1 w2 := by
      have al := HA1.out.trans ha2
      refine ⟨al, fun v hv => hv.ends HE.out, fun v hv => ((HA1.out.sol v).2 hv).ends HE2.out, hg2, HT1.out.trans ht2, HP1.out, hq1, ?_, ?_⟩
      · obtain ⟨d, h1, h2⟩ := HE.out.at_
        exact ⟨d, al.stays r d h1 h2, h2⟩
      · obtain ⟨d, h1, h2⟩ := HE2.out.at_
        exact ⟨d, ha2.stays s d h1 h2, h2⟩
    have HP : Hid (p1 ∈ ps ∧ q1 ∈ ps) := Lib.hid ⟨List.mem_of_getElem? HP1.out, List.mem_of_getElem? hq1⟩
    clear HC HC2 HY HE HA1 HE2 HT1 HP1 hq1 ha2 hg2 ht2
    by_cases hrs : r = s
    · subst hrs
      have hpq : p1 = q1 := by have := R.hr.symm.trans R.hs; cases this; rfl
      subst hpq
      have HF : Hid (JoinPost ps G vis x y ok w (.returned (.bool true)) w2) := Lib.hid ((JoinPost.of R (.same R.al.good r) R.gs (.refl _ _)).ok_ HO.out)
      have heq := guess_same p1 w2
      clear R HP HI HM HO HG
      go_wp2_with fail
      go_ret
      exact HF.out
    · have hpq : ¬ p1 = q1 := fun e => hrs (R.gs.inj _ _ _ R.hr (e ▸ R.hs))
      obtain ⟨d1, hd1, hr1⟩ := R.rr
      obtain ⟨d2, hd2, hr2⟩ := R.rs
      obtain ⟨sm1, kd1, fr1, to1, hb1, hl1⟩ := R.gs.at_ _ _ _ R.hr hd1
      obtain ⟨sm2, kd2, fr2, to2, hb2, hl2⟩ := R.gs.at_ _ _ _ R.hs hd2
      have c10 := hb1.cell 0
      have c11 := hb1.cell 1
      have c12 := hb1.cell 2
      have c13 := hb1.cell 3
      have f10 := hb1.frozen 0
      have c20 := hb2.cell 0
      have c21 := hb2.cell 1
      have c22 := hb2.cell 2
      have c23 := hb2.cell 3
      have f20 := hb2.frozen 0
      simp only [gcells, List.getElem?_toArray, List.getElem?_cons_zero, List.getElem?_cons_succ] at c10 c11 c12 c13 c20 c21 c22 c23
      have hqp : ¬ q1 = p1 := fun e => hpq e.symm
      have HR := Lib.hid R
      have HRS := Lib.hid hrs
      have HD1 := Lib.hid hd1
      have HD2 := Lib.hid hd2
      have HR1 := Lib.hid hr1
      have HR2 := Lib.hid hr2
      have heq := guess_other hpq hb1 hb2
      clear R hrs hd1 hd2 hr1 hr2 hb1 hb2
      by_cases ho1 : d1 = .open_
      · subst ho1
        obtain ⟨rfl, rfl⟩ := hl1
        have HF : Hid (JoinPost ps G vis x y ok w (.returned (.bool true)) (w2.setCell (at0 p1) (.pointer (some (at0 q1))))) :=
          Lib.hid ((JoinPost.of HR.out (.open_ HR.out.al.good HD1.out HD2.out HR2.out HRS.out) (HR.out.gs.link HR.out.hr HR.out.hs) ((Turns.refl _ _).set_ HP.out.1 _)).ok_ HO.out)
        clear HI HM HO HG hl2
        go_wp2_with fail
        go_ret
        exact HF.out
      · by_cases ho2 : d2 = .open_
        · subst ho2
          obtain ⟨rfl, rfl⟩ := hl2
          have hk1 : ¬ kd1 = 0 := by
            cases d1 with
            | open_ => exact (ho1 rfl).elim
            | tree => rw [hl1.2]; decide
            | arrow a b => rw [hl1.2.1]; decide
            | link z => cases HR1.out
          have HF : Hid (JoinPost ps G vis x y ok w (.returned (.bool true)) (w2.setCell (at0 q1) (.pointer (some (at0 p1))))) :=
            Lib.hid ((JoinPost.of HR.out (Joined.open_ HR.out.al.good HD2.out HD1.out HR1.out (Ne.symm HRS.out)).swap (HR.out.gs.link HR.out.hs HR.out.hr) ((Turns.refl _ _).set_ HP.out.2 _)).ok_ HO.out)
          clear HI HM HO HG hl1 ho1
          go_wp2_with fail
          go_ret
          exact HF.out
        · cases d1 with
          | open_ => exact (ho1 rfl).elim
          | link z => cases HR1.out
          | tree =>
            obtain ⟨rfl, rfl⟩ := hl1
            cases d2 with
            | open_ => exact (ho2 rfl).elim
            | link z => cases HR2.out
            | tree =>
              obtain ⟨rfl, rfl⟩ := hl2
              have HF : Hid (∀ n, JoinPost ps G vis x y ok w (.returned (.bool true)) (((w2.setCell (at0 p1) (.pointer (some (at0 q1)))).drew).drewN n)) :=
                Lib.hid fun n => ((JoinPost.of HR.out (.tree HR.out.al.good HD1.out HD2.out HRS.out) ((HR.out.gs.link HR.out.hr HR.out.hs).drew.drewN n) (((Turns.refl _ _).set_ HP.out.1 _).drew.drewN n)).ok_ HO.out)
              clear HI HM HO HG ho1 ho2
              go_wp2_with fail
              go_region
              go_wp2_with fail
              go_quiet (fail)
              go_wp2_with fail
              go_ret
              exact HF.out _
            | arrow a b =>
              obtain ⟨rfl, rfl, _⟩ := hl2
              have HF : Hid (JoinPost ps G vis x y ok w (.returned (.bool false)) w2.drew) :=
                Lib.hid ((JoinPost.of HR.out (.differ1 HR.out.al.good HD1.out HD2.out) HR.out.gs.drew (Turns.refl _ _).drew).ok_ HO.out)
              clear HI HM HO HG ho1 ho2
              go_wp2_with fail
              go_region
              go_wp2_with fail
              go_ret
              exact HF.out
          | arrow a b =>
            obtain ⟨rfl, rfl, ⟨pa, hpa, rfl⟩, pb, hpb, rfl⟩ := hl1
            cases d2 with
            | open_ => exact (ho2 rfl).elim
            | link z => cases HR2.out
            | tree =>
              obtain ⟨rfl, rfl⟩ := hl2
              have HF : Hid (JoinPost ps G vis x y ok w (.returned (.bool false)) w2.drew) :=
                Lib.hid ((JoinPost.of HR.out (Joined.differ1 HR.out.al.good HD2.out HD1.out).swap HR.out.gs.drew (Turns.refl _ _).drew).ok_ HO.out)
              clear HI HM HO HG ho1 ho2 hpa hpb
              go_wp2_with fail
              go_region
              go_wp2_with fail
              go_ret
              exact HF.out
            | arrow c d =>
              obtain ⟨rfl, rfl, ⟨pc, hpc, rfl⟩, pd, hpd, rfl⟩ := hl2
              have hr3 : roots (G2.set r (.link s)) ≤ m := by
                have h1 := roots_set (e := .link s) HD1.out
                have h2 := HR.out.al.roots
                have h3 := HM.out
                simp [Nd.root] at h1
                omega
              have hg3 : Good (G2.set r (.link s)) := HR.out.al.good.linked HD1.out rfl HD2.out rfl HRS.out
              obtain ⟨ok1, hok1⟩ := Unifies.bool (G2.set r (.link s)) a c
              have HOK : Hid (ok = true ↔ Unifies G2 r s) := Lib.hid (by
                rw [HO.out]
                constructor
                · rintro ⟨v, h1, h2⟩
                  exact ⟨v, (HR.out.al.sol v).2 h1, by rw [← HR.out.ex v h1, ← HR.out.ey v h1]; exact h2⟩
                · rintro ⟨v, h1, h2⟩
                  have h3 := (HR.out.al.sol v).1 h1
                  exact ⟨v, h3, by rw [HR.out.ex v h3, HR.out.ey v h3]; exact h2⟩)
              generalize hK1 : (fun W => Gs W ps (G2.set r (.link s)) vis ∧ Turns ps w2 W) = K1
              generalize hK2 : (fun W => ∃ G4, Joined (G2.set r (.link s)) G4 a c ok1 ∧ Gs W ps G4 vis ∧ Turns ps w2 W) = K2
              have of1 : ∀ W, K1 W → Gs W ps (G2.set r (.link s)) vis ∧ Turns ps w2 W := fun W h => by rw [← hK1] at h; exact h
              have of2 : ∀ W, K2 W → ∃ G4, Joined (G2.set r (.link s)) G4 a c ok1 ∧ Gs W ps G4 vis ∧ Turns ps w2 W := fun W h => by rw [← hK2] at h; exact h
              have HC1 := Lib.hid (fun W (h : K1 W) => (HI.out ps (G2.set r (.link s)) vis a c pa pc ok1 W hr3 hg3 (of1 W h).1 hpa hpc hok1).mono fun e w' ⟨he, G4, j, g4, t4⟩ =>
                (⟨he, by rw [← hK2]; exact ⟨G4, j, g4, (of1 W h).2.trans t4⟩⟩ : e = _ ∧ K2 w'))
              have HF1 : Hid (ok1 = false → ∀ W, K2 W → JoinPost ps G vis x y ok w (.returned (.bool false)) W) := Lib.hid fun h1 W h => by
                obtain ⟨G4, j, g4, t4⟩ := of2 W h
                subst h1
                exact (JoinPost.of HR.out (Joined.arrowsNo HD1.out HD2.out j) g4 t4).ok_ HO.out
              have HC2 : Hid (ok1 = true → ∀ W, K2 W → Calls Tryd.prog 61 #[.pointer (some (at0 pb)), .pointer (some (at0 pd))] W fun e w' => e = Ending.returned (.bool ok) ∧ JoinPost ps G vis x y ok w (.returned (.bool ok)) w' ∧ Turns ps w2 w') := Lib.hid fun h1 W h => by
                obtain ⟨G4, j, g4, t4⟩ := of2 W h
                subst h1
                have hr4 := j.roots
                exact (HI.out ps G4 vis b d pb pd ok W (by omega) j.good g4 hpb hpd (Joined.second HD1.out HD2.out HRS.out j HOK.out)).mono fun e w' ⟨he, G5, j5, g5, t5⟩ =>
                  ⟨he, (JoinPost.of HR.out (Joined.arrows HD1.out HD2.out HRS.out j j5) g5 (t4.trans t5)).ok_ HO.out, t4.trans t5⟩
              have HS : Hid (∀ W, Turns ps w2 W → (W.cell? ⟨p1, 1, none⟩ = some (.int .i64 2) ∧ W.cell? ⟨p1, 2, none⟩ = some (.pointer (some (at0 pa))) ∧ W.cell? ⟨p1, 3, none⟩ = some (.pointer (some (at0 pb)))) ∧
                  W.cell? ⟨q1, 2, none⟩ = some (.pointer (some (at0 pc))) ∧ W.cell? ⟨q1, 3, none⟩ = some (.pointer (some (at0 pd)))) := Lib.hid fun W t => by
                have e := fun i hi => t.rest p1 HP.out.1 i hi
                have e' := fun i hi => t.rest q1 HP.out.2 i hi
                exact ⟨⟨(e 1 (by decide)).trans c11, (e 2 (by decide)).trans c12, (e 3 (by decide)).trans c13⟩, (e' 2 (by decide)).trans c22, (e' 3 (by decide)).trans c23⟩
              have HS1 := Lib.hid (fun W (h : K1 W) => HS.out W (of1 W h).2)
              have HS2 := Lib.hid (fun W (h : K2 W) => HS.out W (by obtain ⟨_, _, _, t⟩ := of2 W h; exact t))
              have k1 : K1 ((w2.setCell (at0 p1) (.pointer (some (at0 q1)))).drew.drew) := by rw [← hK1]; exact ⟨(HR.out.gs.link HR.out.hr HR.out.hs).drew.drew, ((Turns.refl _ _).set_ HP.out.1 _).drew.drew⟩
              clear hok1 hr3 hg3 hK1 hK2 of1 of2 HI HM HO HG HOK HR HRS HD1 HD2 HR1 HR2 HP hpa hpb hpc hpd ho1 ho2
              go_wp2_with fail
              go_region
              go_wp2_with fail
              generalize JoinPost ps G vis x y ok w = JP at *
              cases ok1 with
              | false =>
                refine wp_region_held_drew (S := (fun w' => (w'.cell? ⟨p1, 1, none⟩ = some (.int .i64 2) ∧ w'.cell? ⟨p1, 2, none⟩ = some (.pointer (some (at0 pa))) ∧ w'.cell? ⟨p1, 3, none⟩ = some (.pointer (some (at0 pb)))) ∧ w'.cell? ⟨q1, 2, none⟩ = some (.pointer (some (at0 pc))) ∧ w'.cell? ⟨q1, 3, none⟩ = some (.pointer (some (at0 pd))))) (by kernel_rfl) (HS1.out _ k1) (fun hHeld => ?_)
                refine wpAnyH_take (i := 0) (oi := { dst := some 47, op := Op.move (Operand.tmp 0), type := 76, pos := "solve.go:61", after := #[], guard := none }) (v := ?_) rfl (by kernel_rfl) (by kernel_rfl) (by kernel_rfl) (fun _ _ _ h => h) (Or.inl ⟨by kernel_rfl, ?_⟩) (by assumption) ?_
                rotate_left 1
                · intro w hSw
                  (try dsimp only at hSw)
                  go_simp <;> with_reducible rfl
                try simp only [Act.put]
                refine wpAnyH_take (i := 1) (oi := { dst := some 48, op := Op.nilCheck (Operand.tmp 47), type := 0, pos := "solve.go:61", after := #[{ on := 0, ground := Ground.data }], guard := none }) (v := ?_) rfl (by kernel_rfl) (by kernel_rfl) (by kernel_rfl) (fun _ _ _ h => h) (Or.inl ⟨by kernel_rfl, ?_⟩) (by assumption) ?_
                rotate_left 1
                · intro w hSw
                  (try dsimp only at hSw)
                  go_simp <;> with_reducible rfl
                try simp only [Act.put]
                refine wpAnyH_take (i := 2) (oi := { dst := some 49, op := Op.fieldAddr 116 (Operand.tmp 48) 1, type := 0, pos := "solve.go:61", after := #[{ on := 1, ground := Ground.data }], guard := none }) (v := ?_) rfl (by kernel_rfl) (by kernel_rfl) (by kernel_rfl) (fun _ _ _ h => h) (Or.inl ⟨by kernel_rfl, ?_⟩) (by assumption) ?_
                rotate_left 1
                · intro w hSw
                  (try dsimp only at hSw)
                  go_simp <;> with_reducible rfl
                try simp only [Act.put]
                refine wpAnyH_take (i := 3) (oi := { dst := some 50, op := Op.load 3 (Operand.tmp 49), type := 3, pos := "solve.go:61", after := #[{ on := 2, ground := Ground.data }], guard := none }) (v := ?_) rfl (by kernel_rfl) (by kernel_rfl) (by kernel_rfl) (fun _ _ _ h => h) (Or.inl ⟨by kernel_rfl, ?_⟩) (by assumption) ?_
                rotate_left 1
                · intro w hSw
                  (try dsimp only at hSw)
                  go_simp <;> with_reducible rfl
                try simp only [Act.put]
                refine wpAnyH_take (i := 4) (oi := { dst := some 51, op := Op.binOp BinOp.eql 3 (Operand.tmp 50) (Operand.const (Value.int IntKind.i64 1)) 3, type := 4, pos := "solve.go:61", after := #[{ on := 3, ground := Ground.data }], guard := none }) (v := ?_) rfl (by kernel_rfl) (by kernel_rfl) (by kernel_rfl) (fun _ _ _ h => h) (Or.inl ⟨by kernel_rfl, ?_⟩) (by assumption) ?_
                rotate_left 1
                · intro w hSw
                  (try dsimp only at hSw)
                  go_simp <;> with_reducible rfl
                try simp only [Act.put]
                refine wpAnyH_take (i := 5) (oi := { dst := some 52, op := Op.move (Operand.tmp 51), type := 4, pos := "solve.go:61", after := #[{ on := 4, ground := Ground.data }], guard := none }) (v := ?_) rfl (by kernel_rfl) (by kernel_rfl) (by kernel_rfl) (fun _ _ _ h => h) (Or.inl ⟨by kernel_rfl, ?_⟩) (by assumption) ?_
                rotate_left 1
                · intro w hSw
                  (try dsimp only at hSw)
                  go_simp <;> with_reducible rfl
                try simp only [Act.put]
                refine wpAnyH_take (i := 6) (oi := { dst := some 53, op := Op.move (Operand.tmp 0), type := 76, pos := "solve.go:61", after := #[{ on := 5, ground := Ground.guard }], guard := some (5, false) }) (v := ?_) rfl (by kernel_rfl) (by kernel_rfl) (by kernel_rfl) (fun _ _ _ h => h) (Or.inl ⟨by kernel_rfl, ?_⟩) (by assumption) ?_
                rotate_left 1
                · intro w hSw
                  (try dsimp only at hSw)
                  go_simp <;> with_reducible rfl
                try simp only [Act.put]
                refine wpAnyH_take (i := 7) (oi := { dst := some 54, op := Op.nilCheck (Operand.tmp 53), type := 0, pos := "solve.go:61", after := #[{ on := 6, ground := Ground.data }, { on := 5, ground := Ground.guard }], guard := some (5, false) }) (v := ?_) rfl (by kernel_rfl) (by kernel_rfl) (by kernel_rfl) (fun _ _ _ h => h) (Or.inl ⟨by kernel_rfl, ?_⟩) (by assumption) ?_
                rotate_left 1
                · intro w hSw
                  (try dsimp only at hSw)
                  go_simp <;> with_reducible rfl
                try simp only [Act.put]
                refine wpAnyH_take (i := 8) (oi := { dst := some 55, op := Op.fieldAddr 116 (Operand.tmp 54) 2, type := 0, pos := "solve.go:61", after := #[{ on := 7, ground := Ground.data }, { on := 5, ground := Ground.guard }], guard := some (5, false) }) (v := ?_) rfl (by kernel_rfl) (by kernel_rfl) (by kernel_rfl) (fun _ _ _ h => h) (Or.inl ⟨by kernel_rfl, ?_⟩) (by assumption) ?_
                rotate_left 1
                · intro w hSw
                  (try dsimp only at hSw)
                  go_simp <;> with_reducible rfl
                try simp only [Act.put]
                refine wpAnyH_take (i := 9) (oi := { dst := some 56, op := Op.load 76 (Operand.tmp 55), type := 76, pos := "solve.go:61", after := #[{ on := 8, ground := Ground.data }, { on := 5, ground := Ground.guard }], guard := some (5, false) }) (v := ?_) rfl (by kernel_rfl) (by kernel_rfl) (by kernel_rfl) (fun _ _ _ h => h) (Or.inl ⟨by kernel_rfl, ?_⟩) (by assumption) ?_
                rotate_left 1
                · intro w hSw
                  (try dsimp only at hSw)
                  go_simp <;> with_reducible rfl
                try simp only [Act.put]
                refine wpAnyH_take (i := 10) (oi := { dst := some 57, op := Op.move (Operand.tmp 1), type := 76, pos := "solve.go:61", after := #[{ on := 5, ground := Ground.guard }], guard := some (5, false) }) (v := ?_) rfl (by kernel_rfl) (by kernel_rfl) (by kernel_rfl) (fun _ _ _ h => h) (Or.inl ⟨by kernel_rfl, ?_⟩) (by assumption) ?_
                rotate_left 1
                · intro w hSw
                  (try dsimp only at hSw)
                  go_simp <;> with_reducible rfl
                try simp only [Act.put]
                refine wpAnyH_take (i := 11) (oi := { dst := some 58, op := Op.nilCheck (Operand.tmp 57), type := 0, pos := "solve.go:61", after := #[{ on := 10, ground := Ground.data }, { on := 5, ground := Ground.guard }], guard := some (5, false) }) (v := ?_) rfl (by kernel_rfl) (by kernel_rfl) (by kernel_rfl) (fun _ _ _ h => h) (Or.inl ⟨by kernel_rfl, ?_⟩) (by assumption) ?_
                rotate_left 1
                · intro w hSw
                  (try dsimp only at hSw)
                  go_simp <;> with_reducible rfl
                try simp only [Act.put]
                refine wpAnyH_take (i := 12) (oi := { dst := some 59, op := Op.fieldAddr 116 (Operand.tmp 58) 2, type := 0, pos := "solve.go:61", after := #[{ on := 11, ground := Ground.data }, { on := 5, ground := Ground.guard }], guard := some (5, false) }) (v := ?_) rfl (by kernel_rfl) (by kernel_rfl) (by kernel_rfl) (fun _ _ _ h => h) (Or.inl ⟨by kernel_rfl, ?_⟩) (by assumption) ?_
                rotate_left 1
                · intro w hSw
                  (try dsimp only at hSw)
                  go_simp <;> with_reducible rfl
                try simp only [Act.put]
                refine wpAnyH_take (i := 13) (oi := { dst := some 60, op := Op.load 76 (Operand.tmp 59), type := 76, pos := "solve.go:61", after := #[{ on := 12, ground := Ground.data }, { on := 5, ground := Ground.guard }], guard := some (5, false) }) (v := ?_) rfl (by kernel_rfl) (by kernel_rfl) (by kernel_rfl) (fun _ _ _ h => h) (Or.inl ⟨by kernel_rfl, ?_⟩) (by assumption) ?_
                rotate_left 1
                · intro w hSw
                  (try dsimp only at hSw)
                  go_simp <;> with_reducible rfl
                try simp only [Act.put]
                refine wpAnyH_ready (rs := [14]) (by kernel_rfl) (by simp) ?_
                refine AllReadyH.cons (o := { dst := some 61, op := Op.call { callee := Callee.value (Operand.func 61), args := #[Operand.tmp 56, Operand.tmp 60], argTypes := #[76, 76] }, type := 4, pos := "solve.go:61", after := #[{ on := 9, ground := Ground.data }, { on := 13, ground := Ground.data }, { on := 5, ground := Ground.chain }, { on := 5, ground := Ground.guard }], guard := some (5, false) }) rfl (fun K hK => ?_) ?_
                · skip
                  go_simp
                  go_at_call 61
                  refine (HC1.out _ k1).mono ?_
                  rintro e W1 ⟨rfl, K2W⟩
                  have C1 := HS2.out _ K2W
                  go_wp2_with fail
                  refine hK.out _ _ C1 (fun hHeld => ?_)
                  clear hK K
                  try simp only [Act.put]
                  refine wpAnyH_take (i := 15) (oi := { dst := some 62, op := Op.move (Operand.tmp 61), type := 4, pos := "solve.go:61", after := #[{ on := 14, ground := Ground.data }, { on := 14, ground := Ground.chain }, { on := 5, ground := Ground.guard }], guard := some (5, false) }) (v := ?_) rfl (by kernel_rfl) (by kernel_rfl) (by kernel_rfl) (fun _ _ _ h => h) (Or.inl ⟨by kernel_rfl, ?_⟩) (by assumption) ?_
                  rotate_left 1
                  · intro w hSw
                    (try dsimp only at hSw)
                    go_simp <;> with_reducible rfl
                  try simp only [Act.put]
                  refine wpAnyH_take (i := 16) (oi := { dst := some 63, op := Op.move (Operand.tmp 0), type := 76, pos := "solve.go:61", after := #[{ on := 15, ground := Ground.guard }], guard := some (15, true) }) (v := undef) rfl (by kernel_rfl) (by kernel_rfl) (by kernel_rfl) (fun _ _ _ h => h) (Or.inr ⟨by kernel_rfl, rfl⟩) (by assumption) ?_
                  try simp only [Act.put]
                  refine wpAnyH_take (i := 17) (oi := { dst := some 64, op := Op.nilCheck (Operand.tmp 63), type := 0, pos := "solve.go:61", after := #[{ on := 16, ground := Ground.data }, { on := 15, ground := Ground.guard }], guard := some (15, true) }) (v := undef) rfl (by kernel_rfl) (by kernel_rfl) (by kernel_rfl) (fun _ _ _ h => h) (Or.inr ⟨by kernel_rfl, rfl⟩) (by assumption) ?_
                  try simp only [Act.put]
                  refine wpAnyH_take (i := 18) (oi := { dst := some 65, op := Op.fieldAddr 116 (Operand.tmp 64) 3, type := 0, pos := "solve.go:61", after := #[{ on := 17, ground := Ground.data }, { on := 15, ground := Ground.guard }], guard := some (15, true) }) (v := undef) rfl (by kernel_rfl) (by kernel_rfl) (by kernel_rfl) (fun _ _ _ h => h) (Or.inr ⟨by kernel_rfl, rfl⟩) (by assumption) ?_
                  try simp only [Act.put]
                  refine wpAnyH_take (i := 19) (oi := { dst := some 66, op := Op.load 76 (Operand.tmp 65), type := 76, pos := "solve.go:61", after := #[{ on := 18, ground := Ground.data }, { on := 15, ground := Ground.guard }], guard := some (15, true) }) (v := undef) rfl (by kernel_rfl) (by kernel_rfl) (by kernel_rfl) (fun _ _ _ h => h) (Or.inr ⟨by kernel_rfl, rfl⟩) (by assumption) ?_
                  try simp only [Act.put]
                  refine wpAnyH_take (i := 20) (oi := { dst := some 67, op := Op.move (Operand.tmp 1), type := 76, pos := "solve.go:61", after := #[{ on := 15, ground := Ground.guard }], guard := some (15, true) }) (v := undef) rfl (by kernel_rfl) (by kernel_rfl) (by kernel_rfl) (fun _ _ _ h => h) (Or.inr ⟨by kernel_rfl, rfl⟩) (by assumption) ?_
                  try simp only [Act.put]
                  refine wpAnyH_take (i := 21) (oi := { dst := some 68, op := Op.nilCheck (Operand.tmp 67), type := 0, pos := "solve.go:61", after := #[{ on := 20, ground := Ground.data }, { on := 15, ground := Ground.guard }], guard := some (15, true) }) (v := undef) rfl (by kernel_rfl) (by kernel_rfl) (by kernel_rfl) (fun _ _ _ h => h) (Or.inr ⟨by kernel_rfl, rfl⟩) (by assumption) ?_
                  try simp only [Act.put]
                  refine wpAnyH_take (i := 22) (oi := { dst := some 69, op := Op.fieldAddr 116 (Operand.tmp 68) 3, type := 0, pos := "solve.go:61", after := #[{ on := 21, ground := Ground.data }, { on := 15, ground := Ground.guard }], guard := some (15, true) }) (v := undef) rfl (by kernel_rfl) (by kernel_rfl) (by kernel_rfl) (fun _ _ _ h => h) (Or.inr ⟨by kernel_rfl, rfl⟩) (by assumption) ?_
                  try simp only [Act.put]
                  refine wpAnyH_take (i := 23) (oi := { dst := some 70, op := Op.load 76 (Operand.tmp 69), type := 76, pos := "solve.go:61", after := #[{ on := 22, ground := Ground.data }, { on := 15, ground := Ground.guard }], guard := some (15, true) }) (v := undef) rfl (by kernel_rfl) (by kernel_rfl) (by kernel_rfl) (fun _ _ _ h => h) (Or.inr ⟨by kernel_rfl, rfl⟩) (by assumption) ?_
                  try simp only [Act.put]
                  refine wpAnyH_take (i := 24) (oi := { dst := some 71, op := Op.call { callee := Callee.value (Operand.func 61), args := #[Operand.tmp 66, Operand.tmp 70], argTypes := #[76, 76] }, type := 4, pos := "solve.go:61", after := #[{ on := 19, ground := Ground.data }, { on := 23, ground := Ground.data }, { on := 15, ground := Ground.chain }, { on := 15, ground := Ground.guard }], guard := some (15, true) }) (v := undef) rfl (by kernel_rfl) (by kernel_rfl) (by kernel_rfl) (fun _ _ _ h => h) (Or.inr ⟨by kernel_rfl, rfl⟩) (by assumption) ?_
                  try simp only [Act.put]
                  refine wpAnyH_take (i := 25) (oi := { dst := some 72, op := Op.pick (Operand.tmp 62) (Operand.tmp 71) (Operand.const (Value.bool false)), type := 4, pos := "solve.go:61", after := #[{ on := 15, ground := Ground.data }, { on := 24, ground := Ground.data }, { on := 5, ground := Ground.guard }], guard := some (5, false) }) (v := ?_) rfl (by kernel_rfl) (by kernel_rfl) (by kernel_rfl) (fun _ _ _ h => h) (Or.inl ⟨by kernel_rfl, ?_⟩) (by assumption) ?_
                  rotate_left 1
                  · intro w hSw
                    (try dsimp only at hSw)
                    go_simp <;> with_reducible rfl
                  try simp only [Act.put]
                  refine wpAnyH_take (i := 26) (oi := { dst := some 73, op := Op.pick (Operand.tmp 52) (Operand.const (Value.bool true)) (Operand.tmp 72), type := 4, pos := "solve.go:61", after := #[{ on := 5, ground := Ground.data }, { on := 25, ground := Ground.data }], guard := none }) (v := ?_) rfl (by kernel_rfl) (by kernel_rfl) (by kernel_rfl) (fun _ _ _ h => h) (Or.inl ⟨by kernel_rfl, ?_⟩) (by assumption) ?_
                  rotate_left 1
                  · intro w hSw
                    (try dsimp only at hSw)
                    go_simp <;> with_reducible rfl
                  try simp only [Act.put]
                  refine wpAnyH_take (i := 27) (oi := { dst := some 4, op := Op.assign (Operand.tmp 73), type := 4, pos := "solve.go:61", after := _, guard := none }) (v := ?_) rfl (by kernel_rfl) (by kernel_rfl) (by kernel_rfl) (fun _ _ _ h => h) (Or.inl ⟨by kernel_rfl, ?_⟩) (by assumption) ?_
                  rotate_left 1
                  · intro w hSw
                    (try dsimp only at hSw)
                    go_simp <;> with_reducible rfl
                  try simp only [Act.put]
                  refine wpAnyH_done (by kernel_rfl) ?_ _
                  go_wp2_with fail
                  simp only [List.setIfInBounds_toArray, List.set_cons_zero, List.set_cons_succ]
                  exact HF1.out trivial _ K2W
                exact AllReadyH.nil
              | true =>
                have HC3 := Lib.hid (HC2.out rfl)
                clear HC2
                go_region_held3 (fun w' => (w'.cell? ⟨p1, 1, none⟩ = some (.int .i64 2) ∧ w'.cell? ⟨p1, 2, none⟩ = some (.pointer (some (at0 pa))) ∧ w'.cell? ⟨p1, 3, none⟩ = some (.pointer (some (at0 pb)))) ∧ w'.cell? ⟨q1, 2, none⟩ = some (.pointer (some (at0 pc))) ∧ w'.cell? ⟨q1, 3, none⟩ = some (.pointer (some (at0 pd))))
                  (first
                    | exact HS1.out _ (by assumption)
                    | exact HS2.out _ (by assumption)
                    | exact HS.out _ (by assumption)
                    | go_keep
                    | assumption)
                  (first
                    | (go_at_call 61; ((with_reducible refine (HC1.out _ (by assumption)).mono ?_); rintro e W1 ⟨rfl, K2W⟩; have C1 := HS2.out _ K2W))
                    | (go_at_call 61; ((with_reducible refine (HC3.out _ (by assumption)).mono ?_); rintro e W2 ⟨rfl, FW, TW⟩; have C2 := HS.out _ TW)))
                all_goals
                  go_wp2_with fail
                  exact FW
end Go.Proofs.YtkkfdiidneoelaaDoor
