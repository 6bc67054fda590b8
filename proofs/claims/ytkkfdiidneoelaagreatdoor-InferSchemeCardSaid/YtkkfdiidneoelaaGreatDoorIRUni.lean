/-
  The reference's unify: a contract.
-/
import Derived.Test.YtkkfdiidneoelaaGreatDoorIRAdd
namespace Go.Proofs.YtkkfdiidneoelaaGreatDoor
open Go.RowKit

/-- What unify answers. -/
def UniPost (p : Nat) (G : Gr) (v : Value) (x y : Nat) (ok : Bool) (w : World) (e : Ending) (w' : World) : Prop :=
  e = .returned (.bool ok) ∧ ∃ G', Joined G G' x y ok ∧ RG p w' G' v ∧ RT p w v w' v
theorem UniPost.of {p : Nat} {G G2 : Gr} {v : Value} {x y r s k l : Nat} {ok ok' : Bool} {w w' : World} (hG : Good G) (hx : Ends G x r k) (hy : Ends G y s l) (j : Joined G G2 r s ok) (hok : ok' = true ↔ Unifies G x y) (hg : RG p w' G2 v) (ht : RT p w v w' v) :
    UniPost p G v x y ok' w (.returned (.bool ok)) w' := by
  have j' := j.ahead (.refl hG) hx hy
  have e : ok = ok' := by rw [Bool.eq_iff_iff, j'.iff, hok]
  subst e
  exact ⟨rfl, G2, j', hg, ht⟩
theorem Unifies.root {G : Gr} {x y r s k l : Nat} (hx : Ends G x r k) (hy : Ends G y s l) : Unifies G x y ↔ Unifies G r s := by
  constructor
  · rintro ⟨v, h1, h2⟩; exact ⟨v, h1, by rw [← h1.ends hx, ← h1.ends hy]; exact h2⟩
  · rintro ⟨v, h1, h2⟩; exact ⟨v, h1, by rw [h1.ends hx, h1.ends hy]; exact h2⟩
theorem three_of {w : World} {g : Nat} {t : TypeId} {a b c : Value} (h : Blk w g t #[a, b, c]) : w.cell? ⟨g, 0, none⟩ = some a ∧ w.cell? ⟨g, 1, none⟩ = some b ∧ w.cell? ⟨g, 2, none⟩ = some c := ⟨h.cell 0, h.cell 1, h.cell 2⟩
theorem nd_open {d : Nd} (h : d ≠ .open_) : (((d.kd : Nat) : Int) == 0) = false := by
  cases d with
  | open_ => exact (h rfl).elim
  | tree => rfl
  | arrow a b => rfl
  | link a => rfl
theorem nd_differ {G : Gr} {r s : Nat} {d1 d2 : Nd} (hG : Good G) (h1 : G[r]? = some d1) (h2 : G[s]? = some d2) (r1 : d1.root = true) (r2 : d2.root = true) (o1 : d1 ≠ .open_) (o2 : d2 ≠ .open_) (hk : ¬ d1.kd = d2.kd) : Joined G G r s false := by
  cases d1 with
  | open_ => exact (o1 rfl).elim
  | link a => cases r1
  | tree =>
    cases d2 with
    | open_ => exact (o2 rfl).elim
    | link a => cases r2
    | tree => exact (hk rfl).elim
    | arrow a b => exact .differ1 hG h1 h2
  | arrow a b =>
    cases d2 with
    | open_ => exact (o2 rfl).elim
    | link a => cases r2
    | tree => exact (Joined.differ1 hG h2 h1).swap
    | arrow a b => exact (hk rfl).elim
theorem nd_same {d1 d2 : Nd} (r1 : d1.root = true) (r2 : d2.root = true) (o1 : d1 ≠ .open_) (o2 : d2 ≠ .open_) (hk : d1.kd = d2.kd) : (d1 = .tree ∧ d2 = .tree) ∨ ∃ a b a' b', d1 = .arrow a b ∧ d2 = .arrow a' b' := by
  cases d1 with
  | open_ => exact (o1 rfl).elim
  | link a => cases r1
  | tree =>
    cases d2 with
    | open_ => exact (o2 rfl).elim
    | link a => cases r2
    | tree => exact .inl ⟨rfl, rfl⟩
    | arrow a b => cases hk
  | arrow a b =>
    cases d2 with
    | open_ => exact (o2 rfl).elim
    | link a => cases r2
    | tree => cases hk
    | arrow a' b' => exact .inr ⟨_, _, _, _, rfl, rfl⟩

set_option maxRecDepth 100000 in
set_option maxHeartbeats 3200000 in
theorem uniR_any (p m : Nat) : ∀ (G : Gr) (v : Value) (x y : Nat) (xi yi : Int) (ok : Bool) (w : World), roots G ≤ m → Good G → RG p w G v → x < G.length → y < G.length → xi = (x : Int) → yi = (y : Int) → (ok = true ↔ Unifies G x y) →
    Calls Tryz.prog 74 #[.pointer (some (at0 p)), .int .i64 xi, .int .i64 yi] w (UniPost p G v x y ok w) := by
  induction m with
  | zero =>
    intro G v x y xi yi ok w hm hG _ hx
    obtain ⟨r, k, he⟩ := hG.ends x hx
    obtain ⟨d, h1, h2⟩ := he.at_
    have := roots_pos h1 h2
    omega
  | succ m ih =>
    intro G v x y xi yi ok w hm hG hg hx hy hxi hyi hok
    subst hxi hyi
    obtain ⟨r, k, he⟩ := hG.ends x hx
    obtain ⟨s, l, hf⟩ := hG.ends y hy
    obtain ⟨d1, hd1, hr1⟩ := he.at_
    obtain ⟨d2, hd2, hr2⟩ := hf.at_
    obtain ⟨gr, c, rfl, hgp, hgl, c10, c11, c12, hfz⟩ := hg.cell hd1
    obtain ⟨c20, c21, c22⟩ := hg.cells hd2
    have c0 := hg.box.cell 0
    simp at c0
    have hpl := hg.box.lt
    have hrl := he.lt.2
    have hsl := hf.lt.2
    have HC1 := Lib.hid (endR_any p G _ x r k _ w rfl hg he)
    have HC2 := Lib.hid (endR_any p G _ y s l _ w rfl hg hf)
    have HI := Lib.hid ih
    have HM := Lib.hid hm
    have HO := Lib.hid hok
    have HG := Lib.hid hG
    have HE := Lib.hid (⟨he, hf⟩ : Ends G x r k ∧ Ends G y s l)
    have HGS := Lib.hid hg
    have HD := Lib.hid (⟨hd1, hd2, hr1, hr2⟩ : G[r]? = some d1 ∧ G[s]? = some d2 ∧ d1.root = true ∧ d2.root = true)
    clear ih hm hok hG he hf hg hd1 hd2 hr1 hr2
    by_cases hrs : r = s
    · subst hrs
      have HF : Hid (UniPost p G (.slice (some ⟨gr, 0, none⟩) G.length c) x y ok w (.returned (.bool true)) w) := Lib.hid (UniPost.of HG.out HE.out.1 HE.out.2 (.same HG.out r) HO.out HGS.out (RT.refl _ _ _))
      have g : ((r : Int) == (r : Int)) = true := by simp
      clear HI HM HO HG HE HGS HD
      go_enter Tryz.func74, Tryz.ntmps74
      go_wp2_with fail
      refine HC1.out.mono ?_
      rintro e w1 ⟨rfl, rfl⟩
      go_wp2_with fail
      refine HC2.out.mono ?_
      rintro e w1 ⟨rfl, rfl⟩
      go_wp2_with fail
      go_ret
      exact HF.out
    have g : ((r : Int) == (s : Int)) = false := by simp; omega
    have HRS := Lib.hid hrs
    clear hrs
    go_enter Tryz.func74, Tryz.ntmps74
    go_wp2_with fail
    refine HC1.out.mono ?_
    rintro e w1 ⟨rfl, rfl⟩
    go_wp2_with fail
    refine HC2.out.mono ?_
    rintro e w1 ⟨rfl, rfl⟩
    go_wp2_with fail
    go_region
    · have hbw : Below w.heap.size w (((w.alloc (.cells #[.int .i64 (d1.kd : Int), .int .i64 (d1.fa : Int), .int .i64 (d1.fb : Int)] 201)).alloc (.cells #[.int .i64 (d2.kd : Int), .int .i64 (d2.fa : Int), .int .i64 (d2.fb : Int)] 201)).drew) := (((Below.refl _ _).alloc (Nat.le_refl _) _).alloc (by simp) _).drew
      have ha := ((Blk.new w 201 #[.int .i64 (d1.kd : Int), .int .i64 (d1.fa : Int), .int .i64 (d1.fb : Int)]).alloc (.cells #[.int .i64 (d2.kd : Int), .int .i64 (d2.fa : Int), .int .i64 (d2.fb : Int)] 201)).drew
      have hb : Blk (((w.alloc (.cells #[.int .i64 (d1.kd : Int), .int .i64 (d1.fa : Int), .int .i64 (d1.fb : Int)] 201)).alloc (.cells #[.int .i64 (d2.kd : Int), .int .i64 (d2.fa : Int), .int .i64 (d2.fb : Int)] 201)).drew) (w.heap.size + 1) 201 #[.int .i64 (d2.kd : Int), .int .i64 (d2.fa : Int), .int .i64 (d2.fb : Int)] := Blk.drew (by simpa using Blk.new (w.alloc (.cells #[.int .i64 (d1.kd : Int), .int .i64 (d1.fa : Int), .int .i64 (d1.fb : Int)] 201)) 201 #[.int .i64 (d2.kd : Int), .int .i64 (d2.fa : Int), .int .i64 (d2.fb : Int)])
      have hgW := HGS.out.below hbw
      have htW : RT p w (.slice (some ⟨gr, 0, none⟩) G.length c) _ (.slice (some ⟨gr, 0, none⟩) G.length c) := RT.of_below hbw
      generalize ((w.alloc (.cells #[.int .i64 (d1.kd : Int), .int .i64 (d1.fa : Int), .int .i64 (d1.fb : Int)] 201)).alloc (.cells #[.int .i64 (d2.kd : Int), .int .i64 (d2.fa : Int), .int .i64 (d2.fb : Int)] 201)).drew = W at *
      clear hbw
      obtain ⟨e70, e71, e72⟩ := three_of ha
      obtain ⟨e80, e81, e82⟩ := three_of hb
      have HB7 := Lib.hid ha
      have HB8 := Lib.hid hb
      clear ha hb
      obtain ⟨k10, k11, k12⟩ := hgW.cells HD.out.1
      obtain ⟨k20, k21, k22⟩ := hgW.cells HD.out.2.1
      have kb := hgW.box.cell 0
      have kf : ∀ j, W.frozen? ⟨gr, j, none⟩ = false := hgW.own.frozenAt
      have z1 := kf (r * 3)
      have z2 := kf (r * 3 + 1)
      have z3 := kf (r * 3 + 2)
      have z4 := kf (s * 3)
      have z5 := kf (s * 3 + 1)
      have z6 := kf (s * 3 + 2)
      simp at kb
      have HGW := Lib.hid hgW
      have HTW := Lib.hid htW
      clear hgW htW kf
      by_cases ho1 : d1 = .open_
      · subst ho1
        have HF : Hid (UniPost p G (.slice (some ⟨gr, 0, none⟩) G.length c) x y ok w (.returned (.bool true)) (((W.setCell ⟨gr, r * 3, none⟩ (.int .i64 3)).setCell ⟨gr, r * 3 + 1, none⟩ (.int .i64 (s : Int))).setCell ⟨gr, r * 3 + 2, none⟩ (.int .i64 0))) :=
          Lib.hid (UniPost.of HG.out HE.out.1 HE.out.2 (.open_ HG.out HD.out.1 HD.out.2.1 HD.out.2.2.2 HRS.out) HO.out (HGW.out.set_ r (.link s)) (HTW.out.trans (RT.set_ _ _ _)))
        simp only [Nd.kd] at e70 k10
        clear HI HM HO HG HE HGS HRS HTW
        go_wp2_with fail
        go_ret
        exact HF.out
      have n1 : (((d1.kd : Nat) : Int) == 0) = false := nd_open ho1
      by_cases ho2 : d2 = .open_
      · subst ho2
        have HF : Hid (UniPost p G (.slice (some ⟨gr, 0, none⟩) G.length c) x y ok w (.returned (.bool true)) (((W.setCell ⟨gr, s * 3, none⟩ (.int .i64 3)).setCell ⟨gr, s * 3 + 1, none⟩ (.int .i64 (r : Int))).setCell ⟨gr, s * 3 + 2, none⟩ (.int .i64 0))) :=
          Lib.hid (UniPost.of HG.out HE.out.1 HE.out.2 (Joined.open_ HG.out HD.out.2.1 HD.out.1 HD.out.2.2.1 (Ne.symm HRS.out)).swap HO.out (HGW.out.set_ s (.link r)) (HTW.out.trans (RT.set_ _ _ _)))
        simp only [Nd.kd] at e80 k20
        clear HI HM HO HG HE HGS HRS HTW
        go_wp2_with fail
        go_ret
        exact HF.out
      have n2 : (((d2.kd : Nat) : Int) == 0) = false := nd_open ho2
      have HP := Lib.hid (⟨ho1, ho2⟩ : d1 ≠ .open_ ∧ d2 ≠ .open_)
      clear ho1 ho2
      by_cases hkk : d1.kd = d2.kd
      case neg =>
        have n3 : (((d1.kd : Nat) : Int) != ((d2.kd : Nat) : Int)) = true := by simp; omega
        have HF : Hid (UniPost p G (.slice (some ⟨gr, 0, none⟩) G.length c) x y ok w (.returned (.bool false)) W) :=
          Lib.hid (UniPost.of HG.out HE.out.1 HE.out.2 (nd_differ HG.out HD.out.1 HD.out.2.1 HD.out.2.2.1 HD.out.2.2.2 HP.out.1 HP.out.2 hkk) HO.out HGW.out HTW.out)
        clear HI HM HO HG HE HGS HRS HTW hkk
        go_wp2_with fail
        go_ret
        exact HF.out
      have n3 : (((d1.kd : Nat) : Int) != ((d2.kd : Nat) : Int)) = false := by simp; omega
      obtain ⟨rfl, rfl⟩ | ⟨a, b, a', b', rfl, rfl⟩ := nd_same HD.out.2.2.1 HD.out.2.2.2 HP.out.1 HP.out.2 hkk
      · have HF : Hid (UniPost p G (.slice (some ⟨gr, 0, none⟩) G.length c) x y ok w (.returned (.bool true)) (((W.setCell ⟨gr, r * 3, none⟩ (.int .i64 3)).setCell ⟨gr, r * 3 + 1, none⟩ (.int .i64 (s : Int))).setCell ⟨gr, r * 3 + 2, none⟩ (.int .i64 0))) :=
          Lib.hid (UniPost.of HG.out HE.out.1 HE.out.2 (.tree HG.out HD.out.1 HD.out.2.1 HRS.out) HO.out (HGW.out.set_ r (.link s)) (HTW.out.trans (RT.set_ _ _ _)))
        simp only [Nd.kd] at e70 e80 k10 k20 n1 n2 n3
        have j7 : w.heap.size ≠ gr := by omega
        clear HI HM HO HG HE HGS HRS HTW hkk
        go_wp2_with fail
        go_ret
        exact HF.out
      have hr3 : roots (G.set r (.link s)) ≤ m := by
        have h1 := roots_set (e := .link s) HD.out.1
        have h3 := HM.out
        simp [Nd.root] at h1
        omega
      have hg3 : Good (G.set r (.link s)) := HG.out.linked HD.out.1 rfl HD.out.2.1 rfl HRS.out
      have hal := HG.out.arrow r a b HD.out.1
      have hbl := HG.out.arrow s a' b' HD.out.2.1
      obtain ⟨ok1, hok1⟩ := Unifies.bool (G.set r (.link s)) a a'
      have HOK : Hid (ok = true ↔ Unifies G r s) := Lib.hid (by rw [HO.out]; exact Unifies.root HE.out.1 HE.out.2)
      have hgL : RG p (((W.setCell ⟨gr, r * 3, none⟩ (.int .i64 3)).setCell ⟨gr, r * 3 + 1, none⟩ (.int .i64 (s : Int))).setCell ⟨gr, r * 3 + 2, none⟩ (.int .i64 0)) (G.set r (.link s)) (.slice (some ⟨gr, 0, none⟩) G.length c) := HGW.out.set_ r (.link s)
      have htL := HTW.out.trans (RT.set_ (p := p) (w := W) (g := gr) (c := c) (n := G.length) (x := r * 3) (.int .i64 3) (.int .i64 (s : Int)) (.int .i64 0))
      have hj7 : w.heap.size ≠ gr := by omega
      have hj8 : w.heap.size + 1 ≠ gr := by omega
      have l7 : Blk (((W.setCell ⟨gr, r * 3, none⟩ (.int .i64 3)).setCell ⟨gr, r * 3 + 1, none⟩ (.int .i64 (s : Int))).setCell ⟨gr, r * 3 + 2, none⟩ (.int .i64 0)) (w.heap.size) 201 _ := ((HB7.out.far (by exact hj7) _).far (by exact hj7) _).far (by exact hj7) _
      have l8 : Blk (((W.setCell ⟨gr, r * 3, none⟩ (.int .i64 3)).setCell ⟨gr, r * 3 + 1, none⟩ (.int .i64 (s : Int))).setCell ⟨gr, r * 3 + 2, none⟩ (.int .i64 0)) (w.heap.size + 1) 201 _ := ((HB8.out.far (by exact hj8) _).far (by exact hj8) _).far (by exact hj8) _
      have HC := Lib.hid (HI.out (G.set r (.link s)) _ a a' _ _ ok1 _ hr3 hg3 hgL (by simpa using hal.1) (by simpa using hbl.1) rfl rfl hok1)
      have HL7 := Lib.hid l7
      have HL8 := Lib.hid l8
      have HTL := Lib.hid htL
      have HGL := Lib.hid hgL
      have HR3 := Lib.hid (⟨hr3, hal.2, hbl.2⟩ : roots (G.set r (.link s)) ≤ m ∧ b < G.length ∧ b' < G.length)
      have j7 : w.heap.size ≠ gr := hj7
      simp only [Nd.kd, Nd.fa, Nd.fb] at e70 e71 e72 e80 e81 e82 k10 k11 k12 k20 n1 n2 n3 HL7 HL8
      clear hr3 hg3 hal hbl hok1 hgL htL l7 l8 hkk
      go_wp2_with fail
      refine HC.out.mono ?_
      rintro e W3 ⟨rfl, G3, hj3, hg3, ht3⟩
      cases ok1 with
      | false =>
        have HF : Hid (UniPost p G (.slice (some ⟨gr, 0, none⟩) G.length c) x y ok w (.returned (.bool false)) W3) :=
          Lib.hid (UniPost.of HG.out HE.out.1 HE.out.2 (Joined.arrowsNo HD.out.1 HD.out.2.1 hj3) HO.out hg3 (HTL.out.trans ht3))
        clear HI HM HO HG HE HGS HRS HTW HTL HGL hj3 hg3 ht3
        go_wp2_with fail
        go_ret
        exact HF.out
      | true =>
        have hr5 := hj3.roots
        have hl5 := hj3.len
        simp only [List.length_set] at hl5
        have m7 := (ht3.block HL7.out.lt (by omega) (fun e => hj7 (Option.some.inj (show some gr = some (w.heap.size) from e)).symm)).trans HL7.out
        have m8 := (ht3.block HL8.out.lt (by omega) (fun e => hj8 (Option.some.inj (show some gr = some (w.heap.size + 1) from e)).symm)).trans HL8.out
        obtain ⟨e70, e71, e72⟩ := three_of m7
        obtain ⟨e80, e81, e82⟩ := three_of m8
        have HC3 := Lib.hid (HI.out G3 _ b b' _ _ ok W3 (by have := HR3.out.1; omega) hj3.good hg3 (by have := HR3.out.2.1; omega) (by have := HR3.out.2.2; omega) rfl rfl (Joined.second HD.out.1 HD.out.2.1 HRS.out hj3 HOK.out))
        have HF : Hid (∀ W', (∃ G', Joined G3 G' b b' ok ∧ RG p W' G' (.slice (some ⟨gr, 0, none⟩) G.length c) ∧ RT p W3 (.slice (some ⟨gr, 0, none⟩) G.length c) W' (.slice (some ⟨gr, 0, none⟩) G.length c)) → UniPost p G (.slice (some ⟨gr, 0, none⟩) G.length c) x y ok w (.returned (.bool ok)) W') :=
          Lib.hid fun W' ⟨G', j, g, t⟩ => UniPost.of HG.out HE.out.1 HE.out.2 (Joined.arrows HD.out.1 HD.out.2.1 HRS.out hj3 j) HO.out g ((HTL.out.trans ht3).trans t)
        clear HI HM HO HG HE HGS HRS HTW HTL HGL hj3 hg3 ht3 hr5 hl5 m7 m8 hj7 hj8
        go_wp2_with fail
        refine HC3.out.mono ?_
        rintro e W5 ⟨rfl, h5⟩
        have HF5 := Lib.hid (HF.out W5 h5)
        clear h5
        go_wp2_with fail
        go_ret
        exact HF5.out
    · have hbw : Below w.heap.size w (((w.alloc (.cells #[.int .i64 (d2.kd : Int), .int .i64 (d2.fa : Int), .int .i64 (d2.fb : Int)] 201)).alloc (.cells #[.int .i64 (d1.kd : Int), .int .i64 (d1.fa : Int), .int .i64 (d1.fb : Int)] 201)).drew) := (((Below.refl _ _).alloc (Nat.le_refl _) _).alloc (by simp) _).drew
      have ha := ((Blk.new w 201 #[.int .i64 (d2.kd : Int), .int .i64 (d2.fa : Int), .int .i64 (d2.fb : Int)]).alloc (.cells #[.int .i64 (d1.kd : Int), .int .i64 (d1.fa : Int), .int .i64 (d1.fb : Int)] 201)).drew
      have hb : Blk (((w.alloc (.cells #[.int .i64 (d2.kd : Int), .int .i64 (d2.fa : Int), .int .i64 (d2.fb : Int)] 201)).alloc (.cells #[.int .i64 (d1.kd : Int), .int .i64 (d1.fa : Int), .int .i64 (d1.fb : Int)] 201)).drew) (w.heap.size + 1) 201 #[.int .i64 (d1.kd : Int), .int .i64 (d1.fa : Int), .int .i64 (d1.fb : Int)] := Blk.drew (by simpa using Blk.new (w.alloc (.cells #[.int .i64 (d2.kd : Int), .int .i64 (d2.fa : Int), .int .i64 (d2.fb : Int)] 201)) 201 #[.int .i64 (d1.kd : Int), .int .i64 (d1.fa : Int), .int .i64 (d1.fb : Int)])
      have hgW := HGS.out.below hbw
      have htW : RT p w (.slice (some ⟨gr, 0, none⟩) G.length c) _ (.slice (some ⟨gr, 0, none⟩) G.length c) := RT.of_below hbw
      generalize ((w.alloc (.cells #[.int .i64 (d2.kd : Int), .int .i64 (d2.fa : Int), .int .i64 (d2.fb : Int)] 201)).alloc (.cells #[.int .i64 (d1.kd : Int), .int .i64 (d1.fa : Int), .int .i64 (d1.fb : Int)] 201)).drew = W at *
      clear hbw
      obtain ⟨e70, e71, e72⟩ := three_of hb
      obtain ⟨e80, e81, e82⟩ := three_of ha
      have HB7 := Lib.hid hb
      have HB8 := Lib.hid ha
      clear ha hb
      obtain ⟨k10, k11, k12⟩ := hgW.cells HD.out.1
      obtain ⟨k20, k21, k22⟩ := hgW.cells HD.out.2.1
      have kb := hgW.box.cell 0
      have kf : ∀ j, W.frozen? ⟨gr, j, none⟩ = false := hgW.own.frozenAt
      have z1 := kf (r * 3)
      have z2 := kf (r * 3 + 1)
      have z3 := kf (r * 3 + 2)
      have z4 := kf (s * 3)
      have z5 := kf (s * 3 + 1)
      have z6 := kf (s * 3 + 2)
      simp at kb
      have HGW := Lib.hid hgW
      have HTW := Lib.hid htW
      clear hgW htW kf
      by_cases ho1 : d1 = .open_
      · subst ho1
        have HF : Hid (UniPost p G (.slice (some ⟨gr, 0, none⟩) G.length c) x y ok w (.returned (.bool true)) (((W.setCell ⟨gr, r * 3, none⟩ (.int .i64 3)).setCell ⟨gr, r * 3 + 1, none⟩ (.int .i64 (s : Int))).setCell ⟨gr, r * 3 + 2, none⟩ (.int .i64 0))) :=
          Lib.hid (UniPost.of HG.out HE.out.1 HE.out.2 (.open_ HG.out HD.out.1 HD.out.2.1 HD.out.2.2.2 HRS.out) HO.out (HGW.out.set_ r (.link s)) (HTW.out.trans (RT.set_ _ _ _)))
        simp only [Nd.kd] at e70 k10
        clear HI HM HO HG HE HGS HRS HTW
        go_wp2_with fail
        go_ret
        exact HF.out
      have n1 : (((d1.kd : Nat) : Int) == 0) = false := nd_open ho1
      by_cases ho2 : d2 = .open_
      · subst ho2
        have HF : Hid (UniPost p G (.slice (some ⟨gr, 0, none⟩) G.length c) x y ok w (.returned (.bool true)) (((W.setCell ⟨gr, s * 3, none⟩ (.int .i64 3)).setCell ⟨gr, s * 3 + 1, none⟩ (.int .i64 (r : Int))).setCell ⟨gr, s * 3 + 2, none⟩ (.int .i64 0))) :=
          Lib.hid (UniPost.of HG.out HE.out.1 HE.out.2 (Joined.open_ HG.out HD.out.2.1 HD.out.1 HD.out.2.2.1 (Ne.symm HRS.out)).swap HO.out (HGW.out.set_ s (.link r)) (HTW.out.trans (RT.set_ _ _ _)))
        simp only [Nd.kd] at e80 k20
        clear HI HM HO HG HE HGS HRS HTW
        go_wp2_with fail
        go_ret
        exact HF.out
      have n2 : (((d2.kd : Nat) : Int) == 0) = false := nd_open ho2
      have HP := Lib.hid (⟨ho1, ho2⟩ : d1 ≠ .open_ ∧ d2 ≠ .open_)
      clear ho1 ho2
      by_cases hkk : d1.kd = d2.kd
      case neg =>
        have n3 : (((d1.kd : Nat) : Int) != ((d2.kd : Nat) : Int)) = true := by simp; omega
        have HF : Hid (UniPost p G (.slice (some ⟨gr, 0, none⟩) G.length c) x y ok w (.returned (.bool false)) W) :=
          Lib.hid (UniPost.of HG.out HE.out.1 HE.out.2 (nd_differ HG.out HD.out.1 HD.out.2.1 HD.out.2.2.1 HD.out.2.2.2 HP.out.1 HP.out.2 hkk) HO.out HGW.out HTW.out)
        clear HI HM HO HG HE HGS HRS HTW hkk
        go_wp2_with fail
        go_ret
        exact HF.out
      have n3 : (((d1.kd : Nat) : Int) != ((d2.kd : Nat) : Int)) = false := by simp; omega
      obtain ⟨rfl, rfl⟩ | ⟨a, b, a', b', rfl, rfl⟩ := nd_same HD.out.2.2.1 HD.out.2.2.2 HP.out.1 HP.out.2 hkk
      · have HF : Hid (UniPost p G (.slice (some ⟨gr, 0, none⟩) G.length c) x y ok w (.returned (.bool true)) (((W.setCell ⟨gr, r * 3, none⟩ (.int .i64 3)).setCell ⟨gr, r * 3 + 1, none⟩ (.int .i64 (s : Int))).setCell ⟨gr, r * 3 + 2, none⟩ (.int .i64 0))) :=
          Lib.hid (UniPost.of HG.out HE.out.1 HE.out.2 (.tree HG.out HD.out.1 HD.out.2.1 HRS.out) HO.out (HGW.out.set_ r (.link s)) (HTW.out.trans (RT.set_ _ _ _)))
        simp only [Nd.kd] at e70 e80 k10 k20 n1 n2 n3
        have j7 : w.heap.size + 1 ≠ gr := by omega
        clear HI HM HO HG HE HGS HRS HTW hkk
        go_wp2_with fail
        go_ret
        exact HF.out
      have hr3 : roots (G.set r (.link s)) ≤ m := by
        have h1 := roots_set (e := .link s) HD.out.1
        have h3 := HM.out
        simp [Nd.root] at h1
        omega
      have hg3 : Good (G.set r (.link s)) := HG.out.linked HD.out.1 rfl HD.out.2.1 rfl HRS.out
      have hal := HG.out.arrow r a b HD.out.1
      have hbl := HG.out.arrow s a' b' HD.out.2.1
      obtain ⟨ok1, hok1⟩ := Unifies.bool (G.set r (.link s)) a a'
      have HOK : Hid (ok = true ↔ Unifies G r s) := Lib.hid (by rw [HO.out]; exact Unifies.root HE.out.1 HE.out.2)
      have hgL : RG p (((W.setCell ⟨gr, r * 3, none⟩ (.int .i64 3)).setCell ⟨gr, r * 3 + 1, none⟩ (.int .i64 (s : Int))).setCell ⟨gr, r * 3 + 2, none⟩ (.int .i64 0)) (G.set r (.link s)) (.slice (some ⟨gr, 0, none⟩) G.length c) := HGW.out.set_ r (.link s)
      have htL := HTW.out.trans (RT.set_ (p := p) (w := W) (g := gr) (c := c) (n := G.length) (x := r * 3) (.int .i64 3) (.int .i64 (s : Int)) (.int .i64 0))
      have hj7 : w.heap.size + 1 ≠ gr := by omega
      have hj8 : w.heap.size ≠ gr := by omega
      have l7 : Blk (((W.setCell ⟨gr, r * 3, none⟩ (.int .i64 3)).setCell ⟨gr, r * 3 + 1, none⟩ (.int .i64 (s : Int))).setCell ⟨gr, r * 3 + 2, none⟩ (.int .i64 0)) (w.heap.size + 1) 201 _ := ((HB7.out.far (by exact hj7) _).far (by exact hj7) _).far (by exact hj7) _
      have l8 : Blk (((W.setCell ⟨gr, r * 3, none⟩ (.int .i64 3)).setCell ⟨gr, r * 3 + 1, none⟩ (.int .i64 (s : Int))).setCell ⟨gr, r * 3 + 2, none⟩ (.int .i64 0)) (w.heap.size) 201 _ := ((HB8.out.far (by exact hj8) _).far (by exact hj8) _).far (by exact hj8) _
      have HC := Lib.hid (HI.out (G.set r (.link s)) _ a a' _ _ ok1 _ hr3 hg3 hgL (by simpa using hal.1) (by simpa using hbl.1) rfl rfl hok1)
      have HL7 := Lib.hid l7
      have HL8 := Lib.hid l8
      have HTL := Lib.hid htL
      have HGL := Lib.hid hgL
      have HR3 := Lib.hid (⟨hr3, hal.2, hbl.2⟩ : roots (G.set r (.link s)) ≤ m ∧ b < G.length ∧ b' < G.length)
      have j7 : w.heap.size + 1 ≠ gr := hj7
      simp only [Nd.kd, Nd.fa, Nd.fb] at e70 e71 e72 e80 e81 e82 k10 k11 k12 k20 n1 n2 n3 HL7 HL8
      clear hr3 hg3 hal hbl hok1 hgL htL l7 l8 hkk
      go_wp2_with fail
      refine HC.out.mono ?_
      rintro e W3 ⟨rfl, G3, hj3, hg3, ht3⟩
      cases ok1 with
      | false =>
        have HF : Hid (UniPost p G (.slice (some ⟨gr, 0, none⟩) G.length c) x y ok w (.returned (.bool false)) W3) :=
          Lib.hid (UniPost.of HG.out HE.out.1 HE.out.2 (Joined.arrowsNo HD.out.1 HD.out.2.1 hj3) HO.out hg3 (HTL.out.trans ht3))
        clear HI HM HO HG HE HGS HRS HTW HTL HGL hj3 hg3 ht3
        go_wp2_with fail
        go_ret
        exact HF.out
      | true =>
        have hr5 := hj3.roots
        have hl5 := hj3.len
        simp only [List.length_set] at hl5
        have m7 := (ht3.block HL7.out.lt (by omega) (fun e => hj7 (Option.some.inj (show some gr = some (w.heap.size + 1) from e)).symm)).trans HL7.out
        have m8 := (ht3.block HL8.out.lt (by omega) (fun e => hj8 (Option.some.inj (show some gr = some (w.heap.size) from e)).symm)).trans HL8.out
        obtain ⟨e70, e71, e72⟩ := three_of m7
        obtain ⟨e80, e81, e82⟩ := three_of m8
        have HC3 := Lib.hid (HI.out G3 _ b b' _ _ ok W3 (by have := HR3.out.1; omega) hj3.good hg3 (by have := HR3.out.2.1; omega) (by have := HR3.out.2.2; omega) rfl rfl (Joined.second HD.out.1 HD.out.2.1 HRS.out hj3 HOK.out))
        have HF : Hid (∀ W', (∃ G', Joined G3 G' b b' ok ∧ RG p W' G' (.slice (some ⟨gr, 0, none⟩) G.length c) ∧ RT p W3 (.slice (some ⟨gr, 0, none⟩) G.length c) W' (.slice (some ⟨gr, 0, none⟩) G.length c)) → UniPost p G (.slice (some ⟨gr, 0, none⟩) G.length c) x y ok w (.returned (.bool ok)) W') :=
          Lib.hid fun W' ⟨G', j, g, t⟩ => UniPost.of HG.out HE.out.1 HE.out.2 (Joined.arrows HD.out.1 HD.out.2.1 HRS.out hj3 j) HO.out g ((HTL.out.trans ht3).trans t)
        clear HI HM HO HG HE HGS HRS HTW HTL HGL hj3 hg3 ht3 hr5 hl5 m7 m8 hj7 hj8
        go_wp2_with fail
        refine HC3.out.mono ?_
        rintro e W5 ⟨rfl, h5⟩
        have HF5 := Lib.hid (HF.out W5 h5)
        clear h5
        go_wp2_with fail
        go_ret
        exact HF5.out
end Go.Proofs.YtkkfdiidneoelaaGreatDoor
