/-
  slices.ContainsFunc at guesses, and whether one of them is endless: contracts.
-/
import Derived.Test.YtkkfdiidneoelaaDoorIEnd
namespace Go.Proofs.YtkkfdiidneoelaaDoor
open Go.RowKit

/-- So many guesses end. -/
def IxAt (ps : List Nat) (G : Gr) (v : Nat → D) (fs : List Nat) (w : World) (i : Value) (wr : World) : Prop :=
  ∃ (k : Nat) (G' : Gr) (vis : Nat → Int), k ≤ fs.length ∧ i = .int .i64 (k : Int) ∧ Alike G G' ∧ Gs wr ps G' vis ∧ Saves (· ∈ ps) w wr ∧ (∀ y, y < G.length → vis y = 2 → (v y).fin) ∧ (∀ y, vis y ≠ 1) ∧ (∀ y, y < G.length → vis y = 0 ∨ vis y = 1 ∨ vis y = 2) ∧
    ∀ (j f : Nat), j < k → fs[j]? = some f → (v f).fin
/-- Whether one of them is endless. -/
def IxPost (ps : List Nat) (G : Gr) (v : Nat → D) (fs : List Nat) (w : World) (ok : Bool) (w' : World) : Prop :=
  ∃ (G' : Gr) (vis : Nat → Int), Alike G G' ∧ Gs w' ps G' vis ∧ Saves (· ∈ ps) w w' ∧
    (ok = true → ∃ x, x < G.length ∧ ∀ u, Sol G u → ¬ (u x).fin) ∧ (ok = false → ∀ f ∈ fs, (v f).fin)

set_option maxRecDepth 100000 in
set_option maxHeartbeats 1600000 in
theorem index_any (ps : List Nat) (G : Gr) (v : Nat → D) (fs us : List Nat) (B : Nat) (val : Value) (w : World) (hG : Good G) (hv : Can G v) (hgs : Gs w ps G (fun _ => 0)) (hn : Nodes ps fs us) (hp : Ps B w us val) (hnp : ∀ b, val.ownBlock = some b → b ∉ ps) :
    Calls Tryd.prog 86 #[val, .func (.func 63) #[] #[]] w fun e w' => ∃ (ok : Bool) (i : Int), e = .returned (.int .i64 i) ∧ (ok = true ↔ 0 ≤ i) ∧ IxPost ps G v fs w ok w' := by
  have hcall := Tryd.call63
  obtain ⟨A, c, rfl⟩ := hp.form
  have HG := Lib.hid hG
  have HV := Lib.hid hv
  have HN := Lib.hid hn
  have HP := Lib.hid hp
  have HNP := Lib.hid hnp
  have hlen : fs.length = us.length := hn.1.symm
  have HL := Lib.hid hlen
  have H0 : Hid (IxAt ps G v fs w (.int .i64 0) w) := Lib.hid ⟨0, G, fun _ => 0, Nat.zero_le _, rfl, .refl hG, hgs, Saves.refl _ _, fun y _ h => by simp at h, fun y => by simp, fun y _ => .inl rfl, fun j f h => absurd h (by omega)⟩
  have hul : us.length ≤ 9223372036854775807 := by
    rcases hp.2 with ⟨_, h0⟩ | ⟨g, cap, cur, _, _, _, h1, h2, _⟩
    · omega
    · simp only [maxLen] at h2; omega
  clear hG hv hgs hn hp hnp hlen
  go_enter Tryd.func86, Tryd.ntmps86
  go_wp2_with fail
  go_loopw [8] (fun i wr => IxAt ps G v fs w i wr) (fun i _ => us.length - (intOf i).toNat)
  case atStart => exact H0.out
  case round =>
    obtain ⟨k, G1, vis, hk, rfl, ha, hg, hs, hf2, hn1, h3, hfin⟩ := hrel
    by_cases hlt : k < us.length
    · obtain ⟨f, hf⟩ : ∃ f, fs[k]? = some f := ⟨fs[k]'(by have := HL.out; omega), List.getElem?_eq_getElem _⟩
      obtain ⟨p, hu, hpx⟩ := HN.out.2 k _ hf
      obtain ⟨ad, rfl, hB, hbl, hcl⟩ := HP.out.cell hu
      have hcl2 : wr.cell? (ad.add k) = some (pv p) := (World.cell?_of_block (by rw [block_of_add]; exact hs.block _ hbl (HNP.out _ (by
        rcases HP.out.2 with ⟨h1, _⟩ | ⟨g, cap, cur, h1, _⟩
        · cases h1
        · injection h1 with h1 _ _
          injection h1 with h1
          subst h1
          rfl)))).trans hcl
      have hmk : Marks G v vis f := ⟨hf2, fun y _ hz => absurd hz (hn1 y), h3⟩
      have hce := endless_all (aheads G1 vis + 1) ps G1 v vis _ p wr (by omega) ha.good (HV.out.alike ha) hg hpx (hmk.alike ha)
      have HCE := Lib.hid hce
      have HS : Hid (Alike G G1 ∧ Saves (· ∈ ps) w wr ∧ (∀ (j f : Nat), j < k → fs[j]? = some f → (v f).fin) ∧ (∀ y, vis y ≠ 1) ∧ fs[k]? = some f ∧ f < G.length) := Lib.hid ⟨ha, hs, hfin, hn1, hf, by
        have := ha.len
        have := hg.len
        have := (List.getElem?_eq_some_iff.1 hpx).1
        omega⟩
      have hk0 : (0 : Int) ≤ (k : Int) := by omega
      have hkl : (k : Int) < (us.length : Int) := by omega
      clear hf hu hpx hbl hcl hmk hce ha hg hs hf2 hn1 h3 hfin
      go_wp2_with fail
      refine HCE.out.mono ?_
      rintro e w2 ⟨ok, G2, vis2, rfl, ha2, hg2, hs2, hyes, hno⟩
      cases ok with
      | true =>
        have HF : Hid (∃ (ok : Bool) (i : Int), Ending.returned (.int .i64 (k : Int)) = .returned (.int .i64 i) ∧ (ok = true ↔ 0 ≤ i) ∧ IxPost ps G v fs w ok w2) := by
          obtain ⟨e1, e2, e3, e4, e5, e6⟩ := HS.out
          exact Lib.hid ⟨true, k, rfl, by simp, G2, vis2, e1.trans ha2, hg2, e2.trans hs2, fun _ => ⟨f, e6, fun u hu => hyes rfl u ((e1.sol u).2 hu)⟩, fun h => by cases h⟩
        clear ha2 hg2 hs2 hyes hno
        go_wp2_with fail
        go_ret
        exact HF.out
      | false =>
        have HF : Hid (IxAt ps G v fs w (.int .i64 ((k + 1 : Nat) : Int)) w2) := by
          obtain ⟨e1, e2, e3, e4, e5, e6⟩ := HS.out
          obtain ⟨h1, h2, h12, h33, h0⟩ := hno rfl
          have hl := e1.len
          refine Lib.hid ⟨k + 1, G2, vis2, by have := HL.out; omega, rfl, e1.trans ha2, hg2, e2.trans hs2, fun y hy => h2 y (by omega), fun y hz => e4 y ((h12 y).1 hz), fun y hy => h33 y (by omega), fun j g hj hg' => ?_⟩
          rcases Nat.lt_or_ge j k with hlt' | hge
          · exact e3 j g hlt' hg'
          · obtain rfl : j = k := by omega
            rw [e5] at hg'
            cases hg'
            exact h1
        clear ha2 hg2 hs2 hyes hno
        go_wp2_with fail
        go_roundw
        case rel => simpa using HF.out
        case measure => simp [intOf]; omega
    · have HF : Hid (∃ (ok : Bool) (i : Int), Ending.returned (.int .i64 (-1)) = .returned (.int .i64 i) ∧ (ok = true ↔ 0 ≤ i) ∧ IxPost ps G v fs w ok wr) := by
        refine Lib.hid ⟨false, -1, rfl, by simp, G1, vis, ha, hg, hs, (fun h => by cases h), fun _ f hf => ?_⟩
        obtain ⟨j, hj, rfl⟩ := List.mem_iff_getElem.1 hf
        exact hfin j _ (by have := HL.out; omega) (List.getElem?_eq_getElem hj)
      clear ha hg hs hf2 hn1 h3 hfin
      go_wp2_with fail
      go_ret
      exact HF.out
set_option maxHeartbeats 800000 in
theorem contains_any (ps : List Nat) (G : Gr) (v : Nat → D) (fs us : List Nat) (B : Nat) (val : Value) (w : World) (hG : Good G) (hv : Can G v) (hgs : Gs w ps G (fun _ => 0)) (hn : Nodes ps fs us) (hp : Ps B w us val) (hnp : ∀ b, val.ownBlock = some b → b ∉ ps) :
    Calls Tryd.prog 62 #[val, .func (.func 63) #[] #[]] w fun e w' => ∃ ok : Bool, e = .returned (.bool ok) ∧ IxPost ps G v fs w ok w' := by
  have HC := Lib.hid (index_any ps G v fs us B val w hG hv hgs hn hp hnp)
  obtain ⟨A, c, rfl⟩ := hp.form
  clear hG hv hgs hn hp hnp
  go_enter Tryd.func62, Tryd.ntmps62
  go_wp2_with fail
  refine HC.out.mono ?_
  rintro e w1 ⟨ok, i, rfl, hi, hpst⟩
  have HP := Lib.hid hpst
  have HI : Hid (decide (0 ≤ i) = ok) := Lib.hid (by cases ok <;> simp at hi ⊢ <;> omega)
  clear hpst hi
  go_wp2_with fail
  go_ret
  exact ⟨ok, ret_bool HI.out, HP.out⟩
end Go.Proofs.YtkkfdiidneoelaaDoor
