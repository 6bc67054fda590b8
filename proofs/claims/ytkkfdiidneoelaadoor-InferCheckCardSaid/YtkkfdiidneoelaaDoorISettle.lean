/-
  (*guess).settle: a contract.
-/
import Derived.Test.YtkkfdiidneoelaaDoorIVisG
import Derived.Test.YtkkfdiidneoelaaDoorIWhole
import Derived.Deep.RegionHeld3
namespace Go.Proofs.YtkkfdiidneoelaaDoor
open Go.RowKit

/-- What settle answers: the sort, in blocks of its own, if it is valid. -/
def SetPost (ps : List Nat) (G : Gr) (vis : Nat → Int) (s : S) (w : World) (e : Ending) (w' : World) : Prop :=
  ∃ v, e = .returned (.tuple #[.agg #[v], .bool s.ok]) ∧ (s.ok = true → ∃ fp, s.Sep w' v fp ∧ fp.Nodup ∧ ∀ b ∈ fp, w.heap.size ≤ b ∧ b < w'.heap.size) ∧ (∃ A n c, v = .slice A n c) ∧ Saves (· ∈ ps) w w' ∧ ∃ G', Alike G G' ∧ Gs w' ps G' vis
theorem settle_results {tmps : Array Value} {w : World} {a : Nat} {x u : Value} (h2 : tmps.getD 2 undef = .pointer (some ⟨a, 0, none⟩)) (h3 : tmps.getD 3 undef = u)
    (ha : Blk w a 41 #[x]) : (results Tryd.f35 tmps).run Tryd.prog w = .ok (.tuple #[.agg #[x], u]) w := by
  have h4 := ha.cell 0
  simp at h4
  have h2' : tmps[2]?.getD undef = .pointer (some ⟨a, 0, none⟩) := by simpa using h2
  have h3' : tmps[3]?.getD undef = u := by simpa using h3
  simp [results, Tryd.results35, go_sem, h2', h3', h4]

set_option maxRecDepth 100000 in
set_option maxHeartbeats 1600000 in
theorem settle_any (ps : List Nat) (G : Gr) (vis : Nat → Int) (v : Nat → D) (hG : Good G) (hv : Can G v) (hlen : G.length ≤ 1000000) (s : S) (x p : Nat) (w : World) (hgs : Gs w ps G vis) (hx : ps[x]? = some p) (hvx : v x = s.emb) :
    Calls Tryd.prog 35 #[pv p] w (SetPost ps G vis s w) := by
  have hw1 : Below w.heap.size w (w.alloc (.cells #[.slice none 0 0] 41)) := (Below.refl _ _).alloc (Nat.le_refl _) _
  have hres := Blk.new w 41 #[.slice none 0 0]
  have hct := nestSizeG_any ps G vis v hG hv hlen s x p _ (hgs.below hw1) hx hvx
  have HNP : Hid (∀ b, w.heap.size ≤ b → b ∉ ps) := Lib.hid fun b hb hm => by have := hgs.lt hm; omega
  have HC := Lib.hid hct
  have HV := Lib.hid hv
  have HX : Hid (ps[x]? = some p ∧ v x = s.emb ∧ G.length ≤ 1000000) := Lib.hid ⟨hx, hvx, hlen⟩
  have HSV : Hid (∀ w', Saves (· ∈ ps) (w.alloc (.cells #[.slice none 0 0] 41)) w' → Saves (· ∈ ps) w w') := Lib.hid fun w' h => (Saves.of_below hw1).trans h
  have hcnt : ∃ m : Nat, s.sizes.1 = m ∧ (m ≤ 60 ↔ s.count ≤ 60) := by
    refine ⟨_, rfl, ?_⟩
    by_cases h1 : s.count ≤ 60
    · simp [S.sizes, h1]
    · simp [S.sizes, h1]
  obtain ⟨m, hm, hmm⟩ := hcnt
  unfold SzPost at HC
  rw [hm] at HC
  clear hct hG hv hlen hgs hx hvx hm
  by_cases h60 : s.count ≤ 60
  · have g1 : decide (60 < (m : Int)) = false := decide_eq_false (by omega)
    have H60 := Lib.hid h60
    clear hmm h60
    go_enter Tryd.func35, Tryd.ntmps35
    go_wp2_with fail
    refine HC.out.mono ?_
    rintro e w1 ⟨z, rfl, ⟨G1, ha1, hg1⟩, hs1⟩
    have hwh := whole_any s.count s ps G1 vis v x p w1 (Nat.le_refl _) ha1.good (HV.out.alike ha1) (by have := ha1.len; have := HX.out.2.2; omega) hg1 HX.out.1 HX.out.2.1
    have HWH := Lib.hid hwh
    have hres1 := hres.saves hs1 (HNP.out _ (Nat.le_refl _))
    have HA1 := Lib.hid ha1
    have HS1 := Lib.hid (HSV.out w1 hs1)
    have hz1 := hs1.size
    simp only [World.size_alloc] at hz1
    clear hwh hs1 hg1 ha1
    go_wp2_with fail
    refine HWH.out.mono ?_
    rintro e w2 ⟨v2, fp, G2, rfl, hsep, hnod, hrng, hs2, ha2, hg2⟩
    obtain ⟨A2, n2, c2, rfl⟩ := hsep.form
    have hres2 := hres1.saves hs2 (HNP.out _ (Nat.le_refl _))
    have hz2 := hs2.size
    have HF : Hid (∀ (W : World), Below w2.heap.size w2 W → ∀ u : Value, s.In W w.heap.size w2.heap.size (.slice A2 n2 c2) ∧ (∃ fp, s.Sep (W.setCell ⟨w.heap.size, 0, none⟩ u) (.slice A2 n2 c2) fp ∧ fp.Nodup ∧ ∀ b ∈ fp, w.heap.size ≤ b ∧ b < (W.setCell ⟨w.heap.size, 0, none⟩ u).heap.size) ∧ Saves (· ∈ ps) w (W.setCell ⟨w.heap.size, 0, none⟩ u) ∧
        (∃ G', Alike G G' ∧ Gs (W.setCell ⟨w.heap.size, 0, none⟩ u) ps G' vis)) := by
      refine Lib.hid fun W hW u => ?_
      have hsz := hW.size
      have hsepW : s.Sep W (.slice A2 n2 c2) fp := hsep.keep _ fun b hb => hW.block b (hrng b hb).2
      refine ⟨S.Sep.in_ s hsepW fun b hb => by have := hrng b hb; omega, ⟨fp, hsepW.keep _ fun b hb => Below.heap_setCell _ _ _ _ (by have := hrng b hb; show b ≠ w.heap.size; omega), hnod, fun b hb => by have := hrng b hb; simp only [World.setCell, Array.size_modify]; omega⟩, ?_, G2, HA1.out.trans ha2, ?_⟩
      · exact ((HS1.out.trans hs2).trans (Saves.of_below hW)).setCell (.inr (Nat.le_refl _)) u
      · exact (hg2.below hW).keep fun b hb => Below.heap_setCell W ⟨w.heap.size, 0, none⟩ u b (by rintro rfl; exact HNP.out _ (Nat.le_refl _) hb)
    clear hsep hnod hrng hs2 ha2 hg2
    generalize hK : (fun W => Below w2.heap.size w2 W ∧ Blk W w2.heap.size 41 #[.slice A2 n2 c2] ∧ Blk W w.heap.size 41 #[.slice none 0 0]) = K
    have of_ : ∀ W, K W → Below w2.heap.size w2 W ∧ Blk W w2.heap.size 41 #[.slice A2 n2 c2] ∧ Blk W w.heap.size 41 #[.slice none 0 0] := fun W h => by rw [← hK] at h; exact h
    have hKn : ∀ W W', K W → Below W.heap.size W W' → K W' := fun W W' h hb => by
      rw [← hK] at h ⊢
      exact ⟨h.1.trans (hb.mono h.1.size), h.2.1.below hb h.2.1.lt, h.2.2.below hb h.2.2.lt⟩
    have HCK := Lib.hid (fun W (h : K W) => (check_any s (.slice A2 n2 c2) W w.heap.size w2.heap.size (HF.out W (of_ W h).1 (.int .i64 0)).1 (of_ W h).1.size).mono fun e w' ⟨he, hb⟩ => (⟨he, hKn _ _ h hb⟩ : e = _ ∧ K w'))
    have k0 : K ((w2.alloc (.cells #[.slice A2 n2 c2] 41)).drew) := by
      rw [← hK]
      exact ⟨((Below.refl _ _).alloc (Nat.le_refl _) _).drew, (Blk.new w2 _ _).drew, (hres2.alloc _).drew⟩
    have HKK : Hid (∀ W, K W → Below w2.heap.size w2 W ∧ Blk W w2.heap.size 41 #[.slice A2 n2 c2] ∧ Blk W w.heap.size 41 #[.slice none 0 0]) := Lib.hid of_
    have HCell : Hid (∀ W, K W → W.cell? ⟨w2.heap.size, 0, none⟩ = some (.slice A2 n2 c2) ∧ W.cell? ⟨w.heap.size, 0, none⟩ = some (.slice none 0 0) ∧ W.frozen? ⟨w.heap.size, 0, none⟩ = false) := Lib.hid fun W h => by
      obtain ⟨_, h1, h2⟩ := of_ W h
      have e1 := h1.cell 0
      have e2 := h2.cell 0
      simp at e1 e2
      exact ⟨e1, e2, h2.frozen 0⟩
    have HSC : Hid (∀ W, K W → (W.setCell ⟨w.heap.size, 0, none⟩ (.slice A2 n2 c2)).cell? ⟨w2.heap.size, 0, none⟩ = some (.slice A2 n2 c2)) := Lib.hid fun W h => by
      rw [World.cell?_setCell_other W ⟨w.heap.size, 0, none⟩ ⟨w2.heap.size, 0, none⟩ _ (fun e => by injection e with e; omega)]
      exact (HCell.out W h).1
    clear hK hKn of_ hres hres1 hres2 hw1
    have HOK : Hid ((s.ok = true → errOf s.ok = 0) ∧ (s.ok = false → errOf s.ok = 6)) := Lib.hid ⟨fun h => by rw [h]; rfl, fun h => by rw [h]; rfl⟩
    go_wp2_with fail
    cases hok : s.ok with
    | true =>
      rw [HOK.out.1 hok] at HCK
      have HO := Lib.hid hok
      clear hok
      go_region_held3 (fun w' => w'.cell? ⟨w2.heap.size, 0, none⟩ = some (.slice A2 n2 c2))
        (first
          | exact (HCell.out _ (by assumption)).1
          | exact HSC.out _ (by assumption)
          | go_keep)
        (first
          | (go_at_call 66; ((with_reducible refine (HCK.out _ (by assumption)).mono ?_); rintro e W1 ⟨rfl, K1⟩; have C1 := (HCell.out _ K1).1; have C2 := (HCell.out _ K1).2.1; have C3 := (HCell.out _ K1).2.2)))
      all_goals
        go_wp2_with fail
        obtain ⟨hb, hk1, hk2⟩ := HKK.out _ K1
        obtain ⟨_, g2, g3, g4⟩ := HF.out W1 hb (.slice A2 n2 c2)
        exact bodyPost_ret (settle_results rfl rfl (hk2.set_ 0 _)) rfl ⟨.slice A2 n2 c2, by rw [HO.out]; rfl, fun _ => g2, ⟨_, _, _, rfl⟩, g3, g4⟩
    | false =>
      rw [HOK.out.2 hok] at HCK
      have HO := Lib.hid hok
      clear hok
      go_region_held3 (fun w' => w'.cell? ⟨w2.heap.size, 0, none⟩ = some (.slice A2 n2 c2))
        (first
          | exact (HCell.out _ (by assumption)).1
          | exact HSC.out _ (by assumption)
          | go_keep)
        (first
          | (go_at_call 66; ((with_reducible refine (HCK.out _ (by assumption)).mono ?_); rintro e W1 ⟨rfl, K1⟩; have C1 := (HCell.out _ K1).1; have C2 := (HCell.out _ K1).2.1; have C3 := (HCell.out _ K1).2.2)))
      all_goals
        go_wp2_with fail
        obtain ⟨hb, hk1, hk2⟩ := HKK.out _ K1
        obtain ⟨_, g2, g3, g4⟩ := HF.out W1 hb (.slice A2 n2 c2)
        exact bodyPost_ret (settle_results rfl rfl (hk2.set_ 0 _)) rfl ⟨.slice A2 n2 c2, by rw [HO.out]; rfl, fun h => by rw [HO.out] at h; (cases h), ⟨_, _, _, rfl⟩, g3, g4⟩
  · have g1 : decide (60 < (m : Int)) = true := decide_eq_true (by omega)
    have HO : Hid (s.ok = false) := Lib.hid (by simp [S.ok, h60])
    clear hmm h60
    go_enter Tryd.func35, Tryd.ntmps35
    go_wp2_with fail
    refine HC.out.mono ?_
    rintro e w1 ⟨z, rfl, ⟨G1, ha1, hg1⟩, hs1⟩
    have hres1 := hres.saves hs1 (HNP.out _ (Nat.le_refl _))
    have c0 := hres1.cell 0
    have f0 := hres1.frozen 0
    have HF : Hid (∀ u, Saves (· ∈ ps) w (w1.setCell ⟨w.heap.size, 0, none⟩ u) ∧ ∃ G', Alike G G' ∧ Gs (w1.setCell ⟨w.heap.size, 0, none⟩ u) ps G' vis) :=
      Lib.hid fun u => ⟨(HSV.out w1 hs1).setCell (.inr (Nat.le_refl _)) u, G1, ha1, hg1.keep fun b hb => Below.heap_setCell w1 ⟨w.heap.size, 0, none⟩ u b (by rintro rfl; exact HNP.out _ (Nat.le_refl _) hb)⟩
    simp at c0
    clear hg1 ha1 hs1
    go_wp2_with fail
    refine bodyPost_ret (settle_results rfl rfl (hres1.set_ 0 _)) rfl ⟨.slice none 0 0, by rw [HO.out]; rfl, fun h => by rw [HO.out] at h; (cases h), ⟨_, _, _, rfl⟩, HF.out _⟩
end Go.Proofs.YtkkfdiidneoelaaDoor
