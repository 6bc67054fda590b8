/-
  scheme.Reach: its contract.
-/
import Derived.Test.YthgkgjbjiiedaaaGreatDoorSNeed
import Derived.Test.YthgkgjbjiiedaaaGreatDoorGG
import Derived.Test.YthgkgjbjiiedaaaGreatDoorZs
import Derived.Test.YthgkgjbjiiedaaaGreatDoorTShelf
import Derived.Shelf.SlIterI.Nil
import Derived.Shelf.SortM.Plain
import Derived.Shelf.SortM.SortNone
namespace Go.Proofs.YthgkgjbjiiedaaaGreatDoor
open Go.RowKit Go.Maps Go.Shelf

theorem keysN_any (mb : Option Nat) (W : World) : Calls Tryz.prog 50 #[.map mb] W fun e w' => e = .returned (.func (.func 95) #[] #[.pointer (some ⟨W.heap.size, 0, none⟩)]) ∧ w' = W.alloc (.cells #[.map mb] 70) :=
  (callsIn_wide (n := 5)).1 (AnyZI.keys_in Tryz.keysA Fence.wide 5 trivial rfl mb W)
theorem sortsN (m : Nat) : AnyZI.SortsIn Tryz.prog Tryz.sortedA_ren Fence.wide m :=
  ⟨fun blk off cap ss W hH hblk hsz => callsIn_wide.2 (AnyM.slices_Sort_int Tryz.sortA blk off cap ss W hH hblk hsz),
   fun p cap W => callsIn_wide.2 (AnyM.slices_Sort_int_none Tryz.sortA p cap W)⟩
/-- What the keys of a map of numbers come to, put into order. -/
theorem sorted_zSet2 {w : World} {b : Nat} {st L : List Int} (hL : L.Pairwise (· < ·)) (hm : ∀ x, x ∈ L ↔ x ∈ st) (h : MapZ w b st) {ss : List Int} (hp : ss.Perm (intKeys (zSet st))) : ss.mergeSort leI = L ∧ ss.length = L.length := by
  have hc : CollectedI (zSet st) (fun _ => false) L := ⟨up_nodup hL, fun x => by rw [hm, has_zSet]; simp⟩
  have hp2 := hc.perm h (Maps.int_keyed Tryz.underlying3) Tryz.underlying3 (fun _ => rfl)
  have hp3 := hp.trans hp2.symm
  refine ⟨?_, hp3.length_eq⟩
  rw [mergeSort_of_perm_i hp3]
  refine List.mergeSort_of_pairwise ?_
  exact hL.imp (fun h => by simp only [leI, decide_eq_true_eq]; omega)
set_option maxHeartbeats 1000000 in
theorem sortedN_any (b : Nat) (st L : List Int) (hL : L.Pairwise (· < ·)) (hm : ∀ x, x ∈ L ↔ x ∈ st) (w : World) (hown : MapZ w b st) (hlen : st.length ≤ 200000) :
    Calls Tryz.prog 49 #[.func (.func 95) #[] #[.pointer (some ⟨w.heap.size, 0, none⟩)]] (w.alloc (.cells #[.map (some b)] 70)) fun e w' => ∃ v, e = .returned v ∧ Zs w.heap.size w' L v ∧ Below w.heap.size w w' := by
  have hbl := hown.lt
  have hsz : Maps.size (zSet st) ≤ st.length := World.ownsMap.size_le hown
  have hown' := hown
  have hseq : SeqGives Fence.wide 2 Tryz.prog 95 #[.pointer (some ⟨w.heap.size, 0, none⟩)] encZ (fun ss => ss.Perm (intKeys (zSet st))) (Maps.size (zSet st)) (w.alloc (.cells #[.map (some b)] 70)) :=
    AnyZI.keys_gives (ρ := Tryz.keysA_ren) { Tryz.keysA with } Fence.wide _ trivial rfl (by omega) w.heap.size b st.length (zSet st) _ (by simp) (by simp) (by
      obtain ⟨es, clock, hb, Ft, hs, hD⟩ := hown
      exact ⟨es, clock, (Below.heap_alloc _ _ b hbl).trans hb, Ft, hs, hD⟩)
  have cS := AnyZI.sorted_in Tryz.sortedA Fence.wide 5 trivial trivial trivial trivial rfl (by omega) (sortsN _) (enters_of Tryz.func94 (by kernel_rfl) rfl) 95 #[.pointer (some ⟨w.heap.size, 0, none⟩)] trivial (enters_of Tryz.func95 (by kernel_rfl) rfl) _ _ (by simp only [maxLen]; omega) (by omega) _ hseq
  change CallsIn _ _ Tryz.prog 49 _ _ _ at cS
  refine (callsIn_wide.1 cS).mono ?_
  rintro e w' ⟨v, ss, rfl, hS, hrow, _, hb⟩
  obtain ⟨h1, h2⟩ := sorted_zSet2 hL hm hown' hS
  refine ⟨v, rfl, ?_, ((Below.refl _ w).alloc (Nat.le_refl _) _).trans (hb.mono (by simp))⟩
  show World.ownsRow _ _ _ _ _ _ _
  rw [← h2, ← h1]
  exact owns_less hrow (by simp)

/-- What Reach answers. -/
def Sc.reaches (s : Sc) : List Int := if s.ok then s.reachL else []
theorem Sc.Good.calls {s : Sc} (h : s.Good) : Calls_ok s := fun _ hg m hm => T.calls_heads _ (h.body hg).2 m hm
theorem reachL_len (s : Sc) : s.reachL.length ≤ s.funs.length := by
  unfold Sc.reachL
  rw [List.length_map]
  exact Nat.le_trans (List.length_filter_le _ _) (by simp)

set_option maxHeartbeats 1600000 in
theorem schemeReach_any (s : Sc) (v0 v1 : Value) (w : World) (hi : Nat) (hin : ScIn w hi s v0 v1) (hhi : hi ≤ w.heap.size) :
    Calls Tryz.prog 24 #[.agg #[v0, v1]] w fun e w' => ∃ v, e = .returned (.tuple #[v, .int .i64 (schErr s.ok)]) ∧ Zs w.heap.size w' s.reaches v ∧ Below w.heap.size w w' := by
  have k0 := ScKept.start hin hhi
  obtain ⟨⟨A0, n0, c0, rfl⟩, ⟨A1, n1, c1, rfl⟩⟩ := hin.form
  have HC := Lib.hid (schemeCheck_any s _ _ _ hi k0.i (by have := k0.b.lt; have := k0.hi; omega))
  have d0 := k0.b.cell 0
  have d1 := k0.b.cell 1
  have hmm := @run_makeMap Tryz.prog
  cases hok : s.ok with
  | false =>
    have HF : Hid (s.reaches = []) := Lib.hid (by simp [Sc.reaches, hok])
    rw [hok] at HC
    simp only [schErr] at HC
    clear hok
    go_enter Tryz.func24, Tryz.ntmps24
    go_wp2_with fail
    refine HC.out.mono ?_
    rintro e w1 ⟨rfl, b1⟩
    have k1 := k0.next b1
    go_wp2_with fail
    rw [HF.out]
    go_ret2
    exact ⟨_, rfl, Zs.nil _ _, k1.bel⟩
  | true =>
    have G := Sc.good hok
    have HF : Hid (s.reaches = s.reachL) := Lib.hid (by simp [Sc.reaches, hok])
    rw [hok] at HC
    simp only [schErr, if_true] at HC
    clear hok
    go_enter Tryz.func24, Tryz.ntmps24
    go_wp2_with fail
    refine HC.out.mono ?_
    rintro e w1 ⟨rfl, b1⟩
    have k1 := k0.next b1
    have hl1 := k1.b.lt
    have hz1 := k1.bel.size
    have e0 := k1.b.cell 0
    have e1 := k1.b.cell 1
    have hN := G.n64
    have hN1 := G.n1
    have hbm : Below w1.heap.size w1 (w1.alloc (.map #[] 0)) := (Below.refl _ _).alloc (Nat.le_refl _) _
    have HND := Lib.hid (need_any (mb := w1.heap.size) G.calls hN (fun g hg => by have h1 := (G.body hg).1; have h2 := T.deep_le g.body; omega) (by have := k1.hi; omega) (s.funs.length + 1) 0 [] _ ⟨by simp, by simp⟩ (by omega) (by omega) (by simp) (k1.i.below hbm (by have := k1.hi; omega)) (MapZ.made w1))
    have K1 := Lib.hid k1
    clear k0 b1 HC d0 d1 k1
    go_wp2_with fail
    refine HND.out.mono ?_
    rintro e w2 ⟨rfl, hm2, hs2⟩
    have b2 : Below w1.heap.size w1 w2 := hbm.trans (hs2.below (by simp) (fun k hk e => by omega))
    have hz2 := b2.size
    have hm2' : MapZ w2 w1.heap.size s.need := hm2
    have hg2 := (needF_good G.calls (s.funs.length + 1) 0 [] ⟨by simp, by simp⟩ (by omega) (by omega)).1
    have hlen := nodup_len _ _ hg2.1 hg2.2
    have hlen2 : s.need.length ≤ s.funs.length := hlen
    have HSO := Lib.hid (sortedN_any w1.heap.size s.need s.reachL (reachL_up s) (reachL_mem G.calls hN1) w2 hm2' (by omega))
    have HK := Lib.hid (keysN_any (some w1.heap.size) w2)
    clear hm2 hm2' hg2 hlen hlen2 HND hs2
    go_wp2_with fail
    refine HK.out.mono ?_
    rintro e w3 ⟨rfl, rfl⟩
    go_wp2_with fail
    refine HSO.out.mono ?_
    rintro e w4 ⟨v, rfl, hZ, b4⟩
    obtain ⟨A4, c4, rfl, _, _⟩ := hZ.form
    have HZ := Lib.hid hZ
    clear hZ
    go_wp2_with fail
    rw [HF.out]
    go_ret2
    exact ⟨_, rfl, HZ.out.less (by omega), K1.out.bel.trans ((b2.mono (by omega)).trans (b4.mono (by omega)))⟩
end Go.Proofs.YthgkgjbjiiedaaaGreatDoor
