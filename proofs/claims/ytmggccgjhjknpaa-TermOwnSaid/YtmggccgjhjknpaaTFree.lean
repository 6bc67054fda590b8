/-
  term.Free and the reference's Free: their contracts.
-/
import Derived.Test.YtmggccgjhjknpaaTNat
import Derived.Test.YtmggccgjhjknpaaTShelf
import Derived.Test.YtmggccgjhjknpaaTGrown
import Derived.Test.YtmggccgjhjknpaaTOpenF
import Derived.Shelf.SlIterI.Nil
import Derived.Shelf.SortM.Plain
import Derived.Shelf.SortM.SortNone
namespace Go.Proofs.Ytmggccgjhjknpaa
open Go.RowKit Go.Maps Go.Shelf

theorem keysZ_any (mb : Option Nat) (W : World) : Calls Try.prog 60 #[.map mb] W fun e w' => e = .returned (.func (.func 87) #[] #[.pointer (some ⟨W.heap.size, 0, none⟩)]) ∧ w' = W.alloc (.cells #[.map mb] 78) :=
  (callsIn_wide (n := 5)).1 (AnyZI.keys_in Try.keysA Fence.wide 5 trivial rfl mb W)
/-- slices.Sort's two contracts, at the fence that asks nothing. -/
theorem sortsZ (m : Nat) : AnyZI.SortsIn Try.prog Try.sortedA_ren Fence.wide m :=
  ⟨fun blk off cap ss W hH hblk hsz => callsIn_wide.2 (AnyM.slices_Sort_int Try.sortA blk off cap ss W hH hblk hsz),
   fun p cap W => callsIn_wide.2 (AnyM.slices_Sort_int_none Try.sortA p cap W)⟩
set_option maxHeartbeats 1000000 in
theorem sortedZ_any (b : Nat) (t : T) (w : World) (hown : MapZ w b t.vrs) (hlen : t.vrs.length ≤ 200000) :
    Calls Try.prog 59 #[.func (.func 87) #[] #[.pointer (some ⟨w.heap.size, 0, none⟩)]] (w.alloc (.cells #[.map (some b)] 78)) fun e w' => ∃ v, e = .returned v ∧ Zs w.heap.size w' (t.vars []) v ∧ Below w.heap.size w w' := by
  have hbl := hown.lt
  have hsz : Maps.size (zSet t.vrs) ≤ t.vrs.length := World.ownsMap.size_le hown
  have hown' := hown
  have hseq : SeqGives Fence.wide 2 Try.prog 87 #[.pointer (some ⟨w.heap.size, 0, none⟩)] encZ (fun ss => ss.Perm (intKeys (zSet t.vrs))) (Maps.size (zSet t.vrs)) (w.alloc (.cells #[.map (some b)] 78)) :=
    AnyZI.keys_gives (ρ := Try.keysA_ren) { Try.keysA with } Fence.wide _ trivial rfl (by omega) w.heap.size b t.vrs.length (zSet t.vrs) _ (by simp) (by simp) (by
      obtain ⟨es, clock, hb, Ft, hs, hD⟩ := hown
      exact ⟨es, clock, (Below.heap_alloc _ _ b hbl).trans hb, Ft, hs, hD⟩)
  have cS := AnyZI.sorted_in Try.sortedA Fence.wide 5 trivial trivial trivial trivial rfl (by omega) (sortsZ _) (enters_of Try.func86 (by kernel_rfl) rfl) 87 #[.pointer (some ⟨w.heap.size, 0, none⟩)] trivial (enters_of Try.func87 (by kernel_rfl) rfl) _ _ (by simp only [maxLen]; omega) (by omega) _ hseq
  change CallsIn _ _ Try.prog 59 _ _ _ at cS
  refine (callsIn_wide.1 cS).mono ?_
  rintro e w' ⟨v, ss, rfl, hS, hrow, _, hb⟩
  obtain ⟨h1, h2⟩ := sorted_zSet hown' hS
  refine ⟨v, rfl, ?_, ((Below.refl _ w).alloc (Nat.le_refl _) _).trans (hb.mono (by simp))⟩
  show World.ownsRow _ _ _ _ _ _ _
  rw [← h2, ← h1]
  exact owns_less hrow (by simp)

/-- What Free's visit holds. -/
structure Met (bm b : Nat) (st : List Int) (w : World) : Prop where
  c : Blk w bm 78 #[.map (some b)]
  m : MapZ w b st
  ne : b ≠ bm

set_option maxHeartbeats 800000 in
theorem free1_any {bm b : Nat} {st : List Int} {w : World} (h : Met bm b st w) (hst : st.length < 1000000) (x : T) (v : Value) (lvl : Nat) (P : Nat → Prop) (hin : x.In w P v) (hwf : x.wf) :
    Calls Try.prog 58 #[.agg #[.int .i64 x.kind, .int .i64 x.num, v], .pointer (some ⟨bm, 0, none⟩)] w fun e w' =>
      e = .returned (.bool (stepNat st x lvl).1) ∧ Met bm b (stepNat st x lvl).2 w' ∧ Saves (fun k => k = b) w w' := by
  obtain ⟨hc, hm, hne⟩ := h
  obtain ⟨A, n, c, rfl⟩ := hin.form
  have hnw := T.wf_num hwf
  obtain ⟨kd, nm, l⟩ := x
  simp only [T.kind, T.num] at *
  have hl1 := hc.lt
  have hl2 := hm.lt
  have hbx := Blk.new w 35 #[.int .i64 kd, .int .i64 nm, .slice A n c]
  have hw1 : Below w.heap.size w (w.alloc (.cells #[.int .i64 kd, .int .i64 nm, .slice A n c] 35)) := (Below.refl _ _).alloc (Nat.le_refl _) _
  have c0 := hc.cell 0
  simp at c0
  by_cases hk : kd = 0
  · subst hk
    obtain ⟨w2, hput, hm2, hg2⟩ := (hm.below hw1).put hst hnw
    have hbx2 : Blk w2 w.heap.size 35 #[.int .i64 0, .int .i64 nm, .slice A n c] := (hg2.block _ (by simp) (by intro e; injection e with e; omega)).trans hbx
    have hc2 : Blk w2 bm 78 #[.map (some b)] := (hg2.block _ (by simp; omega) (by intro e; injection e with e; omega)).trans (hc.below hw1 hl1)
    have hsv : Saves (fun k => k = b) w w2 := by
      have h0 := (Saves.of_below (M := fun k => k = b) hw1)
      refine ⟨hg2.os.trans h0.os, hg2.tape.trans h0.tape, hg2.output.trans h0.output, Nat.le_trans h0.size hg2.size, fun k hk hm => (hg2.block k (Nat.lt_of_lt_of_le hk h0.size) (fun e => hm (by injection e))).trans (h0.block k hk hm)⟩
    have y0 := hbx2.cell 0
    have y1 := hbx2.cell 1
    have y2 := hbx2.cell 2
    simp at y0 y1 y2
    have HGO : Hid (Met bm b (stepNat st (.mk 0 nm l) lvl).2 w2) := Lib.hid ⟨hc2, by simpa [stepNat, T.kind, T.num] using hm2, hne⟩
    have HSV := Lib.hid hsv
    clear hm2 hg2 hbx2 hc2 hsv hbx hm
    by_cases hn : 0 ≤ nm
    · have HF : Hid ((stepNat st (.mk 0 nm l) lvl).1 = true) := Lib.hid (by simp [stepNat, T.kind, T.num, hn])
      go_enter Try.func58, Try.ntmps58
      go_wp2_with fail
      go_ret
      exact ⟨ret_bool HF.out.symm, HGO.out, HSV.out⟩
    · have HF : Hid ((stepNat st (.mk 0 nm l) lvl).1 = false) := Lib.hid (by simp [stepNat, T.kind, T.num, hn])
      have hn' : nm < 0 := by omega
      go_enter Try.func58, Try.ntmps58
      go_wp2_with fail
      go_ret
      exact ⟨ret_bool HF.out.symm, HGO.out, HSV.out⟩
  · have hkb : (kd == 0) = false := by simpa using hk
    have hkn : (kd != 0) = true := by simpa using hk
    have HF : Hid ((stepNat st (.mk kd nm l) lvl).1 = true) := Lib.hid (by simp [stepNat, T.kind, hk])
    have HGO : Hid (Met bm b (stepNat st (.mk kd nm l) lvl).2 (w.alloc (.cells #[.int .i64 kd, .int .i64 nm, .slice A n c] 35))) := Lib.hid ⟨hc.below hw1 hl1, by simpa [stepNat, T.kind, hk] using hm.below hw1, hne⟩
    have HSV : Hid (Saves (fun k => k = b) w (w.alloc (.cells #[.int .i64 kd, .int .i64 nm, .slice A n c] 35))) := Lib.hid (Saves.of_below hw1)
    clear hm hbx
    go_enter Try.func58, Try.ntmps58
    go_wp2_with fail
    go_ret
    exact ⟨ret_bool HF.out.symm, HGO.out, HSV.out⟩

theorem freeAll_any (t : T) (v : Value) (w : World) (bm b : Nat) (P : Nat → Prop) (hin : t.In w P v) (hold : Old P w) (hwf : t.wf) (h : Met bm b [] w) (hPb : ∀ k, P k → k ≠ b) (hc : t.count ≤ 100000) :
    Calls Try.prog 57 #[.agg #[.int .i64 t.kind, .int .i64 t.num, v], .func (.func 47) #[] #[], .func (.func 58) #[] #[.pointer (some ⟨bm, 0, none⟩)]] w fun e w' =>
      e = .returned (.bool ((t.vars []).all fun x => decide (0 ≤ x))) ∧ (((t.vars []).all fun x => decide (0 ≤ x)) = true → Met bm b t.vrs w') ∧ Saves (fun k => k = b) w w' := by
  have hd := t.deep_le
  have hv := visitT_nat t [] 1
  rw [T.nat_vars] at hv
  refine (allT_any (step := stepNat) (I := fun st w' => Met bm b st w') (M := fun k => k = b) (ok := fun st x lvl => lvl + x.deep ≤ 1000000 ∧ x.wf ∧ st.length + x.count ≤ 200000) (F := 58) (cap := #[.pointer (some ⟨bm, 0, none⟩)]) (P := P)
    (fun _ _ _ h hb => ⟨h.c.below hb h.c.lt, h.m.below hb, h.ne⟩) (fun _ k _ h hk => by rw [hk]; exact h.m.lt) Try.call58 hPb ?_ ?_ t v w [] ⟨by omega, hwf, by simp; omega⟩ h hin hold).mono
    (fun e w' ⟨he, hi, hs⟩ => ⟨by rw [he, hv.1], fun ht => by have := hv.2 (hv.1.trans ht); rw [this] at hi; simpa using hi, hs⟩)
  · intro st k n l lvl h
    obtain ⟨h1, h2, h3⟩ := h
    simp only [T.deep] at h1
    simp only [T.count] at h3
    simp only [T.wf] at h2
    refine ⟨by omega, fun _ j x hx ht => ?_⟩
    have g1 := T.deepL_take_succ l j x hx
    have g2 := T.deepL_take_le l (j + 1)
    have g3 := T.countL_take_succ l j x hx
    have g4 := T.countL_take_le l (j + 1)
    have g5 := T.vrsL_length (l.take j)
    have g6 : (stepNat st (.mk k n l) lvl).2.length ≤ st.length + 1 := by
      unfold stepNat
      split <;> simp
    refine ⟨by omega, T.wfL_at h2.2 hx, ?_⟩
    rw [(visitTL_nat (l.take j) _ (lvl + 1)).2 ht, List.length_append]
    omega
  · intro st x v lvl w hok hI hin _
    exact free1_any hI (by have := x.count_pos; omega) x v lvl P hin hok.2.1

/-- What Free answers. -/
def T.freeE (t : T) : Int := if t.large then 3 else if ((t.vars []).all fun x => decide (0 ≤ x)) then 0 else 2
def T.freeL (t : T) : List Int := if t.freeE = 0 then t.vars [] else []
/-- A list of numbers in memory of its own, and an error. -/
def GaveZ (l : List Int) (E : Int) (w : World) (e : Ending) (w' : World) : Prop :=
  ∃ u, e = .returned (.tuple #[u, .int .i64 E]) ∧ Zs w.heap.size w' l u ∧ Below w.heap.size w w'
theorem GaveZ.mk_ {l : List Int} {E : Int} {w w' : World} {u : Value} (h : Zs w.heap.size w' l u) (hb : Below w.heap.size w w') : GaveZ l E w (.returned (.tuple #[u, .int .i64 E])) w' := ⟨u, rfl, h, hb⟩

set_option maxHeartbeats 1600000 in
theorem free_any (t : T) (v : Value) (w : World) (P : Nat → Prop) (hin : t.In w P v) (hold : Old P w) (hwf : t.wf) :
    Calls Try.prog 26 #[.agg #[.int .i64 t.kind, .int .i64 t.num, v]] w (GaveZ t.freeL t.freeE w) := by
  have hw1 : Below w.heap.size w (w.alloc (.cells #[.int .i64 t.kind, .int .i64 t.num, v] 35)) := (Below.refl _ _).alloc (Nat.le_refl _) _
  have hbx := Blk.new w 35 #[.int .i64 t.kind, .int .i64 t.num, v]
  obtain ⟨A, n, c, rfl⟩ := hin.form
  have hin1 := hin.old hold hw1
  have HL := Lib.hid (tooLarge_any t _ _ P hin1 (hold.bel hw1))
  cases hl : t.large with
  | true =>
    have HE : Hid (t.freeE = 3) := Lib.hid (by simp [T.freeE, hl])
    have HF : Hid (t.freeL = []) := Lib.hid (by simp [T.freeL, HE.out])
    rw [hl] at HL
    clear hl
    go_enter Try.func26, Try.ntmps26
    go_wp2_with fail
    refine HL.out.mono ?_
    rintro e w1 ⟨rfl, hb1⟩
    simp only [World.size_alloc] at hb1
    go_wp2_with fail
    rw [HE.out, HF.out]
    go_ret2
    exact GaveZ.mk_ (Zs.nil _ _) (hw1.trans (hb1.mono (by omega)))
  | false =>
    have htc := not_large hl
    have HLG := Lib.hid hl
    rw [hl] at HL
    clear hl
    have hmm := @run_makeMap Try.prog
    go_enter Try.func26, Try.ntmps26
    go_wp2_with fail
    refine HL.out.mono ?_
    rintro e w1 ⟨rfl, hb1⟩
    have hz1 := hb1.size
    simp only [World.size_alloc] at hb1 hz1
    have hbx1 := hbx.below hb1 (by omega)
    have hbx3 := (hbx1.alloc (.map #[] 0)).alloc (.cells #[.map (some w1.heap.size)] 78)
    obtain ⟨x0, x1, x2⟩ : ((w1.alloc (.map #[] 0)).alloc (.cells #[.map (some w1.heap.size)] 78)).cell? ⟨w.heap.size, 0, none⟩ = some (.int .i64 t.kind) ∧ ((w1.alloc (.map #[] 0)).alloc (.cells #[.map (some w1.heap.size)] 78)).cell? ⟨w.heap.size, 1, none⟩ = some (.int .i64 t.num) ∧ ((w1.alloc (.map #[] 0)).alloc (.cells #[.map (some w1.heap.size)] 78)).cell? ⟨w.heap.size, 2, none⟩ = some (.slice A n c) := ⟨hbx3.cell 0, hbx3.cell 1, hbx3.cell 2⟩
    have hw3 : Below w1.heap.size w1 ((w1.alloc (.map #[] 0)).alloc (.cells #[.map (some w1.heap.size)] 78)) := ((Below.refl _ _).alloc (Nat.le_refl _) _).alloc (by simp) _
    have hin3 := ((hin1.below hb1 (fun b hb => Nat.lt_succ_of_lt (hold b hb))).old ((hold.bel hw1).bel hb1) hw3)
    have hold3 := ((hold.bel hw1).bel hb1).bel hw3
    have hmet : Met (w1.heap.size + 1) w1.heap.size [] ((w1.alloc (.map #[] 0)).alloc (.cells #[.map (some w1.heap.size)] 78)) :=
      ⟨by simpa using Blk.new (w1.alloc (.map #[] 0)) 78 #[.map (some w1.heap.size)], (MapZ.made w1).below ((Below.refl _ _).alloc (Nat.le_refl _) _), by omega⟩
    have HALL := Lib.hid (freeAll_any t _ _ _ _ P hin3 hold3 hwf hmet (fun k hk e => by have := hold k hk; omega) htc)
    have hbelow3 : Below w.heap.size w ((w1.alloc (.map #[] 0)).alloc (.cells #[.map (some w1.heap.size)] 78)) := (hw1.trans (hb1.mono (by omega))).trans (hw3.mono (by omega))
    cases hnat : ((t.vars []).all fun x => decide (0 ≤ x)) with
    | false =>
      have HE : Hid (t.freeE = 2) := Lib.hid (by simp only [T.freeE, HLG.out, hnat]; rfl)
      have HF : Hid (t.freeL = []) := Lib.hid (by simp [T.freeL, HE.out])
      rw [hnat] at HALL
      clear hnat hin3 hmet hin1 hbx hbx1
      go_wp2_with fail
      refine HALL.out.mono ?_
      rintro e w4 ⟨rfl, _, hs4⟩
      go_wp2_with fail
      rw [HE.out, HF.out]
      go_ret2
      exact GaveZ.mk_ (Zs.nil _ _) (hbelow3.trans (hs4.below (by simp; omega) (fun k hk e => by omega)))
    | true =>
      have HE : Hid (t.freeE = 0) := Lib.hid (by simp only [T.freeE, HLG.out, hnat]; rfl)
      have HF : Hid (t.freeL = t.vars []) := Lib.hid (by simp [T.freeL, HE.out])
      rw [hnat] at HALL
      clear hnat hin3 hmet hin1 hbx hbx1
      go_wp2_with fail
      refine HALL.out.mono ?_
      rintro e w4 ⟨rfl, hmet4, hs4⟩
      have hmet5 : Met (w1.heap.size + 1) w1.heap.size t.vrs w4 := by first | exact hmet4 | exact hmet4 rfl | exact hmet4 trivial
      clear hmet4
      have z0 := hmet5.c.cell 0
      simp at z0
      have hlen := t.vrs_length
      have HK := Lib.hid (keysZ_any (some w1.heap.size) w4)
      have HS := Lib.hid (sortedZ_any w1.heap.size t w4 hmet5.m (by omega))
      have hb4 : Below w.heap.size w w4 := hbelow3.trans (hs4.below (by simp; omega) (fun k hk e => by omega))
      have hz4 := hb4.size
      clear hmet5 x0 x1 x2 hs4 HALL hbelow3 hw3
      go_wp2_with fail
      refine HK.out.mono ?_
      rintro e w5 ⟨rfl, rfl⟩
      go_wp2_with fail
      refine HS.out.mono ?_
      rintro e w6 ⟨u, rfl, hzs, hb6⟩
      obtain ⟨A6, c6, rfl, _, _⟩ := hzs.form
      generalize hv : t.vars [] = vl at *
      clear hv
      go_wp2_with fail
      rw [HE.out, HF.out]
      go_ret2
      exact GaveZ.mk_ (hzs.less (by omega)) (hb4.trans (hb6.mono (by omega)))
end Go.Proofs.Ytmggccgjhjknpaa
