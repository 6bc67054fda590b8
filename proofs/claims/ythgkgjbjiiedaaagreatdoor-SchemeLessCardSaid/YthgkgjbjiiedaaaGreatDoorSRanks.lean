/-
  Ranks, the program's and the reference's; the reference's Order; two lists of numbers compared.
-/
import Derived.Test.YthgkgjbjiiedaaaGreatDoorZs
import Derived.Test.YthgkgjbjiiedaaaGreatDoorGL
import Derived.Test.YthgkgjbjiiedaaaGreatDoorGG
import Derived.Test.YthgkgjbjiiedaaaGreatDoorGA
import Derived.Test.YthgkgjbjiiedaaaGreatDoorGE
namespace Go.Proofs.YthgkgjbjiiedaaaGreatDoor
open Go.RowKit

/-- The ranks of the symbols. -/
def Sc.ranks (s : Sc) : List Int := if s.ok = true then s.syms.map Sy.rank else []

set_option maxRecDepth 100000 in
set_option maxHeartbeats 1600000 in
theorem schemeRanks_any (s : Sc) (v0 v1 : Value) (w : World) (hi : Nat) (hin : ScIn w hi s v0 v1) (hhi : hi ≤ w.heap.size) :
    Calls Tryz.prog 21 #[.agg #[v0, v1]] w fun e w' => ∃ v, e = .returned (.tuple #[v, .int .i64 (schErr s.ok)]) ∧ Zs w.heap.size w' s.ranks v ∧ Below w.heap.size w w' := by
  obtain ⟨i0, hi0, hz0, hz1, hz2⟩ := info_parts int_info
  have HZ1 := Lib.hid hz1
  have HZ2 := Lib.hid hz2
  clear hz1 hz2
  have k0 := ScKept.start hin hhi
  obtain ⟨⟨A0, n0, c0, rfl⟩, ⟨A1, n1, c1, rfl⟩⟩ := hin.form
  have HC := Lib.hid (schemeCheck_any s _ _ _ hi k0.i (by have := k0.b.lt; have := k0.hi; omega))
  have d0 := k0.b.cell 0
  have d1 := k0.b.cell 1
  simp at d0 d1
  cases hok : s.ok with
  | false =>
    have HR : Hid (s.ranks = []) := Lib.hid (by simp [Sc.ranks, hok])
    rw [hok] at HC
    simp only [schErr] at HC
    clear hok
    go_enter Tryz.func21, Tryz.ntmps21
    go_wp2_with fail
    refine HC.out.mono ?_
    rintro e w1 ⟨rfl, b1⟩
    have k1 := k0.next b1
    go_wp2_with fail
    go_ret2
    exact ⟨_, rfl, by rw [HR.out]; exact Zs.nil _ _, k1.bel⟩
  | true =>
    have HR : Hid (s.ranks = s.syms.map Sy.rank) := Lib.hid (by simp [Sc.ranks, hok])
    have hlen := (Sc.good hok).sy_all.1
    rw [hok] at HC
    simp only [schErr, if_true] at HC
    clear hok
    go_enter Tryz.func21, Tryz.ntmps21
    go_wp2_with fail
    refine HC.out.mono ?_
    rintro e w1 ⟨rfl, b1⟩
    have k1 := k0.next b1
    have hl1 := k1.b.lt
    have e0 := k1.b.cell 0
    simp at e0
    obtain ⟨A, _, c, he, hl, hnc, hc, hrd, hsz⟩ := hin.sy
    injection he with g1 g2 g3
    subst g1 g2 g3 hl
    have K1 := Lib.hid k1
    have hhi1 := k1.hi
    clear k0 b1 HC d0 d1 k1
    go_wp2_with fail
    go_loopw [16, 5] (fun i v wr => ∃ (k : Nat), k ≤ s.syms.length ∧ i = .int .i64 k ∧ Zs w.heap.size wr ((s.syms.take k).map Sy.rank) v ∧ Below w.heap.size w wr) (fun i _ _ => s.syms.length - (intOf i).toNat)
    case atStart => exact ⟨0, Nat.zero_le _, rfl, by simpa using Zs.nil _ _, K1.out.bel⟩
    case round =>
      obtain ⟨k, hk, rfl, hzs, hbel⟩ := hrel
      have hzr := hbel.size
      obtain ⟨A2, c2, hv, hlc2, hc2⟩ := hzs.form
      have hkl : ((s.syms.take k).map Sy.rank).length = k := by rw [List.length_map, List.length_take]; omega
      rw [hkl] at hv hlc2
      subst hv
      by_cases hlt : k < s.syms.length
      · have hx : s.syms[k]? = some s.syms[k] := List.getElem?_eq_getElem hlt
        obtain ⟨ad, rfl, hPa, hel⟩ := sy_el hrd hx
        obtain ⟨r0, r1⟩ := hel.keep (hbel.block _ (by omega))
        have hts : (s.syms.take (k + 1)).map Sy.rank = (s.syms.take k).map Sy.rank ++ [s.syms[k].rank] := by rw [List.take_add_one, hx, List.map_append]; rfl
        have hvb : ∀ b, (Value.slice A2 k c2).ownBlock = some b → w.heap.size ≤ b := fun b hb => (hzs.lt hb).1
        have hown : wr.ownsRow w.heap.size 3 1 (.slice A2 k c2) ((s.syms.take k).map Sy.rank).length (((s.syms.take k).map Sy.rank).map (Value.int .i64)) := hzs
        rw [hkl] at hown
        generalize (s.syms.take k).map Sy.rank = rl at *
        generalize s.syms[k] = x at *
        obtain ⟨name, rank⟩ := x
        simp only at r0 r1 hts
        have HTS := Lib.hid hts
        have HKL := Lib.hid hkl
        have hba := Blk.new wr 65 #[.string name, .int .i64 rank]
        have p1 := hba.cell 1
        simp at p1
        clear hx hel hts hkl hzs hba
        go_wp2_with
          (at_builtin
           refine wpList_append_lies _ rfl _ _ _ rfl w.heap.size 3 i0 _ 1 8 Tryz.underlying33 hi0 hz0 HZ1.out HZ2.out rfl (by omega) (.slice A2 k c2) k _ (by rfl) ((hown.alloc _).alloc _)
             ⟨wr.heap.size + 1, 0, none⟩ 1 1 [.int .i64 rank] (by rfl) (by rfl) (World.news_of_block (cs := #[.int .i64 rank]) (t := 3) (fr := (0, 0)) (by simpa using heap_alloc_new (wr.alloc (.cells #[.string name, .int .i64 rank] 65)) _)) (by simp [Value.oneCell']) (by omega) (by simp only [maxLen]; omega) (by omega) (by simp; omega) (wr.heap.size + 2) (by simp) ?_
           intro gg cap2 w3 hown3 hgrow hat3 hlt3)
        go_roundw
        case rel =>
          refine ⟨k + 1, by omega, by go_num, ?_, ?_⟩
          · show World.ownsRow _ _ _ _ _ _ _
            rw [HTS.out, List.length_append, HKL.out, List.map_append]
            exact hown3
          · exact ((hbel.alloc hzr _).alloc (by simp; omega) _).grown hgrow (by simp; omega) (fun b hb => by have := hvb b hb; omega)
        case measure => simp [intOf]; omega
      · have h1 : s.syms.take k = s.syms := List.take_of_length_le (by omega)
        have hzs' : Zs w.heap.size wr s.ranks (.slice A2 k c2) := by rw [HR.out]; rw [h1] at hzs; exact hzs
        clear h1 hzs hkl
        go_wp2_with fail
        go_ret2
        exact ⟨_, rfl, hzs', hbel⟩

set_option maxRecDepth 100000 in
set_option maxHeartbeats 1600000 in
theorem refScRanks_any (s : Sc) (v0 v1 : Value) (w : World) (hi : Nat) (hin : ScIn w hi s v0 v1) (hhi : hi ≤ w.heap.size) :
    Calls Tryz.prog 22 #[.agg #[v0, v1]] w fun e w' => ∃ v, e = .returned (.tuple #[v, .int .i64 (schErr s.ok)]) ∧ Zs w.heap.size w' s.ranks v ∧ Below w.heap.size w w' := by
  obtain ⟨i0, hi0, hz0, hz1, hz2⟩ := info_parts int_info
  have HZ1 := Lib.hid hz1
  have HZ2 := Lib.hid hz2
  clear hz1 hz2
  have k0 := ScKept.start hin hhi
  obtain ⟨⟨A0, n0, c0, rfl⟩, ⟨A1, n1, c1, rfl⟩⟩ := hin.form
  have HC := Lib.hid (refScIs_any s _ _ _ hi k0.i (by have := k0.b.lt; have := k0.hi; omega))
  rw [sayOk_ok] at HC
  have d0 := k0.b.cell 0
  have d1 := k0.b.cell 1
  simp at d0 d1
  cases hok : s.ok with
  | false =>
    have HR : Hid (s.ranks = []) := Lib.hid (by simp [Sc.ranks, hok])
    rw [hok] at HC
    clear hok
    go_enter Tryz.func22, Tryz.ntmps22
    go_wp2_with fail
    refine HC.out.mono ?_
    rintro e w1 ⟨rfl, b1⟩
    have k1 := k0.next b1
    go_wp2_with fail
    go_ret2
    exact ⟨_, rfl, by rw [HR.out]; exact Zs.nil _ _, k1.bel⟩
  | true =>
    have HR : Hid (s.ranks = s.syms.map Sy.rank) := Lib.hid (by simp [Sc.ranks, hok])
    have hlen := (Sc.good hok).sy_all.1
    rw [hok] at HC
    clear hok
    go_enter Tryz.func22, Tryz.ntmps22
    go_wp2_with fail
    refine HC.out.mono ?_
    rintro e w1 ⟨rfl, b1⟩
    have k1 := k0.next b1
    have hl1 := k1.b.lt
    have e0 := k1.b.cell 0
    simp at e0
    obtain ⟨A, _, c, he, hl, hnc, hc, hrd, hsz⟩ := hin.sy
    injection he with g1 g2 g3
    subst g1 g2 g3 hl
    have K1 := Lib.hid k1
    have hhi1 := k1.hi
    clear k0 b1 HC d0 d1 k1
    go_wp2_with fail
    go_loopw [13, 4] (fun i v wr => ∃ (k : Nat), k ≤ s.syms.length ∧ i = .int .i64 k ∧ Zs w.heap.size wr ((s.syms.take k).map Sy.rank) v ∧ Below w.heap.size w wr) (fun i _ _ => s.syms.length - (intOf i).toNat)
    case atStart => exact ⟨0, Nat.zero_le _, rfl, by simpa using Zs.nil _ _, K1.out.bel⟩
    case round =>
      obtain ⟨k, hk, rfl, hzs, hbel⟩ := hrel
      have hzr := hbel.size
      obtain ⟨A2, c2, hv, hlc2, hc2⟩ := hzs.form
      have hkl : ((s.syms.take k).map Sy.rank).length = k := by rw [List.length_map, List.length_take]; omega
      rw [hkl] at hv hlc2
      subst hv
      by_cases hlt : k < s.syms.length
      · have hx : s.syms[k]? = some s.syms[k] := List.getElem?_eq_getElem hlt
        obtain ⟨ad, rfl, hPa, hel⟩ := sy_el hrd hx
        obtain ⟨r0, r1⟩ := hel.keep (hbel.block _ (by omega))
        have hts : (s.syms.take (k + 1)).map Sy.rank = (s.syms.take k).map Sy.rank ++ [s.syms[k].rank] := by rw [List.take_add_one, hx, List.map_append]; rfl
        have hvb : ∀ b, (Value.slice A2 k c2).ownBlock = some b → w.heap.size ≤ b := fun b hb => (hzs.lt hb).1
        have hown : wr.ownsRow w.heap.size 3 1 (.slice A2 k c2) ((s.syms.take k).map Sy.rank).length (((s.syms.take k).map Sy.rank).map (Value.int .i64)) := hzs
        rw [hkl] at hown
        generalize (s.syms.take k).map Sy.rank = rl at *
        generalize s.syms[k] = x at *
        obtain ⟨name, rank⟩ := x
        simp only at r0 r1 hts
        have HTS := Lib.hid hts
        have HKL := Lib.hid hkl
        have hba := Blk.new wr 65 #[.string name, .int .i64 rank]
        have p1 := hba.cell 1
        simp at p1
        clear hx hel hts hkl hzs hba
        go_wp2_with
          (at_builtin
           refine wpList_append_lies _ rfl _ _ _ rfl w.heap.size 3 i0 _ 1 8 Tryz.underlying33 hi0 hz0 HZ1.out HZ2.out rfl (by omega) (.slice A2 k c2) k _ (by rfl) ((hown.alloc _).alloc _)
             ⟨wr.heap.size + 1, 0, none⟩ 1 1 [.int .i64 rank] (by rfl) (by rfl) (World.news_of_block (cs := #[.int .i64 rank]) (t := 3) (fr := (0, 0)) (by simpa using heap_alloc_new (wr.alloc (.cells #[.string name, .int .i64 rank] 65)) _)) (by simp [Value.oneCell']) (by omega) (by simp only [maxLen]; omega) (by omega) (by simp; omega) (wr.heap.size + 2) (by simp) ?_
           intro gg cap2 w3 hown3 hgrow hat3 hlt3)
        go_roundw
        case rel =>
          refine ⟨k + 1, by omega, by go_num, ?_, ?_⟩
          · show World.ownsRow _ _ _ _ _ _ _
            rw [HTS.out, List.length_append, HKL.out, List.map_append]
            exact hown3
          · exact ((hbel.alloc hzr _).alloc (by simp; omega) _).grown hgrow (by simp; omega) (fun b hb => by have := hvb b hb; omega)
        case measure => simp [intOf]; omega
      · have h1 : s.syms.take k = s.syms := List.take_of_length_le (by omega)
        have hzs' : Zs w.heap.size wr s.ranks (.slice A2 k c2) := by rw [HR.out]; rw [h1] at hzs; exact hzs
        clear h1 hzs hkl
        go_wp2_with fail
        go_ret2
        exact ⟨_, rfl, hzs', hbel⟩
end Go.Proofs.YthgkgjbjiiedaaaGreatDoor
