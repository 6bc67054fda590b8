/-
  term.areSymbols and the reference's Symbols: contracts.
-/
import Derived.Test.YtkkfdiidneoelaaDoorDiff
namespace Go.Proofs.YtkkfdiidneoelaaDoor
open Go.RowKit

theorem syOk_diff : ∀ (l : List Sy) (seen : List (List UInt8)), syOkFrom seen l = (diffFrom seen (l.map nm) && l.all fun x => rankB x.rank)
  | [], seen => rfl
  | x :: r, seen => by
    simp only [syOkFrom, List.map_cons, diffFrom, List.all_cons, syOk_diff r, nm]
    cases nameB x.name.data.toList <;> cases seen.contains x.name.data.toList <;> cases rankB x.rank <;> simp

theorem wrongRank_any (name : ByteArray) (rank : Int) (w : World) :
    Calls Tryd.prog 76 #[.agg #[.string name, .int .i64 rank]] w fun e w' => e = .returned (.bool (!rankB rank)) ∧ Below w.heap.size w w' := by
  by_cases h0 : rank < 0
  · have HR : Hid (true = !rankB rank) := Lib.hid (by
      have a : ¬ 0 ≤ rank := by omega
      simp [rankB, a])
    have h0' : decide (rank < 0) = true := decide_eq_true h0
    clear h0
    go_enter Tryd.func76, Tryd.ntmps76
    go_wp2_with fail
    go_ret
    exact ⟨ret_bool HR.out, (Below.refl _ _).alloc (Nat.le_refl _) _⟩
  · have HR : Hid (decide (4 < rank) = !rankB rank) := Lib.hid (by
      have a : 0 ≤ rank := by omega
      by_cases h4 : 4 < rank
      · have b : ¬ rank ≤ 4 := by omega
        simp [rankB, h4, b]
      · have b : rank ≤ 4 := by omega
        simp [rankB, h4, a, b])
    have h0' : decide (rank < 0) = false := decide_eq_false h0
    clear h0
    go_enter Tryd.func76, Tryd.ntmps76
    go_wp2_with fail
    go_ret
    exact ⟨ret_bool HR.out, (Below.refl _ _).alloc (Nat.le_refl _) _⟩

def rankA (x : Sy) : Bool := rankB x.rank
theorem rankA_succ {l : List Sy} {k : Nat} {x : Sy} (hx : l[k]? = some x) : (l.take (k + 1)).all rankA = ((l.take k).all rankA && rankB x.rank) := by
  rw [List.take_add_one, hx, List.all_append]; simp [rankA]
theorem rankA_false {l : List Sy} {k : Nat} {x : Sy} (hx : l[k]? = some x) (h : rankB x.rank = false) : l.all rankA = false := by
  rw [Bool.eq_false_iff]
  intro hh
  rw [List.all_eq_true] at hh
  have := hh x (List.mem_of_getElem? hx)
  rw [rankA, h] at this; cases this

set_option maxHeartbeats 800000 in
theorem indexSy_any (l : List Sy) (v : Value) (w : World) (P : Nat → Prop) (hin : SyIn w P l v) (hold : Old P w) :
    Calls Tryd.prog 95 #[v, .func (.func 76) #[] #[]] w fun e w' => ∃ i : Int, e = .returned (.int .i64 i) ∧ decide (0 ≤ i) = (!l.all rankA) ∧ Below w.heap.size w w' := by
  obtain ⟨A, _, c, rfl, rfl, hnc, hc, hrd, hsz⟩ := hin
  go_enter Tryd.func95, Tryd.ntmps95
  go_wp2_with fail
  go_loopw [8] (fun i wr => ∃ k : Nat, k ≤ l.length ∧ i = .int .i64 k ∧ Hid ((l.take k).all rankA = true) ∧ Below w.heap.size w wr) (fun i _ => l.length - (intOf i).toNat)
  case atStart => exact ⟨0, Nat.zero_le _, rfl, Lib.hid (by simp), Below.refl _ _⟩
  case round =>
    obtain ⟨k, hk, rfl, hf, hbel⟩ := hrel
    have hzr := hbel.size
    by_cases hlt : k < l.length
    · have hx : l[k]? = some l[k] := List.getElem?_eq_getElem hlt
      obtain ⟨ad, rfl, hPa, hel⟩ := sy_el hrd hx
      obtain ⟨r0, r1⟩ := hel.keep (hbel.block _ (hold _ hPa))
      have hsucc := rankA_succ hx
      have hfin := @rankA_false l k l[k] hx
      rw [hf.out, Bool.true_and] at hsucc
      generalize l[k] = x at *
      obtain ⟨name, rank⟩ := x
      simp only at r0 r1
      have HC := Lib.hid (fun W => wrongRank_any name rank W)
      cases hok : rankB rank with
      | true =>
        have HS := Lib.hid (hsucc.trans hok)
        rw [hok] at HC
        clear hx hsucc hfin hok hel
        go_wp2_with fail
        refine (HC.out _).mono ?_
        rintro e w1 ⟨rfl, hb1⟩
        go_wp2_with fail
        go_roundw
        case rel => exact ⟨k + 1, by omega, by go_num, HS, hbel.trans (hb1.mono (by omega))⟩
        case measure => simp [intOf]; omega
      | false =>
        have HS := Lib.hid (hfin hok)
        rw [hok] at HC
        clear hx hsucc hfin hok hel
        go_wp2_with fail
        refine (HC.out _).mono ?_
        rintro e w1 ⟨rfl, hb1⟩
        go_wp2_with fail
        go_ret
        exact ⟨(k : Int), rfl, by rw [HS.out]; simp, hbel.trans (hb1.mono (by omega))⟩
    · have hll : l.take k = l := List.take_of_length_le (by omega)
      rw [hll] at hf
      clear hll
      go_wp2_with fail
      go_ret
      exact ⟨-1, rfl, by rw [hf.out]; rfl, hbel⟩

set_option maxHeartbeats 800000 in
theorem containsSy_any (l : List Sy) (v : Value) (w : World) (P : Nat → Prop) (hin : SyIn w P l v) (hold : Old P w) :
    Calls Tryd.prog 75 #[v, .func (.func 76) #[] #[]] w fun e w' => e = .returned (.bool (!l.all rankA)) ∧ Below w.heap.size w w' := by
  have HC := Lib.hid (indexSy_any l v w P hin hold)
  obtain ⟨A, n, c, rfl, _⟩ := hin
  go_enter Tryd.func75, Tryd.ntmps75
  go_wp2_with fail
  refine HC.out.mono ?_
  rintro e w1 ⟨i, rfl, hi1, hb1⟩
  have HI := Lib.hid hi1
  clear hi1
  go_wp2_with fail
  go_ret
  exact ⟨ret_bool HI.out, hb1⟩

set_option maxHeartbeats 800000 in
theorem areSymbols_any (l : List Sy) (v : Value) (w : World) (P : Nat → Prop) (hin : SyIn w P l v) (hold : Old P w) :
    Calls Tryd.prog 51 #[v] w fun e w' => e = .returned (.bool (symsB l)) ∧ Below w.heap.size w w' := by
  have HD := Lib.hid (diffSy_any l v w P hin hold)
  have HC := Lib.hid (fun W (hb : Below w.heap.size w W) => containsSy_any l v W P (hin.old hold hb) (hold.bel hb))
  have hS : symsB l = (decide (l.length ≤ 24) && (diffFrom [] (l.map nm) && l.all rankA)) := by rw [symsB, syOk_diff]; rfl
  obtain ⟨A, _, c, rfl, rfl, hnc, hc, _⟩ := hin
  by_cases h24 : l.length ≤ 24
  · cases hd : diffFrom [] (l.map nm) with
    | false =>
      have HF : Hid (symsB l = false) := Lib.hid (by rw [hS, hd]; simp)
      rw [hd] at HD
      clear hd hS
      go_enter Tryd.func51, Tryd.ntmps51
      go_wp2_with fail
      refine HD.out.mono ?_
      rintro e w1 ⟨rfl, b1⟩
      go_wp2_with fail
      go_ret
      exact ⟨ret_bool HF.out.symm, b1⟩
    | true =>
      have HF : Hid (l.all rankA = symsB l) := Lib.hid (by rw [hS, hd]; simp [h24])
      rw [hd] at HD
      clear hd hS
      go_enter Tryd.func51, Tryd.ntmps51
      go_wp2_with fail
      refine HD.out.mono ?_
      rintro e w1 ⟨rfl, b1⟩
      have z1 := b1.size
      go_wp2_with fail
      refine (HC.out w1 b1).mono ?_
      rintro e w2 ⟨rfl, b2⟩
      go_wp2_with fail
      go_ret
      exact ⟨ret_bool HF.out, b1.trans (b2.mono (by omega))⟩
  · have HF : Hid (symsB l = false) := Lib.hid (by simp [symsB, h24])
    have h24' : 24 < (l.length : Int) := by omega
    clear hS
    go_enter Tryd.func51, Tryd.ntmps51
    go_wp2_with fail
    go_ret
    exact ⟨ret_bool HF.out.symm, Below.refl _ _⟩

theorem nm_eq {a b : ByteArray} (h : a.data.toList = b.data.toList) : a = b := by
  cases a; cases b
  simp only at h
  congr 1
  exact Array.toList_inj.1 h
theorem seen_succ {l : List Sy} {j : Nat} {y : Sy} (hy : l[j]? = some y) {t : List UInt8} (h : ((l.take j).map nm).contains t = false) (hne : nm y ≠ t) : ((l.take (j + 1)).map nm).contains t = false := by
  rw [List.take_add_one, hy, List.map_append]
  rw [Bool.eq_false_iff] at h ⊢
  intro hh
  simp only [List.contains_iff_mem, List.mem_append, Option.toList, List.map_cons, List.map_nil, List.mem_singleton] at hh h
  rcases hh with hh | hh
  · exact h (List.contains_iff_mem.2 hh)
  · exact hne hh.symm
theorem seen_hit {l : List Sy} {j k : Nat} {y : Sy} (hy : l[j]? = some y) (hjk : j < k) {t : List UInt8} (he : nm y = t) : ((l.take k).map nm).contains t = true := by
  rw [List.contains_iff_mem, List.mem_map]
  refine ⟨y, ?_, he⟩
  rw [List.mem_iff_getElem?]
  exact ⟨j, by rw [List.getElem?_take, if_pos hjk, hy]⟩

set_option maxRecDepth 100000 in
set_option maxHeartbeats 1600000 in
theorem refSymbols_any (l : List Sy) (v : Value) (w : World) (P : Nat → Prop) (hin : SyIn w P l v) (hold : Old P w) :
    Calls Tryd.prog 29 #[v] w fun e w' => e = .returned (.bool (symsB l)) ∧ Below w.heap.size w w' := by
  obtain ⟨A, _, c, rfl, rfl, hnc, hc, hrd, hsz⟩ := hin
  by_cases h24 : l.length ≤ 24
  · have HF0 : Hid (symsB l = syOkFrom [] l) := Lib.hid (by simp [symsB, h24])
    go_enter Tryd.func29, Tryd.ntmps29
    go_wp2_with fail
    go_loopw [12] (fun i wr => ∃ k : Nat, k ≤ l.length ∧ i = .int .i64 k ∧ Hid (syOkFrom [] (l.take k) = true) ∧ Below w.heap.size w wr) (fun i _ => l.length - (intOf i).toNat)
    case atStart => exact ⟨0, Nat.zero_le _, rfl, Lib.hid (by simp [syOkFrom]), Below.refl _ _⟩
    case round =>
      obtain ⟨k, hk, rfl, hf, hbel⟩ := hrel
      have hzr := hbel.size
      by_cases hlt : k < l.length
      · have hx : l[k]? = some l[k] := List.getElem?_eq_getElem hlt
        obtain ⟨ad, rfl, hPa, hel⟩ := sy_el hrd hx
        obtain ⟨r0, r1⟩ := hel.keep (hbel.block _ (hold _ hPa))
        have hsx := hsz l[k] (List.getElem_mem hlt)
        have hbx : Below wr.heap.size wr (wr.alloc (.cells #[.string l[k].name, .int .i64 l[k].rank] 57)) := (Below.refl _ _).alloc (Nat.le_refl _) _
        have hbb := Blk.new wr 57 #[.string l[k].name, .int .i64 l[k].rank]
        have hok := @syOk_succ l k l[k] hx hf.out
        have hno := @syOk_false l k l[k] hx
        unfold syOk1 at hok hno
        generalize hxe : l[k] = x at *
        clear hxe
        obtain ⟨name, rank⟩ := x
        have hnmx : nm ⟨name, rank⟩ = name.data.toList := rfl
        rw [hnmx] at hok hno
        simp only at *
        have HN := Lib.hid (refName_any name (wr.alloc (.cells #[.string name, .int .i64 rank] 57)) hsx)
        cases hnm : nameB name.data.toList with
        | false =>
          have HR : Hid (syOkFrom [] l = false) := Lib.hid (hno (by rw [hnm]; rfl))
          rw [hnm] at HN
          clear hx hel hok hno hnm
          go_wp2_with (go_at_call 30; refine HN.out.mono ?_; rintro e w' ⟨rfl, rfl⟩)
          go_ret
          exact ⟨ret_bool (by rw [HF0.out, HR.out]), hbel.trans (hbx.mono (by omega))⟩
        | true =>
          rw [hnm] at HN
          by_cases h0 : 0 ≤ rank
          · by_cases h4 : rank ≤ 4
            · have HOK := Lib.hid (fun (h : ((l.take k).map nm).contains name.data.toList = false) => hok (by rw [hnm, h]; simp [rankB, h0, h4]))
              have HNO := Lib.hid (fun (h : ((l.take k).map nm).contains name.data.toList = true) => hno (by rw [h]; simp))
              clear hx hel hok hno hnm
              go_wp2_with (go_at_call 30; refine HN.out.mono ?_; rintro e w' ⟨rfl, rfl⟩)
              go_loopw [35] (fun i wq => ∃ j : Nat, j ≤ k ∧ i = .int .i64 j ∧ Hid (((l.take j).map nm).contains name.data.toList = false) ∧ Blk wq wr.heap.size 57 #[.string name, .int .i64 rank] ∧ Below w.heap.size w wq) (fun i _ => k - (intOf i).toNat)
              case atStart => exact ⟨0, Nat.zero_le _, rfl, Lib.hid (by simp), hbb, hbel.trans (hbx.mono (by omega))⟩
              case round =>
                obtain ⟨j, hj, rfl, hg, hbq, hbelq⟩ := hrel
                have hzq := hbelq.size
                have hlq := hbq.lt
                have c0 := hbq.cell 0
                by_cases hltj : j < k
                · have hltl : j < l.length := by omega
                  have hy : l[j]? = some l[j] := List.getElem?_eq_getElem hltl
                  obtain ⟨ad2, hAd, hPa2, hel2⟩ := sy_el hrd hy
                  obtain ⟨q0, q1⟩ := hel2.keep (hbelq.block _ (hold _ hPa2))
                  have hAd := Option.some.inj hAd
                  subst hAd
                  have hby : Below wr.heap.size wr (wr.alloc (.cells #[.string l[j].name, .int .i64 l[j].rank] 57)) := (Below.refl _ _).alloc (Nat.le_refl _) _
                  have hsuc := @seen_succ l j l[j] hy name.data.toList hg.out
                  have hhit := @seen_hit l j k l[j] hy hltj name.data.toList
                  generalize l[j] = y at *
                  obtain ⟨name2, rank2⟩ := y
                  have hnmy : nm ⟨name2, rank2⟩ = name2.data.toList := rfl
                  rw [hnmy] at hsuc hhit
                  simp only at *
                  by_cases he : name = name2
                  · subst he
                    have HR : Hid (syOkFrom [] l = false) := Lib.hid (HNO.out (hhit rfl))
                    clear hy hel2 hsuc hhit hnmy hnmx
                    go_wp2_with fail
                    go_ret
                    exact ⟨ret_bool (by rw [HF0.out, HR.out]), hbelq.trans (hby.mono (by omega))⟩
                  · have HS : Hid (((l.take (j + 1)).map nm).contains name.data.toList = false) := Lib.hid (hsuc (fun e => he (nm_eq e.symm)))
                    have e1 : (name.toList == name2.toList) = false := beq_false_of_ne (fun e => he (nm_eq (by rw [← ByteArray.toList_eq, ← ByteArray.toList_eq]; exact e)))
                    clear hy hel2 hsuc hhit hnmy hnmx he
                    go_wp2_with fail
                    go_roundw
                    case rel => exact ⟨j + 1, by omega, by go_num, HS, hbq.alloc _, hbelq.trans (hby.mono (by omega))⟩
                    case measure => simp [intOf]; omega
                · have hjk : j = k := by omega
                  have hgk : ((l.take k).map nm).contains name.data.toList = false := by rw [← hjk]; exact hg.out
                  have HR := Lib.hid (HOK.out hgk)
                  clear hjk hgk hnmx
                  go_wp2_with fail
                  go_roundw
                  case rel => exact ⟨k + 1, by omega, by go_num, HR, hbelq⟩
                  case measure => simp [intOf]; omega
            · have HR : Hid (syOkFrom [] l = false) := Lib.hid (hno (by simp [rankB, h4]))
              have h4' : 4 < rank := by omega
              clear hx hel hok hno hnm
              go_wp2_with (go_at_call 30; refine HN.out.mono ?_; rintro e w' ⟨rfl, rfl⟩)
              go_ret
              exact ⟨ret_bool (by rw [HF0.out, HR.out]), hbel.trans (hbx.mono (by omega))⟩
          · have HR : Hid (syOkFrom [] l = false) := Lib.hid (hno (by simp [rankB, h0]))
            have h0' : rank < 0 := by omega
            clear hx hel hok hno hnm
            go_wp2_with (go_at_call 30; refine HN.out.mono ?_; rintro e w' ⟨rfl, rfl⟩)
            go_ret
            exact ⟨ret_bool (by rw [HF0.out, HR.out]), hbel.trans (hbx.mono (by omega))⟩
      · have hll : l.take k = l := List.take_of_length_le (by omega)
        rw [hll] at hf
        clear hll
        go_wp2_with fail
        go_ret
        exact ⟨ret_bool (by rw [HF0.out, hf.out]), hbel⟩
  · have HF0 : Hid (symsB l = false) := Lib.hid (by simp [symsB, h24])
    have h24' : 24 < (l.length : Int) := by omega
    go_enter Tryd.func29, Tryd.ntmps29
    go_wp2_with fail
    go_ret
    exact ⟨ret_bool HF0.out.symm, Below.refl _ _⟩
end Go.Proofs.YtkkfdiidneoelaaDoor
