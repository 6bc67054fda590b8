/-
  term.areSymbols and the reference's Symbols: contracts.
-/
import Derived.Test.YtmggccgjhjknpaaPlace
import Derived.Test.YtmggccgjhjknpaaTMake
import Derived.Maps.OwnOps
import Derived.StringKeys
namespace Go.Proofs.Ytmggccgjhjknpaa
open Go.RowKit Go.ChangeShapes Go.WideShapes Go.ChangeMaps
open Go.Maps (Keyed IsMap)

theorem plainElem_bool_inv {H : Type} {P : Program} {e : TypeId} (he : P.underlying e = some .bool) {v : Value} {x : Bool} {ps : List MemPlace} (h : plainElem (H := H) P e v = some (.lit (.bool x), ps)) : v = .bool x := by
  unfold plainElem at h
  rw [he] at h
  cases v <;> simp at h
  rw [h.1]
/-- Block b is a map of the names l. -/
def Seen (w : World) (b n : Nat) (l : List (List UInt8)) : Prop :=
  ∃ D : DataW Unit, w.ownsMap Try.prog 9 (plainElem Try.prog 4) b n D ∧ IsMap D ∧ ∀ k : List UInt8, D.atKey (.string k) (.lit (.bool false)) = .lit (.bool (l.contains k))
theorem Seen.made (w : World) : Seen (w.alloc (.map #[] 0)) w.heap.size 0 [] :=
  ⟨.map [], World.ownsMap_made _ _ _ _, by simp [IsMap], fun k => by simp [WideAt.atKey_none]⟩
theorem Seen.kept {w w' : World} {b n : Nat} {l : List (List UInt8)} (h : Seen w b n l) {row : Option Nat} (hg : w.grownBy w' row) (hne : some b ≠ row) : Seen w' b n l := by
  obtain ⟨D, h1, h2, h3⟩ := h
  exact ⟨D, h1.kept hg hne, h2, h3⟩
theorem Seen.lt {w : World} {b n : Nat} {l : List (List UInt8)} (h : Seen w b n l) : b < w.heap.size := by
  obtain ⟨D, h1, _, _⟩ := h
  exact h1.lt
theorem Seen.look {w : World} {b n : Nat} {l : List (List UInt8)} (h : Seen w b n l) (s : ByteArray) (hs : s.size ≤ maxLen) :
    (Instr.lookup 92 (.map (some b)) (.string s) false).run Try.prog w = .ok (.bool (l.contains s.data.toList)) w := by
  obtain ⟨D, h1, h2, h3⟩ := h
  obtain ⟨v, ps, hrun, hv⟩ := h1.lookup (Maps.string_keyed Try.underlying9) Try.underlying92 (Try.zeroValue4 w) (plainElem_bool Try.underlying4 false) (WideMaps.keyOf_string_mk Try.underlying9 hs)
  rw [h3] at hv
  rw [hrun, plainElem_bool_inv Try.underlying4 hv]
theorem Seen.put {w : World} {b n : Nat} {l : List (List UInt8)} (h : Seen w b n l) (hn : n < maxLen) (s : ByteArray) (hs : s.size ≤ maxLen) :
    ∃ w', (Instr.mapUpdate 92 (.map (some b)) (.string s) (.bool true)).run Try.prog w = .ok () w' ∧ Seen w' b (n + 1) (l ++ [s.data.toList]) ∧ w.grownBy w' (some b) := by
  obtain ⟨D, h1, h2, h3⟩ := h
  obtain ⟨w', hrun, hown, hg⟩ := h1.update (Maps.string_keyed Try.underlying9) Try.underlying92 hn (WideMaps.keyOf_string_mk Try.underlying9 hs) (plainElem_bool Try.underlying4 true)
  refine ⟨w', hrun, ⟨_, hown, ?_, fun k => ?_⟩, hg⟩
  · obtain ⟨es, rfl⟩ := h2
    exact ⟨_, rfl⟩
  · by_cases hk : k = s.data.toList
    · subst hk
      rw [Maps.atKey_put_same h2 (by simp [WideAt.IsKeyLit])]
      simp
    · rw [Maps.atKey_put_other (by intro e; injection e with e; exact hk e), h3]
      have e : (l ++ [s.data.toList]).contains k = l.contains k := by rw [Bool.eq_iff_iff]; simp [hk]
      rw [e]

set_option maxRecDepth 100000 in
set_option maxHeartbeats 1600000 in
theorem areSymbols_any (l : List Sy) (v : Value) (w : World) (P : Nat → Prop) (hin : SyIn w P l v) (hold : Old P w) :
    Calls Try.prog 43 #[v] w fun e w' => e = .returned (.bool (symsB l)) ∧ Below w.heap.size w w' := by
  obtain ⟨A, _, c, rfl, rfl, hnc, hc, hrd, hsz⟩ := hin
  by_cases h24 : l.length ≤ 24
  · have HF0 : Hid (symsB l = syOkFrom [] l) := Lib.hid (by simp [symsB, h24])
    have hmm := @run_makeMap Try.prog
    go_enter Try.func43, Try.ntmps43
    go_wp2_with fail
    go_loopw [12] (fun i wr => ∃ k : Nat, k ≤ l.length ∧ i = .int .i64 k ∧ Hid (syOkFrom [] (l.take k) = true) ∧ Seen wr w.heap.size k ((l.take k).map nm) ∧ Below w.heap.size w wr) (fun i _ => l.length - (intOf i).toNat)
    case atStart => exact ⟨0, Nat.zero_le _, rfl, Lib.hid (by simp [syOkFrom]), by simpa using Seen.made w, (Below.refl _ _).alloc (Nat.le_refl _) _⟩
    case round =>
      obtain ⟨k, hk, rfl, hf, hsn, hbel⟩ := hrel
      clear hmm
      have hzr := hsn.lt
      by_cases hlt : k < l.length
      · have hx : l[k]? = some l[k] := List.getElem?_eq_getElem hlt
        obtain ⟨ad, rfl, hPa, hel⟩ := sy_el hrd hx
        obtain ⟨r0, r1⟩ := hel.keep (hbel.block _ (hold _ hPa))
        have hsx := hsz l[k] (List.getElem_mem hlt)
        have hbx : Below wr.heap.size wr (wr.alloc (.cells #[.string l[k].name, .int .i64 l[k].rank] 66)) := (Below.refl _ _).alloc (Nat.le_refl _) _
        have hsn1 := hsn.kept (World.grownBy_alloc wr (.cells #[.string l[k].name, .int .i64 l[k].rank] 66) none) (by simp)
        have hlook := hsn1.look l[k].name hsx
        have hok := @syOk_succ l k l[k] hx hf.out
        have hno := @syOk_false l k l[k] hx
        have hmapS : (l.take (k + 1)).map nm = (l.take k).map nm ++ [l[k].name.data.toList] := by rw [List.take_add_one, hx, List.map_append]; rfl
        unfold syOk1 nm at hok hno
        unfold nm at hlook hsn1 hmapS
        generalize (l.take k).map (fun x : Sy => x.name.data.toList) = seen at *
        generalize l[k] = x at *
        obtain ⟨name, rank⟩ := x
        simp only at *
        have HN := Lib.hid (isName_any name (wr.alloc (.cells #[.string name, .int .i64 rank] 66)) hsx)
        cases hnm : nameB name.data.toList with
        | false =>
          have HR : Hid (syOkFrom [] l = false) := Lib.hid (hno (by rw [hnm]; rfl))
          rw [hnm] at HN
          clear hx hel hok hno hmapS hnm hlook
          go_wp2_with (go_at_call 72; refine HN.out.mono ?_; rintro e w' ⟨rfl, rfl⟩)
          go_ret
          exact ⟨ret_bool (by rw [HF0.out, HR.out]), hbel.trans (hbx.mono (by omega))⟩
        | true =>
          rw [hnm] at HN
          cases hct : seen.contains name.data.toList with
          | true =>
            have HR : Hid (syOkFrom [] l = false) := Lib.hid (hno (by rw [hct]; simp))
            rw [hct] at hlook
            clear hx hel hok hno hmapS hnm hct
            go_wp2_with (go_at_call 72; refine HN.out.mono ?_; rintro e w' ⟨rfl, rfl⟩)
            go_ret
            exact ⟨ret_bool (by rw [HF0.out, HR.out]), hbel.trans (hbx.mono (by omega))⟩
          | false =>
            rw [hct] at hlook
            by_cases h0 : 0 ≤ rank
            · by_cases h4 : rank ≤ 4
              · have HR : Hid (syOkFrom [] (l.take (k + 1)) = true) := Lib.hid (hok (by rw [hnm, hct]; simp [rankB, h0, h4]))
                have HM := Lib.hid hmapS
                obtain ⟨w2, hput, hsn2, hg2⟩ := hsn1.put (by simp only [maxLen]; omega) name hsx
                clear hx hel hok hno hmapS hnm hct
                go_wp2_with (go_at_call 72; refine HN.out.mono ?_; rintro e w' ⟨rfl, rfl⟩)
                go_roundw
                case rel =>
                  refine ⟨k + 1, by omega, by go_num, HR, ?_, ?_⟩
                  · have := HM.out
                    unfold nm
                    rw [this]; exact hsn2
                  · exact (hbel.trans (hbx.mono (by omega))).grown hg2 (by simp; omega) (fun b hb => by injection hb with hb; omega)
                case measure => simp [intOf]; omega
              · have HR : Hid (syOkFrom [] l = false) := Lib.hid (hno (by simp [rankB, h4]))
                have h4' : 4 < rank := by omega
                clear hx hel hok hno hmapS hnm hct
                go_wp2_with (go_at_call 72; refine HN.out.mono ?_; rintro e w' ⟨rfl, rfl⟩)
                go_ret
                exact ⟨ret_bool (by rw [HF0.out, HR.out]), hbel.trans (hbx.mono (by omega))⟩
            · have HR : Hid (syOkFrom [] l = false) := Lib.hid (hno (by simp [rankB, h0]))
              have h0' : rank < 0 := by omega
              clear hx hel hok hno hmapS hnm hct
              go_wp2_with (go_at_call 72; refine HN.out.mono ?_; rintro e w' ⟨rfl, rfl⟩)
              go_ret
              exact ⟨ret_bool (by rw [HF0.out, HR.out]), hbel.trans (hbx.mono (by omega))⟩
      · have hll : l.take k = l := List.take_of_length_le (by omega)
        rw [hll] at hf
        clear hll
        go_wp2_with fail
        go_ret
        exact ⟨ret_bool (by rw [HF0.out, hf.out]), hbel⟩
  · have HF0 : Hid (symsB l = false) := Lib.hid (by simp [symsB, h24])
    have h24' : 24 < (l.length : Int) := by omega
    go_enter Try.func43, Try.ntmps43
    go_wp2_with fail
    go_ret
    exact ⟨ret_bool HF0.out.symm, Below.refl _ _⟩

theorem nm_eq {a b : ByteArray} (h : a.data.toList = b.data.toList) : a = b := by
  cases a; cases b
  simp only at h
  congr 1
  exact Array.toList_inj.1 h
theorem seen_succ {l : List Sy} {j : Nat} {y : Sy} (hy : l[j]? = some y) {t : List UInt8} (h : ((l.take j).map nm).contains t = false) (hne : nm y ≠ t) : ((l.take (j + 1)).map nm).contains t = false := by
  rw [List.take_add_one, hy, List.map_append]
  rw [Bool.eq_false_iff] at h ⊢
  intro hh
  simp only [List.contains_iff_mem, List.mem_append, Option.toList, List.map_cons, List.map_nil, List.mem_singleton] at hh h
  rcases hh with hh | hh
  · exact h (List.contains_iff_mem.2 hh)
  · exact hne hh.symm
theorem seen_hit {l : List Sy} {j k : Nat} {y : Sy} (hy : l[j]? = some y) (hjk : j < k) {t : List UInt8} (he : nm y = t) : ((l.take k).map nm).contains t = true := by
  rw [List.contains_iff_mem, List.mem_map]
  refine ⟨y, ?_, he⟩
  rw [List.mem_iff_getElem?]
  exact ⟨j, by rw [List.getElem?_take, if_pos hjk, hy]⟩

set_option maxRecDepth 100000 in
set_option maxHeartbeats 1600000 in
theorem refSymbols_any (l : List Sy) (v : Value) (w : World) (P : Nat → Prop) (hin : SyIn w P l v) (hold : Old P w) :
    Calls Try.prog 70 #[v] w fun e w' => e = .returned (.bool (symsB l)) ∧ Below w.heap.size w w' := by
  obtain ⟨A, _, c, rfl, rfl, hnc, hc, hrd, hsz⟩ := hin
  by_cases h24 : l.length ≤ 24
  · have HF0 : Hid (symsB l = syOkFrom [] l) := Lib.hid (by simp [symsB, h24])
    go_enter Try.func70, Try.ntmps70
    go_wp2_with fail
    go_loopw [12] (fun i wr => ∃ k : Nat, k ≤ l.length ∧ i = .int .i64 k ∧ Hid (syOkFrom [] (l.take k) = true) ∧ Below w.heap.size w wr) (fun i _ => l.length - (intOf i).toNat)
    case atStart => exact ⟨0, Nat.zero_le _, rfl, Lib.hid (by simp [syOkFrom]), Below.refl _ _⟩
    case round =>
      obtain ⟨k, hk, rfl, hf, hbel⟩ := hrel
      have hzr := hbel.size
      by_cases hlt : k < l.length
      · have hx : l[k]? = some l[k] := List.getElem?_eq_getElem hlt
        obtain ⟨ad, rfl, hPa, hel⟩ := sy_el hrd hx
        obtain ⟨r0, r1⟩ := hel.keep (hbel.block _ (hold _ hPa))
        have hsx := hsz l[k] (List.getElem_mem hlt)
        have hbx : Below wr.heap.size wr (wr.alloc (.cells #[.string l[k].name, .int .i64 l[k].rank] 66)) := (Below.refl _ _).alloc (Nat.le_refl _) _
        have hbb := Blk.new wr 66 #[.string l[k].name, .int .i64 l[k].rank]
        have hok := @syOk_succ l k l[k] hx hf.out
        have hno := @syOk_false l k l[k] hx
        unfold syOk1 at hok hno
        generalize hxe : l[k] = x at *
        clear hxe
        obtain ⟨name, rank⟩ := x
        have hnmx : nm ⟨name, rank⟩ = name.data.toList := rfl
        rw [hnmx] at hok hno
        simp only at *
        have HN := Lib.hid (refName_any name (wr.alloc (.cells #[.string name, .int .i64 rank] 66)) hsx)
        cases hnm : nameB name.data.toList with
        | false =>
          have HR : Hid (syOkFrom [] l = false) := Lib.hid (hno (by rw [hnm]; rfl))
          rw [hnm] at HN
          clear hx hel hok hno hnm
          go_wp2_with (go_at_call 93; refine HN.out.mono ?_; rintro e w' ⟨rfl, rfl⟩)
          go_ret
          exact ⟨ret_bool (by rw [HF0.out, HR.out]), hbel.trans (hbx.mono (by omega))⟩
        | true =>
          rw [hnm] at HN
          by_cases h0 : 0 ≤ rank
          · by_cases h4 : rank ≤ 4
            · have HOK := Lib.hid (fun (h : ((l.take k).map nm).contains name.data.toList = false) => hok (by rw [hnm, h]; simp [rankB, h0, h4]))
              have HNO := Lib.hid (fun (h : ((l.take k).map nm).contains name.data.toList = true) => hno (by rw [h]; simp))
              clear hx hel hok hno hnm
              go_wp2_with (go_at_call 93; refine HN.out.mono ?_; rintro e w' ⟨rfl, rfl⟩)
              go_loopw [35] (fun i wq => ∃ j : Nat, j ≤ k ∧ i = .int .i64 j ∧ Hid (((l.take j).map nm).contains name.data.toList = false) ∧ Blk wq wr.heap.size 66 #[.string name, .int .i64 rank] ∧ Below w.heap.size w wq) (fun i _ => k - (intOf i).toNat)
              case atStart => exact ⟨0, Nat.zero_le _, rfl, Lib.hid (by simp), hbb, hbel.trans (hbx.mono (by omega))⟩
              case round =>
                obtain ⟨j, hj, rfl, hg, hbq, hbelq⟩ := hrel
                have hzq := hbelq.size
                have hlq := hbq.lt
                have c0 := hbq.cell 0
                by_cases hltj : j < k
                · have hltl : j < l.length := by omega
                  have hy : l[j]? = some l[j] := List.getElem?_eq_getElem hltl
                  obtain ⟨ad2, hAd, hPa2, hel2⟩ := sy_el hrd hy
                  obtain ⟨q0, q1⟩ := hel2.keep (hbelq.block _ (hold _ hPa2))
                  have hAd := Option.some.inj hAd
                  subst hAd
                  have hby : Below wr.heap.size wr (wr.alloc (.cells #[.string l[j].name, .int .i64 l[j].rank] 66)) := (Below.refl _ _).alloc (Nat.le_refl _) _
                  have hsuc := @seen_succ l j l[j] hy name.data.toList hg.out
                  have hhit := @seen_hit l j k l[j] hy hltj name.data.toList
                  generalize l[j] = y at *
                  obtain ⟨name2, rank2⟩ := y
                  have hnmy : nm ⟨name2, rank2⟩ = name2.data.toList := rfl
                  rw [hnmy] at hsuc hhit
                  simp only at *
                  by_cases he : name = name2
                  · subst he
                    have HR : Hid (syOkFrom [] l = false) := Lib.hid (HNO.out (hhit rfl))
                    clear hy hel2 hsuc hhit hnmy hnmx
                    go_wp2_with fail
                    go_ret
                    exact ⟨ret_bool (by rw [HF0.out, HR.out]), hbelq.trans (hby.mono (by omega))⟩
                  · have HS : Hid (((l.take (j + 1)).map nm).contains name.data.toList = false) := Lib.hid (hsuc (fun e => he (nm_eq e.symm)))
                    have e1 : (name.toList == name2.toList) = false := beq_false_of_ne (fun e => he (nm_eq (by rw [← ByteArray.toList_eq, ← ByteArray.toList_eq]; exact e)))
                    clear hy hel2 hsuc hhit hnmy hnmx he
                    go_wp2_with fail
                    go_roundw
                    case rel => exact ⟨j + 1, by omega, by go_num, HS, hbq.alloc _, hbelq.trans (hby.mono (by omega))⟩
                    case measure => simp [intOf]; omega
                · have hjk : j = k := by omega
                  have hgk : ((l.take k).map nm).contains name.data.toList = false := by rw [← hjk]; exact hg.out
                  have HR := Lib.hid (HOK.out hgk)
                  clear hjk hgk hnmx
                  go_wp2_with fail
                  go_roundw
                  case rel => exact ⟨k + 1, by omega, by go_num, HR, hbelq⟩
                  case measure => simp [intOf]; omega
            · have HR : Hid (syOkFrom [] l = false) := Lib.hid (hno (by simp [rankB, h4]))
              have h4' : 4 < rank := by omega
              clear hx hel hok hno hnm
              go_wp2_with (go_at_call 93; refine HN.out.mono ?_; rintro e w' ⟨rfl, rfl⟩)
              go_ret
              exact ⟨ret_bool (by rw [HF0.out, HR.out]), hbel.trans (hbx.mono (by omega))⟩
          · have HR : Hid (syOkFrom [] l = false) := Lib.hid (hno (by simp [rankB, h0]))
            have h0' : rank < 0 := by omega
            clear hx hel hok hno hnm
            go_wp2_with (go_at_call 93; refine HN.out.mono ?_; rintro e w' ⟨rfl, rfl⟩)
            go_ret
            exact ⟨ret_bool (by rw [HF0.out, HR.out]), hbel.trans (hbx.mono (by omega))⟩
      · have hll : l.take k = l := List.take_of_length_le (by omega)
        rw [hll] at hf
        clear hll
        go_wp2_with fail
        go_ret
        exact ⟨ret_bool (by rw [HF0.out, hf.out]), hbel⟩
  · have HF0 : Hid (symsB l = false) := Lib.hid (by simp [symsB, h24])
    have h24' : 24 < (l.length : Int) := by omega
    go_enter Try.func70, Try.ntmps70
    go_wp2_with fail
    go_ret
    exact ⟨ret_bool HF0.out.symm, Below.refl _ _⟩
end Go.Proofs.Ytmggccgjhjknpaa
