/-
  names.Different at symbols and at functions of a scheme: contracts.
-/
import Derived.Test.YtkkfdiidneoelaaDoorSeen
import Derived.Test.YtkkfdiidneoelaaDoorFun
namespace Go.Proofs.YtkkfdiidneoelaaDoor
open Go.RowKit

/-- Names that are names, each once. -/
def diffFrom (seen : List (List UInt8)) : List (List UInt8) → Bool
  | [] => true
  | x :: r => nameB x && (!seen.contains x && diffFrom (seen ++ [x]) r)
theorem diffFrom_split : ∀ (l : List (List UInt8)) (seen : List (List UInt8)) (k : Nat), diffFrom seen l = (diffFrom seen (l.take k) && diffFrom (seen ++ l.take k) (l.drop k))
  | [], seen, k => by simp [diffFrom]
  | x :: r, seen, 0 => by simp [diffFrom]
  | x :: r, seen, k + 1 => by
    have := diffFrom_split r (seen ++ [x]) k
    simp only [diffFrom, List.take_succ_cons, List.drop_succ_cons]
    rw [this]
    simp [Bool.and_assoc]
theorem diff_succ {l : List (List UInt8)} {k : Nat} {x : List UInt8} (hx : l[k]? = some x) (h : diffFrom [] (l.take k) = true) (h1 : nameB x = true) (h2 : (l.take k).contains x = false) : diffFrom [] (l.take (k + 1)) = true := by
  have hlt : k < l.length := (List.getElem?_eq_some_iff.1 hx).1
  have e : l.take (k + 1) = l.take k ++ [x] := by rw [List.take_add_one, hx]; rfl
  have := diffFrom_split (l.take (k + 1)) [] k
  rw [this, List.take_take, Nat.min_eq_left (by omega), h, Bool.true_and, e, List.drop_left' (by simp; omega)]
  simp only [diffFrom, List.nil_append, h1, h2, Bool.not_false, Bool.and_self]
theorem diff_false {l : List (List UInt8)} {k : Nat} {x : List UInt8} (hx : l[k]? = some x) (h1 : nameB x = false ∨ (l.take k).contains x = true) : diffFrom [] l = false := by
  have hlt : k < l.length := (List.getElem?_eq_some_iff.1 hx).1
  rw [diffFrom_split l [] k, List.drop_eq_getElem_cons hlt]
  have hxe : l[k] = x := by rw [List.getElem?_eq_getElem hlt] at hx; exact Option.some.inj hx
  rw [hxe]
  rw [Bool.eq_false_iff]
  intro hh
  simp only [diffFrom, List.nil_append, Bool.and_eq_true, Bool.not_eq_true'] at hh
  rcases h1 with h1 | h1
  · rw [h1] at hh; exact Bool.noConfusion hh.2.1
  · rw [h1] at hh; exact Bool.noConfusion hh.2.2.1
theorem symbolName_any (name : ByteArray) (rank : Int) (w : World) :
    Calls Tryd.prog 74 #[.agg #[.string name, .int .i64 rank]] w fun e w' => e = .returned (.string name) ∧ Below w.heap.size w w' := by
  go_enter Tryd.func74, Tryd.ntmps74
  go_wp2_with fail
  go_ret
  exact ⟨rfl, (Below.refl _ _).alloc (Nat.le_refl _) _⟩
/-- A function's name. -/
def fnm (f : Fn) : List UInt8 := f.name.data.toList

set_option maxRecDepth 100000 in
set_option maxHeartbeats 1600000 in
theorem diffSy_any (l : List Sy) (v : Value) (w : World) (P : Nat → Prop) (hin : SyIn w P l v) (hold : Old P w) :
    Calls Tryd.prog 73 #[v, .func (.func 74) #[] #[]] w fun e w' => e = .returned (.bool (diffFrom [] (l.map nm))) ∧ Below w.heap.size w w' := by
  obtain ⟨A, _, c, rfl, rfl, hnc, hc, hrd, hsz⟩ := hin
  have hmm := @run_makeMap Tryd.prog
  go_enter Tryd.func73, Tryd.ntmps73
  go_wp2_with fail
  go_loopw [12] (fun i wr => ∃ k : Nat, k ≤ l.length ∧ i = .int .i64 k ∧ Hid (diffFrom [] ((l.map nm).take k) = true) ∧ Seen wr w.heap.size k ((l.map nm).take k) ∧ Below w.heap.size w wr) (fun i _ => l.length - (intOf i).toNat)
  case atStart => exact ⟨0, Nat.zero_le _, rfl, Lib.hid (by simp [diffFrom]), by simpa using Seen.made w, (Below.refl _ _).alloc (Nat.le_refl _) _⟩
  case round =>
    obtain ⟨k, hk, rfl, hf, hsn, hbel⟩ := hrel
    clear hmm
    have hzr := hsn.lt
    by_cases hlt : k < l.length
    · have hx : l[k]? = some l[k] := List.getElem?_eq_getElem hlt
      obtain ⟨ad, rfl, hPa, hel⟩ := sy_el hrd hx
      obtain ⟨r0, r1⟩ := hel.keep (hbel.block _ (hold _ hPa))
      have hsx := hsz l[k] (List.getElem_mem hlt)
      generalize l[k] = x at *
      obtain ⟨name, rank⟩ := x
      simp only at r0 r1 hsx
      have hxm : (l.map nm)[k]? = some name.data.toList := by rw [List.getElem?_map, hx]; rfl
      have hok := @diff_succ (l.map nm) k name.data.toList hxm hf.out
      have hno := @diff_false (l.map nm) k name.data.toList hxm
      have hseen : (l.map nm).take (k + 1) = (l.map nm).take k ++ [name.data.toList] := by rw [List.take_add_one, hxm]; rfl
      generalize (l.map nm).take k = seen at *
      have hbx : Below wr.heap.size wr (wr.alloc (.cells #[.string name, .int .i64 rank] 57)) := (Below.refl _ _).alloc (Nat.le_refl _) _
      have hbb := Blk.new wr 57 #[.string name, .int .i64 rank]
      have d0 := hbb.cell 0
      have d1 := hbb.cell 1
      clear hel
      have HNM := Lib.hid (fun W => symbolName_any name rank W)
      have HIS := Lib.hid (fun W => isName_any name W hsx)
      have HL : Hid (∀ W, Below (wr.heap.size + 1) (wr.alloc (.cells #[.string name, .int .i64 rank] 57)) W → Seen W w.heap.size k seen) :=
        Lib.hid (fun W hW => hsn.kept (w' := W) ⟨(hbx.trans (hW.mono (by omega))).os, (hbx.trans (hW.mono (by omega))).tape, (hbx.trans (hW.mono (by omega))).output, (hbx.trans (hW.mono (by omega))).size, fun q hq _ => (hbx.trans (hW.mono (by omega))).block q hq⟩ (row := none) (by simp))
      cases hnm : nameB name.data.toList with
      | false =>
        have HR : Hid (diffFrom [] (l.map nm) = false) := Lib.hid (hno (.inl hnm))
        rw [hnm] at HIS
        clear hx hxm hok hno hseen hnm
        go_wp2_with fail
        refine (HNM.out _).mono ?_
        rintro e w1 ⟨rfl, b1⟩
        simp only [World.size_alloc] at b1
        go_wp2_with fail
        refine (HIS.out _).mono ?_
        rintro e w2 ⟨rfl, b2⟩
        have z1 := b1.size
        simp only [World.size_alloc] at z1
        go_wp2_with fail
        go_ret
        exact ⟨ret_bool HR.out.symm, ((hbel.trans (hbx.mono (by omega))).trans (b1.mono (by omega))).trans (b2.mono (by omega))⟩
      | true =>
        rw [hnm] at HIS
        cases hct : seen.contains name.data.toList with
        | true =>
          have HR : Hid (diffFrom [] (l.map nm) = false) := Lib.hid (hno (.inr hct))
          have HCT := Lib.hid hct
          clear hx hxm hok hno hseen hnm hct
          go_wp2_with fail
          refine (HNM.out _).mono ?_
          rintro e w1 ⟨rfl, b1⟩
          simp only [World.size_alloc] at b1
          go_wp2_with fail
          refine (HIS.out _).mono ?_
          rintro e w2 ⟨rfl, b2⟩
          have z1 := b1.size
          simp only [World.size_alloc] at z1
          have hlook := (HL.out w2 (b1.trans (b2.mono (by omega)))).look name hsx
          rw [HCT.out] at hlook
          go_wp2_with fail
          go_ret
          exact ⟨ret_bool HR.out.symm, ((hbel.trans (hbx.mono (by omega))).trans (b1.mono (by omega))).trans (b2.mono (by omega))⟩
        | false =>
          have HR : Hid (diffFrom [] ((l.map nm).take (k + 1)) = true) := Lib.hid (hok hnm hct)
          have HM := Lib.hid hseen
          have HCT := Lib.hid hct
          clear hx hxm hok hno hseen hnm hct
          go_wp2_with fail
          refine (HNM.out _).mono ?_
          rintro e w1 ⟨rfl, b1⟩
          simp only [World.size_alloc] at b1
          go_wp2_with fail
          refine (HIS.out _).mono ?_
          rintro e w2 ⟨rfl, b2⟩
          have z1 := b1.size
          have z2 := b2.size
          simp only [World.size_alloc] at z1
          have hs2 := HL.out w2 (b1.trans (b2.mono (by omega)))
          have hlook := hs2.look name hsx
          rw [HCT.out] at hlook
          obtain ⟨w3, hput, hsn2, hg2⟩ := hs2.put (by simp only [maxLen]; omega) name hsx
          go_wp2_with fail
          go_roundw
          case rel =>
            refine ⟨k + 1, by omega, by go_num, HR, ?_, ?_⟩
            · rw [HM.out]; exact hsn2
            · exact (((hbel.trans (hbx.mono (by omega))).trans (b1.mono (by omega))).trans (b2.mono (by omega))).grown hg2 (by omega) (fun b hb => by injection hb with hb; omega)
          case measure => simp [intOf]; omega
    · have hll : (l.map nm).take k = l.map nm := List.take_of_length_le (by simp; omega)
      rw [hll] at hf
      clear hll
      go_wp2_with fail
      go_ret
      exact ⟨ret_bool hf.out.symm, hbel⟩

end Go.Proofs.YtkkfdiidneoelaaDoor
