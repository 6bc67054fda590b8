/-
  names.Different at loose functions: a contract.
-/
import Derived.Test.YtkkfdiidneoelaaDoorDiff
import Derived.Test.YtkkfdiidneoelaaDoorILoose
namespace Go.Proofs.YtkkfdiidneoelaaDoor
open Go.RowKit

/-- A function's name. -/
def lznm (f : Lz) : List UInt8 := f.name.data.toList

set_option maxRecDepth 100000 in
set_option maxHeartbeats 1600000 in
theorem diffLz_any (l : List Lz) (v : Value) (w : World) (hi : Nat) (hin : LzIn w hi l v) (hhi : hi ≤ w.heap.size) :
    Calls Tryd.prog 26 #[v, .func (.func 27) #[] #[]] w fun e w' => e = .returned (.bool (diffFrom [] (l.map lznm))) ∧ Below w.heap.size w w' := by
  obtain ⟨A, _, c, us, rfl, rfl, hnc, hc, hrd, hrow⟩ := hin
  have hmm := @run_makeMap Tryd.prog
  go_enter Tryd.func26, Tryd.ntmps26
  go_wp2_with fail
  go_loopw [12] (fun i wr => ∃ k : Nat, k ≤ l.length ∧ i = .int .i64 k ∧ Hid (diffFrom [] ((l.map lznm).take k) = true) ∧ Seen wr w.heap.size k ((l.map lznm).take k) ∧ Below w.heap.size w wr) (fun i _ => l.length - (intOf i).toNat)
  case atStart => exact ⟨0, Nat.zero_le _, rfl, Lib.hid (by simp [diffFrom]), by simpa using Seen.made w, (Below.refl _ _).alloc (Nat.le_refl _) _⟩
  case round =>
    obtain ⟨k, hk, rfl, hf, hsn, hbel⟩ := hrel
    clear hmm
    have hzr := hsn.lt
    by_cases hlt : k < l.length
    · have hx : l[k]? = some l[k] := List.getElem?_eq_getElem hlt
      obtain ⟨ad, v, rfl, hPa, hel, hbv, hsx⟩ := lz_el hrd hrow hx
      obtain ⟨r0, r1, r2, r3, r4⟩ := hel.keep (hbel.block _ (by omega))
      obtain ⟨A2, n2, c2, rfl⟩ := hbv.form
      generalize l[k] = x at *
      obtain ⟨name, params, body⟩ := x
      simp only at r0 r1 r2 r3 r4 hsx
      have hxm : (l.map lznm)[k]? = some name.data.toList := by rw [List.getElem?_map, hx]; rfl
      have hok := @diff_succ (l.map lznm) k name.data.toList hxm hf.out
      have hno := @diff_false (l.map lznm) k name.data.toList hxm
      have hseen : (l.map lznm).take (k + 1) = (l.map lznm).take k ++ [name.data.toList] := by rw [List.take_add_one, hxm]; rfl
      generalize (l.map lznm).take k = seen at *
      have hbx : Below wr.heap.size wr (wr.alloc (.cells #[.string name, .int .i64 params, .int .i64 body.kind, .int .i64 body.num, .slice A2 n2 c2] 48)) := (Below.refl _ _).alloc (Nat.le_refl _) _
      have hbb := Blk.new wr 48 #[.string name, .int .i64 params, .int .i64 body.kind, .int .i64 body.num, .slice A2 n2 c2]
      have d0 := hbb.cell 0
      have d1 := hbb.cell 1
      have d2 := hbb.cell 2
      have d3 := hbb.cell 3
      have d4 := hbb.cell 4
      clear hel hbv
      have HNM := Lib.hid (fun W => looseName_any ⟨name, params, body⟩ (.slice A2 n2 c2) ⟨_, _, _, rfl⟩ W)
      have HIS := Lib.hid (fun W => isName_any name W hsx)
      have HL : Hid (∀ W, Below (wr.heap.size + 1) (wr.alloc (.cells #[.string name, .int .i64 params, .int .i64 body.kind, .int .i64 body.num, .slice A2 n2 c2] 48)) W → Seen W w.heap.size k seen) :=
        Lib.hid (fun W hW => hsn.kept (w' := W) ⟨(hbx.trans (hW.mono (by omega))).os, (hbx.trans (hW.mono (by omega))).tape, (hbx.trans (hW.mono (by omega))).output, (hbx.trans (hW.mono (by omega))).size, fun q hq _ => (hbx.trans (hW.mono (by omega))).block q hq⟩ (row := none) (by simp))
      cases hnm : nameB name.data.toList with
      | false =>
        have HR : Hid (diffFrom [] (l.map lznm) = false) := Lib.hid (hno (.inl hnm))
        rw [hnm] at HIS
        clear hx hxm hok hno hseen hnm
        go_wp2_with fail
        refine (HNM.out _).mono ?_
        rintro e w1 ⟨rfl, b1⟩
        simp only [World.size_alloc] at b1
        go_wp2_with fail
        refine (HIS.out _).mono ?_
        rintro e w2 ⟨rfl, b2⟩
        have z1 := b1.size
        simp only [World.size_alloc] at z1
        go_wp2_with fail
        go_ret
        exact ⟨ret_bool HR.out.symm, ((hbel.trans (hbx.mono (by omega))).trans (b1.mono (by omega))).trans (b2.mono (by omega))⟩
      | true =>
        rw [hnm] at HIS
        cases hct : seen.contains name.data.toList with
        | true =>
          have HR : Hid (diffFrom [] (l.map lznm) = false) := Lib.hid (hno (.inr hct))
          have HCT := Lib.hid hct
          clear hx hxm hok hno hseen hnm hct
          go_wp2_with fail
          refine (HNM.out _).mono ?_
          rintro e w1 ⟨rfl, b1⟩
          simp only [World.size_alloc] at b1
          go_wp2_with fail
          refine (HIS.out _).mono ?_
          rintro e w2 ⟨rfl, b2⟩
          have z1 := b1.size
          simp only [World.size_alloc] at z1
          have hlook := (HL.out w2 (b1.trans (b2.mono (by omega)))).look name hsx
          rw [HCT.out] at hlook
          go_wp2_with fail
          go_ret
          exact ⟨ret_bool HR.out.symm, ((hbel.trans (hbx.mono (by omega))).trans (b1.mono (by omega))).trans (b2.mono (by omega))⟩
        | false =>
          have HR : Hid (diffFrom [] ((l.map lznm).take (k + 1)) = true) := Lib.hid (hok hnm hct)
          have HM := Lib.hid hseen
          have HCT := Lib.hid hct
          clear hx hxm hok hno hseen hnm hct
          go_wp2_with fail
          refine (HNM.out _).mono ?_
          rintro e w1 ⟨rfl, b1⟩
          simp only [World.size_alloc] at b1
          go_wp2_with fail
          refine (HIS.out _).mono ?_
          rintro e w2 ⟨rfl, b2⟩
          have z1 := b1.size
          have z2 := b2.size
          simp only [World.size_alloc] at z1
          have hs2 := HL.out w2 (b1.trans (b2.mono (by omega)))
          have hlook := hs2.look name hsx
          rw [HCT.out] at hlook
          obtain ⟨w3, hput, hsn2, hg2⟩ := hs2.put (by simp only [maxLen]; omega) name hsx
          go_wp2_with fail
          go_roundw
          case rel =>
            refine ⟨k + 1, by omega, by go_num, HR, ?_, ?_⟩
            · rw [HM.out]; exact hsn2
            · exact (((hbel.trans (hbx.mono (by omega))).trans (b1.mono (by omega))).trans (b2.mono (by omega))).grown hg2 (by omega) (fun b hb => by injection hb with hb; omega)
          case measure => simp [intOf]; omega
    · have hll : (l.map lznm).take k = l.map lznm := List.take_of_length_le (by simp; omega)
      rw [hll] at hf
      clear hll
      go_wp2_with fail
      go_ret
      exact ⟨ret_bool hf.out.symm, hbel⟩
end Go.Proofs.YtkkfdiidneoelaaDoor
