/-
  InferCheck: for every list of symbols and of loose functions that can be read, Check answers as the reference does, and the examples come out.
-/
import Derived.Test.YtkkfdiidneoelaaDoorIAlive
import Derived.Test.YtkkfdiidneoelaaDoorIRefCk
namespace Go.Proofs.YtkkfdiidneoelaaDoor
open Go.RowKit

set_option maxHeartbeats 3200000 in
set_option maxRecDepth 100000 in
theorem lawCheckI_any (syms : List Sy) (l : List Lz) (v0 v1 : Value) (w : World) (hi : Nat) (hsy : SyIn w (fun b => b < hi) syms v0) (hl : LzIn w hi l v1) (hhi : hi ≤ w.heap.size) (hfit : ∀ f ∈ l, f.body.fit ∧ fit64 f.params) :
    Calls Tryd.prog 3 #[v0, v1] w fun e w' => e = .returned (.bool true) ∧ Below w.heap.size w w' := by
  have HA := Lib.hid aliveI_any
  obtain ⟨A0, n0, c0, rfl⟩ := hsy.form
  have hl' := hl
  obtain ⟨A1, _, c1, us, rfl, rfl, _⟩ := hl'
  have HC : Hid (∀ W v, Below w.heap.size w W → LzIn W W.heap.size l v → Calls Tryd.prog 9 #[.slice A0 n0 c0, v] W fun e w' => e = .returned (.int .i64 (checkI syms l)) ∧ Below W.heap.size W w') :=
    Lib.hid fun W v hW hv => checkI_any syms l _ v W W.heap.size ((hsy.below hW hhi).more (by have := hW.size; omega)) hv (Nat.le_refl _) hfit
  have HR : Hid (∀ W, Below w.heap.size w W → Calls Tryd.prog 11 #[.slice A0 n0 c0, .slice A1 l.length c1] W fun e w' => e = .returned (.int .i64 (checkI syms l)) ∧ Below W.heap.size W w') :=
    Lib.hid fun W hW => refCk_any syms l _ _ W hi (hsy.below hW hhi) (hl.below hW hhi) (by have := hW.size; omega)
  generalize checkI syms l = E at *
  by_cases h : l.length ≤ 1000
  · have HG := Lib.hid (given_any l _ w hi hl hhi (by omega))
    have g : ¬ (1000 : Int) < (l.length : Int) := by omega
    clear h hl hsy hfit
    generalize l.length = n at *
    go_enter Tryd.func3, Tryd.ntmps3
    go_wp2_with fail
    refine HG.out.mono ?_
    rintro e w1 ⟨v', rfl, hl1, hb1⟩
    obtain ⟨A', n', c', rfl⟩ := hl1.form
    have H1 := Lib.hid hl1
    have B1 := Lib.hid hb1
    clear hl1 hb1
    go_wp2_with fail
    refine (HC.out _ _ B1.out H1.out).mono ?_
    rintro e w2 ⟨rfl, hb2⟩
    have B2 := Lib.hid (B1.out.trans (hb2.mono B1.out.size))
    clear hb2
    go_wp2_with fail
    refine (HR.out _ B2.out).mono ?_
    rintro e w3 ⟨rfl, hb3⟩
    have B3 := Lib.hid (B2.out.trans (hb3.mono B2.out.size))
    clear hb3
    go_wp2_with fail
    refine (HA.out _).mono ?_
    rintro e w4 ⟨rfl, hb4⟩
    have B4 := Lib.hid (B3.out.trans (hb4.mono B3.out.size))
    clear hb4
    go_wp2_with fail
    go_ret
    exact ⟨rfl, B4.out⟩
  · have g : (1000 : Int) < (l.length : Int) := by omega
    clear h hl hsy hfit
    generalize l.length = n at *
    go_enter Tryd.func3, Tryd.ntmps3
    go_wp2_with fail
    refine (HA.out _).mono ?_
    rintro e w1 ⟨rfl, hb1⟩
    have B1 := Lib.hid hb1
    clear hb1
    go_wp2_with fail
    go_ret
    exact ⟨rfl, B1.out⟩
end Go.Proofs.YtkkfdiidneoelaaDoor
