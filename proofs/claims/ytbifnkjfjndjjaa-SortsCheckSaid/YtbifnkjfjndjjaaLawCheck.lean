/-
  SortsCheck: for every sort that can be read, Check and Size answer as the reference does, and the example comes out.
-/
import Derived.Test.YtbifnkjfjndjjaaKept
import Derived.Test.YtbifnkjfjndjjaaRefCheck
import Derived.Deep.RegionHeld3
namespace Go.Proofs.Ytbifnkjfjndjjaa
open Go.RowKit

set_option maxHeartbeats 3200000 in
set_option maxRecDepth 100000 in
theorem lawCheck_any (s : S) (v : Value) (w : World) (lo hi : Nat) (hin : s.In w lo hi v) (hhi : hi ≤ w.heap.size) :
    Calls Try.prog 3 #[.agg #[v]] w fun e w' => e = .returned (.bool true) ∧ Below w.heap.size w w' := by
  obtain ⟨A, n, c, rfl⟩ := hin.form
  have HK0 := Kept.start hin hhi
  generalize hX : (Value.slice A n c) = X at *
  have HX := Lib.hid hX
  clear hX
  have HC := Lib.hid (fun W (h : Kept s X lo hi w w.heap.size W) => (check_any s _ W lo hi h.ins h.hw).mono fun e w' ⟨he, hb⟩ => (⟨he, h.next hb⟩ : e = _ ∧ Kept s X lo hi w w.heap.size w'))
  have HR := Lib.hid (fun W (h : Kept s X lo hi w w.heap.size W) => (refCheck_any s _ W lo hi h.ins h.hw).mono fun e w' ⟨he, hb⟩ => (⟨he, h.next hb⟩ : e = _ ∧ Kept s X lo hi w w.heap.size w'))
  have HA := Lib.hid (fun W (h : Kept s X lo hi w w.heap.size W) => (alive_any W).mono fun e w' ⟨he, hb⟩ => (⟨he, h.next hb⟩ : e = _ ∧ Kept s X lo hi w w.heap.size w'))
  have HS := Lib.hid (fun W (h : Kept s X lo hi w w.heap.size W) => (size_any s _ W lo hi h.ins h.hw).mono fun e w' ⟨he, hb⟩ => (⟨he, h.next hb⟩ : e = _ ∧ Kept s X lo hi w w.heap.size w'))
  have HT := Lib.hid (fun W (h : Kept s X lo hi w w.heap.size W) => (refSize_any s _ W lo hi h.ins h.hw).mono fun e w' ⟨he, hb⟩ => (⟨he, h.next hb⟩ : e = _ ∧ Kept s X lo hi w w.heap.size w'))
  generalize errOf s.ok = E at *
  generalize s.sizes.1 = z1 at *
  generalize s.sizes.2 = z2 at *
  go_enter Try.func3, Try.ntmps3
  go_wp2_with fail
  refine (HS.out _ HK0).mono ?_
  rintro e w1 ⟨rfl, k1⟩
  have c1 := k1.cell
  go_wp2_with fail
  refine (HT.out _ k1).mono ?_
  rintro e w2 ⟨rfl, k2⟩
  have c2 := k2.cell
  have k3 := k2.drew
  go_wp2_with fail
  clear c1 k1 HK0
  go_region_held3 (fun w' => w'.cell? ⟨w.heap.size, 0, none⟩ = some X)
    (first
      | go_keep
      | assumption)
    (first
    | (go_at_call 15; refine (HC.out _ (by assumption)).mono ?_; rintro e W1 ⟨rfl, K1⟩; have C1 := K1.cell)
    | (go_at_call 16; refine (HR.out _ (by assumption)).mono ?_; rintro e W2 ⟨rfl, K2⟩; have C2 := K2.cell)
    | (go_at_call 17; refine (HA.out _ (by assumption)).mono ?_; rintro e W3 ⟨rfl, K3⟩; have C3 := K3.cell))
  all_goals
    go_wp2_with fail
    go_ret
    exact ⟨rfl, K3.bel⟩
end Go.Proofs.Ytbifnkjfjndjjaa
