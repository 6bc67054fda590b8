/-
  TermSize: for every two terms that can be read, Size and Same answer as the reference does, and the example comes out.
-/
import Derived.Test.YtmggccgjhjknpaaTAlive
import Derived.Deep.RegionHeld3
namespace Go.Proofs.Ytmggccgjhjknpaa
open Go.RowKit

theorem same_ref (s t : T) : (!s.large && (!t.large && s.eqb t)) = (!s.large && s.eqb t) := by
  cases h : s.eqb t with
  | false => simp
  | true =>
    have := (T.eqb_iff s t).1 h
    subst this
    simp
theorem Pair.drew {s t : T} {v u : Value} {P Q : Nat → Prop} {B : Nat} {w0 w : World} (h : Pair s t v u P Q B w0 w) : Pair s t v u P Q B w0 w.drew := h.next (Below.refl _ _).drew
def Six (b : Nat) (s t : T) (v u : Value) (W : World) : Prop :=
  (W.cell? ⟨b, 0, none⟩ = some (.int .i64 s.kind) ∧ W.cell? ⟨b, 1, none⟩ = some (.int .i64 s.num) ∧ W.cell? ⟨b, 2, none⟩ = some v) ∧
  W.cell? ⟨b + 1, 0, none⟩ = some (.int .i64 t.kind) ∧ W.cell? ⟨b + 1, 1, none⟩ = some (.int .i64 t.num) ∧ W.cell? ⟨b + 1, 2, none⟩ = some u
theorem Pair.six {s t : T} {v u : Value} {P Q : Nat → Prop} {B : Nat} {w0 w : World} (h : Pair s t v u P Q B w0 w) : Six B s t v u w := by
  have a0 := h.b1.cell 0
  have a1 := h.b1.cell 1
  have a2 := h.b1.cell 2
  have b0 := h.b2.cell 0
  have b1 := h.b2.cell 1
  have b2 := h.b2.cell 2
  simp at a0 a1 a2 b0 b1 b2
  exact ⟨⟨a0, a1, a2⟩, b0, b1, b2⟩

set_option maxHeartbeats 3200000 in
set_option maxRecDepth 100000 in
theorem lawSizeT_any (s : T) (v : Value) (t : T) (u : Value) (w : World) (P Q : Nat → Prop) (hin : s.In w P v) (hold : Old P w) (hin2 : t.In w Q u) (hold2 : Old Q w) :
    Calls Try.prog 4 #[.agg #[.int .i64 s.kind, .int .i64 s.num, v], .agg #[.int .i64 t.kind, .int .i64 t.num, u]] w fun e w' => e = .returned (.bool true) ∧ Below w.heap.size w w' := by
  have HK0 := Pair.start hin hold hin2 hold2
  generalize hK : (fun W => Pair s t v u P Q w.heap.size w W) = K
  have hKn : ∀ W W', K W → Below W.heap.size W W' → K W' := by
    intro W W' h hb
    rw [← hK] at h ⊢
    exact h.next hb
  have of_ : ∀ W, K W → Pair s t v u P Q w.heap.size w W := by
    intro W h
    rw [← hK] at h
    exact h
  have HZ := Lib.hid (fun W (h : K W) => (sizeT_any s v W P (of_ W h).i1 (of_ W h).o1).mono fun e w' ⟨he, hb⟩ => (⟨he, hKn _ _ h hb⟩ : e = _ ∧ K w'))
  have HY := Lib.hid (fun W (h : K W) => (refSizeT_any s v W P (of_ W h).i1 (of_ W h).o1).mono fun e w' ⟨he, hb⟩ => (⟨he, hKn _ _ h hb⟩ : e = _ ∧ K w'))
  have HC1 := Lib.hid (fun W (h : K W) => (sameT_any s t v u W P Q (of_ W h).i1 (of_ W h).o1 (of_ W h).i2 (of_ W h).o2).mono fun e w' ⟨he, hb⟩ => (⟨he, hKn _ _ h hb⟩ : e = _ ∧ K w'))
  have HC2 := Lib.hid (fun W (h : K W) => (sameT_any s s v v W P P (of_ W h).i1 (of_ W h).o1 (of_ W h).i1 (of_ W h).o1).mono fun e w' ⟨he, hb⟩ => (⟨he, hKn _ _ h hb⟩ : e = _ ∧ K w'))
  have HR1 := Lib.hid (fun W (h : K W) => (refSameT_any s t v u W P Q (of_ W h).i1 (of_ W h).o1 (of_ W h).i2 (of_ W h).o2).mono fun e w' ⟨he, hb⟩ => (⟨he, hKn _ _ h hb⟩ : e = _ ∧ K w'))
  have HR2 := Lib.hid (fun W (h : K W) => (refSameT_any s s v v W P P (of_ W h).i1 (of_ W h).o1 (of_ W h).i1 (of_ W h).o1).mono fun e w' ⟨he, hb⟩ => (⟨he, hKn _ _ h hb⟩ : e = _ ∧ K w'))
  have HA := Lib.hid (fun W (h : K W) => (aliveT_any W).mono fun e w' ⟨he, hb⟩ => (⟨he, hKn _ _ h hb⟩ : e = _ ∧ K w'))
  have HCell : Hid (∀ W, K W → Six w.heap.size s t v u W) := Lib.hid fun W h => (of_ W h).six
  have HKB : Hid (∀ W, K W → Below w.heap.size w W) := Lib.hid fun W h => (of_ W h).bel
  have HKD : Hid (∀ W, K W → K W.drew) := Lib.hid fun W h => hKn W _ h (Below.refl _ _).drew
  have k0 : K ((w.alloc (.cells #[.int .i64 s.kind, .int .i64 s.num, v] 35)).alloc (.cells #[.int .i64 t.kind, .int .i64 t.num, u] 35)) := by rw [← hK]; exact HK0
  simp only [same_ref] at HR1 HR2
  obtain ⟨A, n, c, rfl⟩ := hin.form
  obtain ⟨A2, n2, c2, rfl⟩ := hin2.form
  generalize (Value.slice A n c) = X at *
  generalize (Value.slice A2 n2 c2) = Y at *
  generalize (!s.large && s.eqb t) = B1 at *
  generalize (!s.large && s.eqb s) = B2 at *
  generalize s.sizes.1 = z1 at *
  generalize s.sizes.2 = z2 at *
  unfold Six at HCell
  generalize s.kind = a1 at *
  generalize s.num = a2 at *
  generalize t.kind = a3 at *
  generalize t.num = a4 at *
  clear hK hKn of_ HK0 hin hin2 hold hold2
  obtain ⟨⟨x0, x1, x2⟩, y0, y1, y2⟩ := HCell.out _ k0
  go_enter Try.func4, Try.ntmps4
  go_wp2_with fail
  refine (HZ.out _ k0).mono ?_
  rintro e w1 ⟨rfl, k1⟩
  clear x0 x1 x2 y0 y1 y2
  obtain ⟨⟨x0, x1, x2⟩, y0, y1, y2⟩ := HCell.out _ k1
  go_wp2_with fail
  refine (HY.out _ k1).mono ?_
  rintro e w2 ⟨rfl, k2⟩
  clear x0 x1 x2 y0 y1 y2
  obtain ⟨⟨x0, x1, x2⟩, y0, y1, y2⟩ := HCell.out _ k2
  have k3 := HKD.out _ k2
  clear k0 k1
  go_wp2_with fail
  go_region_held3 (fun w' => (w'.cell? ⟨w.heap.size, 0, none⟩ = some (.int .i64 a1) ∧ w'.cell? ⟨w.heap.size, 1, none⟩ = some (.int .i64 a2) ∧ w'.cell? ⟨w.heap.size, 2, none⟩ = some X) ∧ w'.cell? ⟨w.heap.size + 1, 0, none⟩ = some (.int .i64 a3) ∧ w'.cell? ⟨w.heap.size + 1, 1, none⟩ = some (.int .i64 a4) ∧ w'.cell? ⟨w.heap.size + 1, 2, none⟩ = some Y)
    (first
      | go_keep
      | assumption
      | exact HCell.out _ (by assumption))
    (first
    | (go_at_call 20; ((with_reducible refine (HC1.out _ (by assumption)).mono ?_); rintro e W1 ⟨rfl, K1⟩; have C1 := HCell.out _ K1))
    | (go_at_call 20; ((with_reducible refine (HC2.out _ (by assumption)).mono ?_); rintro e W2 ⟨rfl, K2⟩; have C2 := HCell.out _ K2))
    | (go_at_call 21; ((with_reducible refine (HR1.out _ (by assumption)).mono ?_); rintro e W3 ⟨rfl, K3⟩; have C3 := HCell.out _ K3))
    | (go_at_call 21; ((with_reducible refine (HR2.out _ (by assumption)).mono ?_); rintro e W4 ⟨rfl, K4⟩; have C4 := HCell.out _ K4))
    | (go_at_call 17; refine (HA.out _ (by assumption)).mono ?_; rintro e W5 ⟨rfl, K5⟩; have C5 := HCell.out _ K5))
  all_goals
    go_wp2_with fail
    go_ret
    exact ⟨rfl, HKB.out _ K5⟩
end Go.Proofs.Ytmggccgjhjknpaa
