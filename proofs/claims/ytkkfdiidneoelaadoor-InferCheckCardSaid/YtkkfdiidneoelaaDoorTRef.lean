/-
  The reference's functions on terms: contracts.
-/
import Derived.Test.YtkkfdiidneoelaaDoorTMem
import Derived.Test.YtkkfdiidneoelaaDoorRef
namespace Go.Proofs.YtkkfdiidneoelaaDoor
open Go.RowKit

set_option maxHeartbeats 400000 in
theorem nodesT_any (K : Nat) : ∀ (t : T) (v : Value) (m : Int) (w : World) (P : Nat → Prop), t.count ≤ K → 0 ≤ m → m ≤ 1000000 → t.In w P v → Old P w →
    Calls Tryd.prog 31 #[.agg #[.int .i64 t.kind, .int .i64 t.num, v], .int .i64 m] w fun e w' => e = .returned (.int .i64 (min (t.count : Int) (m + 1))) ∧ Below w.heap.size w w' := by
  induction K with
  | zero => intro t; have := t.count_pos; omega
  | succ K ih =>
    intro t v m w P hK hm0 hm hin hold
    obtain ⟨kd, nm, l⟩ := t
    simp only [T.In] at hin
    obtain ⟨A, _, c, us, rfl, rfl, hnc, hc, hrd, hrow⟩ := hin
    simp only [T.kind, T.num]
    go_enter Tryd.func31, Tryd.ntmps31
    go_wp2_with fail
    go_loopw [5, 6] (fun n i wr => ∃ k : Nat, k ≤ l.length ∧ i = .int .i64 k ∧ n = .int .i64 (min ((1 + T.countL (l.take k) : Nat) : Int) (m + 1)) ∧ Blk wr w.heap.size 44 #[.int .i64 kd, .int .i64 nm, .slice A l.length c] ∧ Below w.heap.size w wr) (fun _ i _ => l.length - (intOf i).toNat)
    case atStart => exact ⟨0, Nat.zero_le _, rfl, by simp only [T.countL, List.take_zero]; congr 1; omega, Blk.new _ _ _, (Below.refl _ _).alloc (Nat.le_refl _) _⟩
    case round =>
      obtain ⟨k, hk, rfl, rfl, hblk, hbel⟩ := hrel
      have hsz := hblk.lt
      have hc0 := hblk.cell 0
      have hc1 := hblk.cell 1
      have hc2 := hblk.cell 2
      by_cases hlt : k < l.length
      · have hx : l[k]? = some l[k] := List.getElem?_eq_getElem hlt
        have hcs := T.countL_take_succ l k _ hx
        have hcl := T.count_lt (a := kd) (b := nm) hx
        have hcp := l[k].count_pos
        obtain ⟨ad, u, rfl, hP, hel, hinx⟩ := T.In.el hrd hrow hx
        obtain ⟨r0, r1, r2⟩ := hel.keep (hbel.block _ (hold _ hP))
        have hinr := hinx.old hold hbel
        generalize l[k] = x at *
        generalize hN : min ((1 + T.countL (l.take k) : Nat) : Int) (m + 1) = N at *
        by_cases hle : N ≤ m
        · have HN := Lib.hid hN
          have hN1 : 1 ≤ N := by omega
          have HS := Lib.hid hcs
          clear hN hcs hx hel
          go_wp2_with fail
          refine (ih x u (m - N) _ P (by omega) (by omega) (by omega) hinr (hold.bel hbel)).mono ?_
          rintro e w1 ⟨rfl, hb1⟩
          go_wp2_with fail
          go_roundw
          case rel => exact ⟨k + 1, by omega, by go_num, congrArg (Value.int .i64) (by have h1 := HN.out; have h2 := HS.out; omega), hblk.below hb1 hsz, hbel.trans (hb1.mono (by omega))⟩
          case measure => simp [intOf]; omega
        · have hcn : T.countL (l.take (k + 1)) ≤ T.countL l := T.countL_take_le l (k + 1)
          have hfin : min ((T.mk kd nm l).count : Int) (m + 1) = N := by simp only [T.count]; omega
          have HN := Lib.hid hN
          have HF := Lib.hid hfin
          clear hN hcs hx hel hfin
          go_wp2_with fail
          go_ret
          exact ⟨ret_int HF.out.symm, hbel⟩
      · have hfin : min ((1 + T.countL (l.take k) : Nat) : Int) (m + 1) = min ((T.mk kd nm l).count : Int) (m + 1) := by rw [List.take_of_length_le (by omega)]; rfl
        go_wp2_with fail
        go_ret
        exact ⟨ret_int hfin, hbel⟩

set_option maxHeartbeats 400000 in
theorem depthT_any (K : Nat) : ∀ (t : T) (v : Value) (w : World) (P : Nat → Prop), t.count ≤ K → t.count ≤ 1000000 → t.In w P v → Old P w →
    Calls Tryd.prog 32 #[.agg #[.int .i64 t.kind, .int .i64 t.num, v]] w fun e w' => e = .returned (.int .i64 (t.deep : Int)) ∧ Below w.heap.size w w' := by
  induction K with
  | zero => intro t; have := t.count_pos; omega
  | succ K ih =>
    intro t v w P hK hm hin hold
    obtain ⟨kd, nm, l⟩ := t
    simp only [T.In] at hin
    obtain ⟨A, _, c, us, rfl, rfl, hnc, hc, hrd, hrow⟩ := hin
    simp only [T.kind, T.num]
    go_enter Tryd.func32, Tryd.ntmps32
    go_wp2_with fail
    go_loopw [3, 9] (fun n i wr => ∃ k : Nat, k ≤ l.length ∧ i = .int .i64 k ∧ n = .int .i64 ((T.deepL (l.take k) : Nat) : Int) ∧ Below w.heap.size w wr) (fun _ i _ => l.length - (intOf i).toNat)
    case atStart => exact ⟨0, Nat.zero_le _, rfl, by simp [T.deepL], (Below.refl _ _).alloc (Nat.le_refl _) _⟩
    case round =>
      obtain ⟨k, hk, rfl, rfl, hbel⟩ := hrel
      have hsz := hbel.size
      by_cases hlt : k < l.length
      · have hx : l[k]? = some l[k] := List.getElem?_eq_getElem hlt
        have hcs := T.deepL_take_succ l k _ hx
        have hcl := T.count_lt (a := kd) (b := nm) hx
        have hd1 := l[k].deep_le
        obtain ⟨ad, u, rfl, hP, hel, hinx⟩ := T.In.el hrd hrow hx
        obtain ⟨r0, r1, r2⟩ := hel.keep (hbel.block _ (hold _ hP))
        have hinr := hinx.old hold (hbel.trans ((Below.refl _ _).alloc hsz (.cells #[.int .i64 l[k].kind, .int .i64 l[k].num, u] 44)))
        have hd2 : T.deepL (l.take k) ≤ T.deepL l := T.deepL_take_le l k
        have hd3 := T.deepL_le l
        simp only [T.count] at hm hcl hK
        generalize l[k] = x at *
        have HS := Lib.hid hcs
        obtain ⟨A', n', c', rfl⟩ := hinx.form
        clear hcs hx hel
        go_wp2_with fail
        refine (ih x _ _ P (by omega) (by omega) hinr (hold.le (by simp; omega))).mono ?_
        rintro e w1 ⟨rfl, hb1⟩
        simp only [World.size_alloc] at hb1
        go_wp2_with fail
        go_roundw
        case rel => exact ⟨k + 1, by omega, by go_num, congrArg (Value.int .i64) (by have h2 := HS.out; omega), hbel.trans (((Below.refl _ _).alloc hsz _).trans (hb1.mono (by omega)))⟩
        case measure => simp [intOf]; omega
      · have hfin : ((T.deepL (l.take k) : Nat) : Int) + 1 = ((T.mk kd nm l).deep : Int) := by rw [List.take_of_length_le (by omega)]; simp [T.deep]
        have hd2 : T.deepL (l.take k) ≤ T.deepL l := T.deepL_take_le l k
        have hd3 := T.deepL_le l
        simp only [T.count] at hm
        have HF := Lib.hid hfin
        clear hfin
        go_wp2_with fail
        go_ret
        exact ⟨ret_int HF.out, hbel⟩

/-- More nodes than 100,000. -/
def T.large (t : T) : Bool := decide (100000 < t.count)
/-- What Size returns. -/
def T.sizes (t : T) : Nat × Nat := if t.count ≤ 100000 then (t.count, t.deep) else (100001, 0)

set_option maxHeartbeats 400000 in
theorem large_any (t : T) (v : Value) (w : World) (P : Nat → Prop) (hin : t.In w P v) (hold : Old P w) :
    Calls Tryd.prog 50 #[.agg #[.int .i64 t.kind, .int .i64 t.num, v]] w fun e w' => e = .returned (.bool t.large) ∧ Below w.heap.size w w' := by
  have hw1 : Below w.heap.size w (w.alloc (.cells #[.int .i64 t.kind, .int .i64 t.num, v] 44)) := (Below.refl _ _).alloc (Nat.le_refl _) _
  obtain ⟨A, n, c, rfl⟩ := hin.form
  have HC := Lib.hid (nodesT_any _ t _ 100000 _ P (Nat.le_refl _) (by omega) (by omega) (hin.old hold hw1) (hold.bel hw1))
  have HF : Hid (decide (100000 < min (t.count : Int) (100000 + 1)) = t.large) := Lib.hid (decide_eq_decide.2 (by omega))
  generalize min (t.count : Int) (100000 + 1) = N at *
  go_enter Tryd.func50, Tryd.ntmps50
  go_wp2_with fail
  refine HC.out.mono ?_
  rintro e w1 ⟨rfl, hb1⟩
  simp only [World.size_alloc] at hb1
  go_wp2_with fail
  go_ret
  exact ⟨ret_bool HF.out, hw1.trans (hb1.mono (by omega))⟩

end Go.Proofs.YtkkfdiidneoelaaDoor
