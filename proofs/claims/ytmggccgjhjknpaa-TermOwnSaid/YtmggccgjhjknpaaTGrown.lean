/-
  The reference's Variables and grown.
-/
import Derived.Test.YtmggccgjhjknpaaTInsert
import Derived.Test.YtmggccgjhjknpaaTSubst
namespace Go.Proofs.Ytmggccgjhjknpaa
open Go.RowKit

/-- What the loop of Variables holds. -/
def Vrs (B : Nat) (w0 : World) (a : List T) (l0 : List Int) (v i : Value) (wr : World) : Prop :=
  ∃ k : Nat, k ≤ a.length ∧ i = .int .i64 k ∧ Zs B wr (T.varsL (a.take k) l0) v ∧ Below w0.heap.size w0 wr

set_option maxRecDepth 100000 in
set_option maxHeartbeats 1600000 in
theorem variables_any (K : Nat) : ∀ (t : T) (v : Value) (w : World) (P : Nat → Prop) (l : List Int) (lv : Value) (B : Nat), t.count ≤ K → l.length + t.count ≤ 200000 → t.In w P v → Old P w → Zs B w l lv → B ≤ w.heap.size →
    Calls Try.prog 61 #[.agg #[.int .i64 t.kind, .int .i64 t.num, v], lv] w fun e w' => ∃ v', e = .returned v' ∧ Zs B w' (t.vars l) v' ∧ Below w.heap.size w w' := by
  induction K with
  | zero => intro t; have := t.count_pos; omega
  | succ K ih =>
    intro t v w P l lv B hK hm hin hold hl hB
    obtain ⟨kd, nm, a⟩ := t
    have hin' := hin
    simp only [T.In] at hin
    obtain ⟨A, _, c, us0, rfl, rfl, hnc, hc, hrd, hrow⟩ := hin
    simp only [T.kind, T.num]
    simp only [T.count] at hm hK
    rw [T.vars_mk]
    have hw1 : Below w.heap.size w (w.alloc (.cells #[.int .i64 kd, .int .i64 nm, .slice A a.length c] 35)) := (Below.refl _ _).alloc (Nat.le_refl _) _
    -- the loop, for whatever list there is at its head
    have hloop : ∀ (l0 : List Int) (k : Nat) (x : T) (lv1 : Value) (wr : World), a[k]? = some x → l0.length ≤ l.length + 1 → Zs B wr (T.varsL (a.take k) l0) lv1 → Below w.heap.size w wr → ∀ (u : Value), x.In wr P u →
        Calls Try.prog 61 #[.agg #[.int .i64 x.kind, .int .i64 x.num, u], lv1] (wr.alloc (.cells #[.int .i64 x.kind, .int .i64 x.num, u] 35)) fun e w' => ∃ v', e = .returned v' ∧ Zs B w' (T.varsL (a.take (k + 1)) l0) v' ∧ Below wr.heap.size wr w' := by
      intro l0 k x lv1 wr hx hl0 hz hbel u hinx
      have hxb : Below wr.heap.size wr (wr.alloc (.cells #[.int .i64 x.kind, .int .i64 x.num, u] 35)) := (Below.refl _ _).alloc (Nat.le_refl _) _
      have hcx := T.countL_take_succ a k x hx
      have hcl := T.countL_take_le a (k + 1)
      have hlv := T.varsL_length (a.take k) l0
      have hsz := hbel.size
      refine (ih x u _ P _ lv1 B (by omega) (by omega) (hinx.old (hold.bel hbel) hxb) ((hold.bel hbel).bel hxb) (hz.below hxb) (by simp; omega)).mono ?_
      rintro e w' ⟨v', rfl, hz', hb'⟩
      rw [T.varsL_take hx]
      exact ⟨v', rfl, hz', hxb.trans (hb'.mono (by simp))⟩
    have HLOOP := Lib.hid hloop
    clear hloop ih
    obtain ⟨A0, c0, rfl, _, _⟩ := hl.form
    by_cases hk : kd = 0
    · subst hk
      have HI := Lib.hid (insert_any l nm _ B _ (hl.below hw1) (by omega))
      rw [if_pos rfl]
      go_enter Try.func61, Try.ntmps61
      go_wp2_with fail
      refine HI.out.mono ?_
      rintro e w1 ⟨v1, rfl, hz1, hb1⟩
      have hz1' : Zs B w1 (insZ nm l) v1 := hz1.less (by simp; omega)
      have hbel1 : Below w.heap.size w w1 := hw1.trans (hb1.mono (by simp))
      have HS : Hid (Vrs B w a (insZ nm l) v1 (.int .i64 0) w1) := Lib.hid ⟨0, Nat.zero_le _, rfl, by simpa [T.varsL_nil] using hz1', hbel1⟩
      obtain ⟨A9, c9, rfl, _, _⟩ := hz1.form
      have hbx := (Blk.new w 35 #[.int .i64 0, .int .i64 nm, .slice A a.length c]).below hb1 (by simp)
      have x2 := hbx.cell 2
      simp at x2
      clear HI hz1 hz1' hb1 hbx
      generalize (insZ nm l).length = l9 at *
      go_wp2_with fail
      go_loopw [1, 17] (fun v i wr => Vrs B w a (insZ nm l) v i wr) (fun _ i _ => a.length - (intOf i).toNat)
      case atStart => exact HS.out
      case round =>
        obtain ⟨k, hk, rfl, hzs, hbel⟩ := hrel
        obtain ⟨A2, c2, rfl, _, _⟩ := hzs.form
        have hzr := hbel.size
        by_cases hlt : k < a.length
        · have hx : a[k]? = some a[k] := List.getElem?_eq_getElem hlt
          obtain ⟨ad, u, rfl, hP, hel, hinx⟩ := T.In.el hrd hrow hx
          obtain ⟨r0, r1, r2⟩ := hel.keep (hbel.block _ (hold _ hP))
          have HC := Lib.hid (HLOOP.out (insZ nm l) k a[k] _ wr hx (insZ_length nm l) hzs hbel u (hinx.old hold hbel))
          obtain ⟨A', n', c', rfl⟩ := hinx.form
          generalize a[k] = x at *
          generalize (T.varsL (a.take k) (insZ nm l)).length = ln at *
          clear hx hel hzs
          go_wp2_with fail
          refine HC.out.mono ?_
          rintro e w2 ⟨v2, rfl, hz2, hb2⟩
          obtain ⟨A3, c3, rfl, _, _⟩ := hz2.form
          have HZ := Lib.hid hz2
          clear hz2
          generalize (T.varsL (a.take (k + 1)) (insZ nm l)).length = ln2 at *
          go_wp2_with fail
          go_roundw
          case rel => exact ⟨k + 1, by omega, by go_num, HZ.out, hbel.trans (hb2.mono (by omega))⟩
          case measure => simp [intOf]; omega
        · have hll : a.take k = a := List.take_of_length_le (by omega)
          generalize (T.varsL (a.take k) (insZ nm l)).length = ln at *
          rw [hll] at hzs
          clear hll
          go_wp2_with fail
          go_ret
          exact ⟨_, rfl, hzs, hbel⟩
    · rw [if_neg hk]
      have hkb : (kd == 0) = false := by simpa using hk
      have HS : Hid (Vrs B w a l (.slice A0 l.length c0) (.int .i64 0) (w.alloc (.cells #[.int .i64 kd, .int .i64 nm, .slice A a.length c] 35))) := Lib.hid ⟨0, Nat.zero_le _, rfl, by simpa [T.varsL_nil] using hl.below hw1, hw1⟩
      go_enter Try.func61, Try.ntmps61
      go_wp2_with fail
      go_loopw [1, 17] (fun v i wr => Vrs B w a l v i wr) (fun _ i _ => a.length - (intOf i).toNat)
      case atStart => exact HS.out
      case round =>
        obtain ⟨k, hk, rfl, hzs, hbel⟩ := hrel
        obtain ⟨A2, c2, rfl, _, _⟩ := hzs.form
        have hzr := hbel.size
        by_cases hlt : k < a.length
        · have hx : a[k]? = some a[k] := List.getElem?_eq_getElem hlt
          obtain ⟨ad, u, rfl, hP, hel, hinx⟩ := T.In.el hrd hrow hx
          obtain ⟨r0, r1, r2⟩ := hel.keep (hbel.block _ (hold _ hP))
          have HC := Lib.hid (HLOOP.out l k a[k] _ wr hx (by omega) hzs hbel u (hinx.old hold hbel))
          obtain ⟨A', n', c', rfl⟩ := hinx.form
          generalize a[k] = x at *
          generalize (T.varsL (a.take k) l).length = ln at *
          clear hx hel hzs
          go_wp2_with fail
          refine HC.out.mono ?_
          rintro e w2 ⟨v2, rfl, hz2, hb2⟩
          obtain ⟨A3, c3, rfl, _, _⟩ := hz2.form
          have HZ := Lib.hid hz2
          clear hz2
          generalize (T.varsL (a.take (k + 1)) l).length = ln2 at *
          go_wp2_with fail
          go_roundw
          case rel => exact ⟨k + 1, by omega, by go_num, HZ.out, hbel.trans (hb2.mono (by omega))⟩
          case measure => simp [intOf]; omega
        · have hll : a.take k = a := List.take_of_length_le (by omega)
          generalize (T.varsL (a.take k) l).length = ln at *
          rw [hll] at hzs
          clear hll
          go_wp2_with fail
          go_ret
          exact ⟨_, rfl, hzs, hbel⟩

/-- The head's nodes and those of the first k args behind the substitution, cut at 100001. -/
def T.grownN (gs : List T) (h : Nat) (a : List T) (k : Nat) : Int := min ((h + T.countL (T.subL gs (a.take k)) : Nat) : Int) 100001
theorem T.subL_append (gs : List T) : ∀ a b : List T, T.subL gs (a ++ b) = T.subL gs a ++ T.subL gs b
  | [], b => by simp [T.subL]
  | x :: r, b => by simp [T.subL, T.subL_append gs r b]
theorem T.subL_take_succ (gs : List T) {a : List T} {k : Nat} {x : T} (hx : a[k]? = some x) : T.countL (T.subL gs (a.take (k + 1))) = T.countL (T.subL gs (a.take k)) + (x.sub gs).count := by
  rw [List.take_add_one, hx, T.subL_append, T.countL_append]
  simp [T.subL, T.countL]
theorem T.subL_take_le (gs : List T) (a : List T) (k : Nat) : T.countL (T.subL gs (a.take k)) ≤ T.countL (T.subL gs a) := by
  have h := List.take_append_drop k a
  have h2 := T.subL_append gs (a.take k) (a.drop k)
  rw [h] at h2
  rw [h2, T.countL_append]; omega
/-- What the loop of grown holds. -/
def Grw (gs : List T) (h : Nat) (a : List T) (B : Nat) (sv : Value) (w0 : World) (n i : Value) (wr : World) : Prop :=
  ∃ k : Nat, k ≤ a.length ∧ i = .int .i64 k ∧ n = .int .i64 (T.grownN gs h a k) ∧ Ints B wr (gs.map T.count) sv ∧ Below w0.heap.size w0 wr

set_option maxRecDepth 100000 in
set_option maxHeartbeats 1600000 in
theorem grown_any (gs : List T) (hgs : ∀ x ∈ gs, x.count ≤ 100000) (K : Nat) : ∀ (t : T) (v : Value) (w : World) (P : Nat → Prop) (sv : Value) (B : Nat), t.count ≤ K → t.cov gs.length = true → t.In w P v → Old P w → Ints B w (gs.map T.count) sv →
    Calls Try.prog 66 #[.agg #[.int .i64 t.kind, .int .i64 t.num, v], sv] w fun e w' => e = .returned (.int .i64 (min ((t.sub gs).count : Int) 100001)) ∧ Below w.heap.size w w' := by
  induction K with
  | zero => intro t; have := t.count_pos; omega
  | succ K ih =>
    intro t v w P sv B hK hcov hin hold hz
    obtain ⟨kd, nm, a⟩ := t
    simp only [T.In] at hin
    obtain ⟨A, _, c, us0, rfl, rfl, hnc, hc, hrd, hrow⟩ := hin
    simp only [T.kind, T.num]
    simp only [T.count] at hK
    simp only [T.cov, Bool.and_eq_true] at hcov
    obtain ⟨hcov1, hcovL⟩ := hcov
    rw [T.count_sub]
    have HIH := Lib.hid ih
    clear ih
    obtain ⟨A1, c1, hsv⟩ := hz.form
    rw [List.length_map] at hsv
    subst hsv
    have hw1 : Below w.heap.size w (w.alloc (.cells #[.int .i64 kd, .int .i64 nm, .slice A a.length c] 35)) := (Below.refl _ _).alloc (Nat.le_refl _) _
    by_cases hkz : kd = 0
    · subst hkz
      have hjj : ∃ j : Nat, nm = (j : Int) ∧ j < gs.length := by
        simp [cov1] at hcov1
        exact ⟨nm.toNat, by omega, by omega⟩
      obtain ⟨j, rfl, hj⟩ := hjj
      have ha : gs[j]? = some gs[j] := List.getElem?_eq_getElem hj
      have hhd := T.head_var (gs := gs) (n := (j : Int)) rfl ha
      have hle := hgs gs[j] (List.getElem_mem hj)
      obtain ⟨ad1, rfl, hBa, hlta, hcell⟩ := hz.cell (j := j) (x := gs[j].count) (by simp [ha])
      have hin1 : (w.alloc (.cells #[.int .i64 0, .int .i64 (j : Int), .slice A a.length c] 35)).cell? (ad1.add j) = some (.int .i64 (gs[j].count : Int)) := (World.cell?_alloc_lt _ _ _ (by rw [block_of_add]; omega)).trans hcell
      rw [hhd]
      generalize gs[j].count = hc0 at *
      generalize hA1 : some ad1 = A1 at *
      have HS : Hid (Grw gs hc0 a B (.slice A1 gs.length c1) w (.int .i64 (hc0 : Int)) (.int .i64 0) (w.alloc (.cells #[.int .i64 0, .int .i64 (j : Int), .slice A a.length c] 35))) := Lib.hid ⟨0, Nat.zero_le _, rfl, by simp [T.grownN, T.subL, T.countL]; omega, hz.below hw1, hw1⟩
      subst hA1
      clear ha hhd hcell hcov1
      go_enter Try.func66, Try.ntmps66
      go_wp2_with fail
      go_loopw [5, 19] (fun n i wr => Grw gs hc0 a B (.slice (some ad1) gs.length c1) w n i wr) (fun _ i _ => a.length - (intOf i).toNat)
      case atStart => exact HS.out
      case round =>
        obtain ⟨k, hk, rfl, rfl, hzi, hbel⟩ := hrel
        have hzr := hbel.size
        have hg0 : 0 ≤ T.grownN gs hc0 a k := by unfold T.grownN; omega
        have hg1 : T.grownN gs hc0 a k ≤ 100001 := by unfold T.grownN; omega
        by_cases hlt : k < a.length
        · have hx : a[k]? = some a[k] := List.getElem?_eq_getElem hlt
          have hcl := T.count_lt (a := 0) (b := (j : Int)) hx
          simp only [T.count] at hcl
          have hst := T.subL_take_succ gs hx
          obtain ⟨ad, u, rfl, hP, hel, hinx⟩ := T.In.el hrd hrow hx
          obtain ⟨r0, r1, r2⟩ := hel.keep (hbel.block _ (hold _ hP))
          have hxb : Below wr.heap.size wr (wr.alloc (.cells #[.int .i64 a[k].kind, .int .i64 a[k].num, u] 35)) := (Below.refl _ _).alloc (Nat.le_refl _) _
          have HC := Lib.hid (HIH.out a[k] u _ P (.slice (some ad1) gs.length c1) B (by omega) (T.covL_at hcovL hx) ((hinx.old hold hbel).old (hold.bel hbel) hxb) ((hold.bel hbel).bel hxb) (hzi.below hxb))
          obtain ⟨A', n', c', rfl⟩ := hinx.form
          have hm0 : 0 ≤ min ((a[k].sub gs).count : Int) 100001 := by omega
          have hm1 : min ((a[k].sub gs).count : Int) 100001 ≤ 100001 := by omega
          have HST : Hid (T.grownN gs hc0 a (k + 1) = min (T.grownN gs hc0 a k + min ((a[k].sub gs).count : Int) 100001) 100001) := Lib.hid (by unfold T.grownN; rw [hst]; omega)
          generalize min ((a[k].sub gs).count : Int) 100001 = M at *
          generalize a[k] = x at *
          generalize hG : T.grownN gs hc0 a k = G at *
          have HG := Lib.hid hG
          clear hx hel hst hG
          go_wp2_with fail
          refine HC.out.mono ?_
          rintro e w2 ⟨rfl, hb2⟩
          simp only [World.size_alloc] at hb2
          go_wp2_with fail
          go_roundw
          case rel => exact ⟨k + 1, by omega, by go_num, congrArg (Value.int .i64) (by have h2 := HST.out; omega), (hzi.below hxb).below (hb2.mono (by simp)), hbel.trans (hxb.trans (hb2.mono (by omega)) |>.mono (by omega))⟩
          case measure => simp [intOf]; omega
        · have hll : a.take k = a := List.take_of_length_le (by omega)
          have HF : Hid (T.grownN gs hc0 a k = min ((hc0 + T.countL (T.subL gs a) : Nat) : Int) 100001) := Lib.hid (by unfold T.grownN; rw [hll])
          generalize T.grownN gs hc0 a k = G at *
          clear hll
          go_wp2_with fail
          go_ret
          exact ⟨ret_int HF.out, hbel⟩
    · have hkb : (kd == 0) = false := by simpa using hkz
      have hhd : T.head gs kd nm = .mk kd nm [] := T.head_not hkz
      have hc1 : (T.mk kd nm []).count = 1 := rfl
      rw [hhd, hc1]
      obtain ⟨hc0, hhc⟩ : ∃ m : Nat, m = 1 := ⟨1, rfl⟩
      have HS : Hid (Grw gs hc0 a B (.slice A1 gs.length c1) w (.int .i64 1) (.int .i64 0) (w.alloc (.cells #[.int .i64 kd, .int .i64 nm, .slice A a.length c] 35))) := Lib.hid ⟨0, Nat.zero_le _, rfl, by simp [T.grownN, T.subL, T.countL, hhc]; rfl, hz.below hw1, hw1⟩
      rw [← hhc]
      clear hhd hc1 hhc
      go_enter Try.func66, Try.ntmps66
      go_wp2_with fail
      go_loopw [5, 19] (fun n i wr => Grw gs hc0 a B (.slice A1 gs.length c1) w n i wr) (fun _ i _ => a.length - (intOf i).toNat)
      case atStart => exact HS.out
      case round =>
        obtain ⟨k, hk, rfl, rfl, hzi, hbel⟩ := hrel
        have hzr := hbel.size
        have hg0 : 0 ≤ T.grownN gs hc0 a k := by unfold T.grownN; omega
        have hg1 : T.grownN gs hc0 a k ≤ 100001 := by unfold T.grownN; omega
        by_cases hlt : k < a.length
        · have hx : a[k]? = some a[k] := List.getElem?_eq_getElem hlt
          have hcl := T.count_lt (a := kd) (b := nm) hx
          simp only [T.count] at hcl
          have hst := T.subL_take_succ gs hx
          obtain ⟨ad, u, rfl, hP, hel, hinx⟩ := T.In.el hrd hrow hx
          obtain ⟨r0, r1, r2⟩ := hel.keep (hbel.block _ (hold _ hP))
          have hxb : Below wr.heap.size wr (wr.alloc (.cells #[.int .i64 a[k].kind, .int .i64 a[k].num, u] 35)) := (Below.refl _ _).alloc (Nat.le_refl _) _
          have HC := Lib.hid (HIH.out a[k] u _ P (.slice A1 gs.length c1) B (by omega) (T.covL_at hcovL hx) ((hinx.old hold hbel).old (hold.bel hbel) hxb) ((hold.bel hbel).bel hxb) (hzi.below hxb))
          obtain ⟨A', n', c', rfl⟩ := hinx.form
          have hm0 : 0 ≤ min ((a[k].sub gs).count : Int) 100001 := by omega
          have hm1 : min ((a[k].sub gs).count : Int) 100001 ≤ 100001 := by omega
          have HST : Hid (T.grownN gs hc0 a (k + 1) = min (T.grownN gs hc0 a k + min ((a[k].sub gs).count : Int) 100001) 100001) := Lib.hid (by unfold T.grownN; rw [hst]; omega)
          generalize min ((a[k].sub gs).count : Int) 100001 = M at *
          generalize a[k] = x at *
          generalize hG : T.grownN gs hc0 a k = G at *
          have HG := Lib.hid hG
          clear hx hel hst hG
          go_wp2_with fail
          refine HC.out.mono ?_
          rintro e w2 ⟨rfl, hb2⟩
          simp only [World.size_alloc] at hb2
          go_wp2_with fail
          go_roundw
          case rel => exact ⟨k + 1, by omega, by go_num, congrArg (Value.int .i64) (by have h2 := HST.out; omega), (hzi.below hxb).below (hb2.mono (by simp)), hbel.trans (hxb.trans (hb2.mono (by omega)) |>.mono (by omega))⟩
          case measure => simp [intOf]; omega
        · have hll : a.take k = a := List.take_of_length_le (by omega)
          have HF : Hid (T.grownN gs hc0 a k = min ((hc0 + T.countL (T.subL gs a) : Nat) : Int) 100001) := Lib.hid (by unfold T.grownN; rw [hll])
          generalize T.grownN gs hc0 a k = G at *
          clear hll
          go_wp2_with fail
          go_ret
          exact ⟨ret_int HF.out, hbel⟩
end Go.Proofs.Ytmggccgjhjknpaa
