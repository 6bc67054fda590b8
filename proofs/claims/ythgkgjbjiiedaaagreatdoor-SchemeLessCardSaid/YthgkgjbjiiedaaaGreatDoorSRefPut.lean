/-
  Reference 03: Number, Term, Put.
-/
import Derived.Test.YthgkgjbjiiedaaaGreatDoorSRefEq
import Derived.Test.YthgkgjbjiiedaaaGreatDoorGG
import Derived.Test.YthgkgjbjiiedaaaGreatDoorGB
namespace Go.Proofs.YthgkgjbjiiedaaaGreatDoor
open Go.RowKit

theorem str_append3 (a b c : List UInt8) : Value.string (⟨a.toArray⟩ ++ ⟨b.toArray⟩ ++ ⟨c.toArray⟩) = .string ⟨(a ++ b ++ c).toArray⟩ := by
  congr 1
set_option maxHeartbeats 800000 in
theorem refNumber_any (n : Int) (h0 : 0 ≤ n) (h : n < 10) (w : World) : Calls Tryz.prog 58 #[.int .i64 n] w fun e w' => e = .returned (.string ⟨(Lib.decDigits n.toNat).toArray⟩) ∧ w' = w := by
  have hn : n = 0 ∨ n = 1 ∨ n = 2 ∨ n = 3 ∨ n = 4 ∨ n = 5 ∨ n = 6 ∨ n = 7 ∨ n = 8 ∨ n = 9 := by omega
  clear h0 h
  rcases hn with rfl | rfl | rfl | rfl | rfl | rfl | rfl | rfl | rfl | rfl
  all_goals
    go_enter Tryz.func58, Tryz.ntmps58
    go_wp2_with fail
    go_ret
    exact ⟨by rw [dec_one (by decide)]; rfl, rfl⟩

set_option maxRecDepth 100000 in
set_option maxHeartbeats 3200000 in
theorem refTerm_any (s : Sc) (hsh : s.short) (v0 v1 : Value) (hi : Nat) (K : Nat) : ∀ (t : T) (v : Value) (w : World), t.count ≤ K → t.count ≤ 1000 → ScIn w hi s v0 v1 → t.In w (fun b => b < hi) v → hi ≤ w.heap.size → t.heads 8 s.funs.length s.syms.length = true →
      Calls Tryz.prog 60 #[.agg #[v0, v1], .agg #[.int .i64 t.kind, .int .i64 t.num, v]] w fun e w' => e = .returned (.string ⟨(t.text s).toArray⟩) ∧ Below w.heap.size w w' := by
  induction K with
  | zero => intro t; have := t.count_pos; omega
  | succ K ih =>
  intro t v w hK hm hsc hin hhi hhd
  have HIH := Lib.hid ih
  clear ih
  obtain ⟨hh1, hh2⟩ := T.heads_head hhd
  obtain ⟨kd, nu, l⟩ := t
  simp only [T.In] at hin
  obtain ⟨A, _, c, us, rfl, rfl, hnc, hc, hrd, hrow⟩ := hin
  obtain ⟨⟨A0, n0, c0, rfl⟩, ⟨A1, n1, c1, rfl⟩⟩ := hsc.form
  simp only [T.kind, T.num, T.args] at *
  simp only [T.count] at hK hm
  simp only [headOk, Bool.and_eq_true, Bool.or_eq_true, decide_eq_true_eq] at hh1
  obtain ⟨h0, h1⟩ := hh1
  obtain ⟨m, rfl⟩ : ∃ m : Nat, nu = (m : Int) := ⟨nu.toNat, by omega⟩
  have wr0 : Below w.heap.size w ((w.alloc (.cells #[.slice A0 n0 c0, .slice A1 n1 c1] 25)).alloc (.cells #[.int .i64 kd, .int .i64 m, .slice A l.length c] 50)) := ((Below.refl _ _).alloc (Nat.le_refl _) _).alloc (by simp) _
  have bx0 : Blk ((w.alloc (.cells #[.slice A0 n0 c0, .slice A1 n1 c1] 25)).alloc (.cells #[.int .i64 kd, .int .i64 m, .slice A l.length c] 50)) w.heap.size 25 #[.slice A0 n0 c0, .slice A1 n1 c1] := (Blk.new _ _ _).alloc _
  have bt0 : Blk ((w.alloc (.cells #[.slice A0 n0 c0, .slice A1 n1 c1] 25)).alloc (.cells #[.int .i64 kd, .int .i64 m, .slice A l.length c] 50)) (w.heap.size + 1) 50 #[.int .i64 kd, .int .i64 m, .slice A l.length c] := by
    have := Blk.new (w.alloc (.cells #[.slice A0 n0 c0, .slice A1 n1 c1] 25)) 50 #[.int .i64 kd, .int .i64 m, .slice A l.length c]
    simpa using this
  have hsc0 := hsc.below wr0 hhi
  have d0 := bx0.cell 0
  have d1 := bx0.cell 1
  have d2 := bt0.cell 0
  have d3 := bt0.cell 1
  have d4 := bt0.cell 2
  simp at d0 d1 d2 d3 d4
  have hhl : (headB s kd (m : Int)).length ≤ 25 := headB_length hsh (by simp only [headOk, Bool.and_eq_true, Bool.or_eq_true, decide_eq_true_eq]; exact ⟨h0, h1⟩)
  rcases h1 with ⟨rfl, h2⟩ | ⟨rfl, h2⟩ | ⟨rfl, h2⟩
  · have HN := Lib.hid (fun W => refNumber_any (m : Int) (by omega) (by omega) W)
    have HF : Hid (headB s 0 (m : Int) = 36 :: Lib.decDigits m) := Lib.hid (by simp [headB])
    simp only [Int.toNat_natCast] at HN
    have hdl : (Lib.decDigits m).length ≤ 1 := by rw [dec_one (by omega)]; simp
    generalize Lib.decDigits m = dg at *
    go_enter Tryz.func60, Tryz.ntmps60
    go_wp2_with fail
    refine (HN.out _).mono ?_
    rintro e w1 ⟨rfl, rfl⟩
    go_wp2_with fail
    go_loopw [36, 5] (fun i n wr => ∃ (k : Nat) (t : List UInt8), k ≤ l.length ∧ i = .int .i64 k ∧ n = .string ⟨t.toArray⟩ ∧ Hid (t = headB s 0 (m : Int) ++ T.textL s (l.take k)) ∧ Blk wr w.heap.size 25 #[.slice A0 n0 c0, .slice A1 n1 c1] ∧ Below w.heap.size w wr) (fun i _ _ => l.length - (intOf i).toNat)
    case atStart => exact ⟨0, headB s 0 (m : Int), Nat.zero_le _, rfl, (by rw [HF.out]; exact str_append [36] dg), Lib.hid (by simp [T.textL]), bx0, wr0⟩
    case round =>
      obtain ⟨k, t, hk, rfl, rfl, ht, hbx, hbel⟩ := hrel
      have hsz := hbel.size
      have hlb := hbx.lt
      have htl : t.length ≤ 30000 := by
        have h1 := T.textL_length hsh (l.take k) (T.headsL_take l k hh2)
        have h2 := T.countL_take_le l k
        rw [ht.out, List.length_append]
        omega
      obtain ⟨e0, e1⟩ : wr.cell? ⟨w.heap.size, 0, none⟩ = some (.slice A0 n0 c0) ∧ wr.cell? ⟨w.heap.size, 1, none⟩ = some (.slice A1 n1 c1) := by
        have a0 := hbx.cell 0
        have a1 := hbx.cell 1
        simp at a0 a1
        exact ⟨a0, a1⟩
      by_cases hlt : k < l.length
      · have hx : l[k]? = some l[k] := List.getElem?_eq_getElem hlt
        have hcl : l[k].count ≤ T.countL l := by
          have h1 := T.countL_take_succ l k _ hx
          have h2 := T.countL_take_le l (k + 1)
          omega
        have hts := T.textL_take_succ s l k _ hx
        have hxh := T.headsL_at hh2 hx
        obtain ⟨ad, u, rfl, hPa, hel, hix⟩ := T.In.el hrd hrow hx
        obtain ⟨r0, r1, r2⟩ := hel.keep (hbel.block _ (by omega))
        obtain ⟨A2, n2, c2, rfl⟩ := hix.form
        have hlx : l[k].args.length = n2 := by
          generalize l[k] = x at hix
          obtain ⟨xk, xn, lx⟩ := x
          simp only [T.In] at hix
          obtain ⟨_, _, _, _, e1, e2, _⟩ := hix
          injection e1 with _ e3 _
          rw [e3]; exact e2
        generalize l[k] = x at *
        have bx : Below wr.heap.size wr (wr.alloc (.cells #[.int .i64 x.kind, .int .i64 x.num, .slice A2 n2 c2] 50)) := (Below.refl _ _).alloc (Nat.le_refl _) _
        have hb2 := hbel.trans (bx.mono (by omega))
        have hbb := Blk.new wr 50 #[.int .i64 x.kind, .int .i64 x.num, .slice A2 n2 c2]
        have p0 := hbb.cell 0
        have p1 := hbb.cell 1
        have p2 := hbb.cell 2
        simp at p0 p1 p2
        have HC := Lib.hid (HIH.out x _ _ (by omega) (by omega) (hsc.below hb2 hhi) (T.In.below hix hb2 (fun _ h => by omega)) (by simp; omega) hxh)
        have hxl := T.text_length hsh x hxh
        have hbx2 := Lib.hid (hbx.alloc (.cells #[.int .i64 x.kind, .int .i64 x.num, .slice A2 n2 c2] 50))
        have hxt : x.text s = headB s x.kind x.num ++ T.textL s x.args := T.text_eq s x
        by_cases h0 : n2 = 0
        · have hargs : x.args = [] := List.eq_nil_of_length_eq_zero (by omega)
          have HT : Hid (t ++ [32] ++ x.text s = headB s 0 (m : Int) ++ T.textL s (l.take (k + 1))) := Lib.hid (by rw [hts, ht.out, hxt]; simp [T.argText, hargs, T.textL])
          have hn0 : ((n2 : Int) == 0) = true := by rw [h0]; rfl
          generalize x.text s = tx at *
          clear hx hts hlx h0 hargs hxt hel hix hbb hbx
          go_wp2_with fail
          refine HC.out.mono ?_
          rintro e w1 ⟨rfl, hb1⟩
          have hbx3 := hbx2.out.below hb1 hbx2.out.lt
          simp only [World.size_alloc] at hb1
          go_wp2_with fail
          go_roundw
          case rel => exact ⟨k + 1, t ++ [32] ++ tx, by omega, by go_num, str_append3 _ _ _, HT, hbx3, hb2.trans (hb1.mono (by omega))⟩
          case measure => simp [intOf]; omega
        · have hargs : x.args ≠ [] := fun e => by rw [e] at hlx; simp at hlx; omega
          have HT : Hid (t ++ [32, 40] ++ x.text s ++ [41] = headB s 0 (m : Int) ++ T.textL s (l.take (k + 1))) := Lib.hid (by rw [hts, ht.out]; simp [T.argText, hargs])
          have hn0 : ((n2 : Int) == 0) = false := by rw [beq_eq_false_iff_ne]; omega
          generalize x.text s = tx at *
          clear hx hts hlx h0 hargs hxt hel hix hbb hbx
          go_wp2_with fail
          refine HC.out.mono ?_
          rintro e w1 ⟨rfl, hb1⟩
          have hbx3 := hbx2.out.below hb1 hbx2.out.lt
          simp only [World.size_alloc] at hb1
          go_wp2_with fail
          go_roundw
          case rel => exact ⟨k + 1, t ++ [32, 40] ++ tx ++ [41], by omega, by go_num, str_append4 _ _ _ _, HT, hbx3, hb2.trans (hb1.mono (by omega))⟩
          case measure => simp [intOf]; omega
      · have HT : Hid (t = (T.mk 0 (m : Int) l).text s) := Lib.hid (by have := ht.out; rw [List.take_of_length_le (by omega)] at this; rw [this, T.text])
        go_wp2_with fail
        go_ret
        exact ⟨by rw [← HT.out]; rfl, hbel⟩
  · obtain ⟨A', _, c', us', he, hl', hnc', hc', hrd', hrow'⟩ := hsc0.fn
    injection he with g1 g2 g3
    subst g1 g2 g3 hl'
    have hx : s.funs[m]? = some s.funs[m] := List.getElem?_eq_getElem (by omega)
    have HF : Hid (headB s 1 (m : Int) = fnm s.funs[m]) := Lib.hid (by simp [headB, hx])
    obtain ⟨ad, u, vb, rfl, hPa, hel, _⟩ := fn_el hrd' hrow' hx
    have r0 := hel.c0
    generalize s.funs[m] = x at *
    obtain ⟨name, sort, body⟩ := x
    simp only at r0
    have hml : m < s.funs.length := by omega
    clear hel hrow' hrd' hx
    go_enter Tryz.func60, Tryz.ntmps60
    go_wp2_with fail
    go_loopw [36, 5] (fun i n wr => ∃ (k : Nat) (t : List UInt8), k ≤ l.length ∧ i = .int .i64 k ∧ n = .string ⟨t.toArray⟩ ∧ Hid (t = headB s 1 (m : Int) ++ T.textL s (l.take k)) ∧ Blk wr w.heap.size 25 #[.slice A0 n0 c0, .slice (some ad) s.funs.length c1] ∧ Below w.heap.size w wr) (fun i _ _ => l.length - (intOf i).toNat)
    case atStart => exact ⟨0, headB s 1 (m : Int), Nat.zero_le _, rfl, (by rw [HF.out]; exact str_list name), Lib.hid (by simp [T.textL]), bx0, wr0⟩
    case round =>
      obtain ⟨k, t, hk, rfl, rfl, ht, hbx, hbel⟩ := hrel
      have hsz := hbel.size
      have hlb := hbx.lt
      have htl : t.length ≤ 30000 := by
        have h1 := T.textL_length hsh (l.take k) (T.headsL_take l k hh2)
        have h2 := T.countL_take_le l k
        rw [ht.out, List.length_append]
        omega
      obtain ⟨e0, e1⟩ : wr.cell? ⟨w.heap.size, 0, none⟩ = some (.slice A0 n0 c0) ∧ wr.cell? ⟨w.heap.size, 1, none⟩ = some (.slice (some ad) s.funs.length c1) := by
        have a0 := hbx.cell 0
        have a1 := hbx.cell 1
        simp at a0 a1
        exact ⟨a0, a1⟩
      by_cases hlt : k < l.length
      · have hx : l[k]? = some l[k] := List.getElem?_eq_getElem hlt
        have hcl : l[k].count ≤ T.countL l := by
          have h1 := T.countL_take_succ l k _ hx
          have h2 := T.countL_take_le l (k + 1)
          omega
        have hts := T.textL_take_succ s l k _ hx
        have hxh := T.headsL_at hh2 hx
        obtain ⟨ad, u, rfl, hPa, hel, hix⟩ := T.In.el hrd hrow hx
        obtain ⟨r0, r1, r2⟩ := hel.keep (hbel.block _ (by omega))
        obtain ⟨A2, n2, c2, rfl⟩ := hix.form
        have hlx : l[k].args.length = n2 := by
          generalize l[k] = x at hix
          obtain ⟨xk, xn, lx⟩ := x
          simp only [T.In] at hix
          obtain ⟨_, _, _, _, e1, e2, _⟩ := hix
          injection e1 with _ e3 _
          rw [e3]; exact e2
        generalize l[k] = x at *
        have bx : Below wr.heap.size wr (wr.alloc (.cells #[.int .i64 x.kind, .int .i64 x.num, .slice A2 n2 c2] 50)) := (Below.refl _ _).alloc (Nat.le_refl _) _
        have hb2 := hbel.trans (bx.mono (by omega))
        have hbb := Blk.new wr 50 #[.int .i64 x.kind, .int .i64 x.num, .slice A2 n2 c2]
        have p0 := hbb.cell 0
        have p1 := hbb.cell 1
        have p2 := hbb.cell 2
        simp at p0 p1 p2
        have HC := Lib.hid (HIH.out x _ _ (by omega) (by omega) (hsc.below hb2 hhi) (T.In.below hix hb2 (fun _ h => by omega)) (by simp; omega) hxh)
        have hxl := T.text_length hsh x hxh
        have hbx2 := Lib.hid (hbx.alloc (.cells #[.int .i64 x.kind, .int .i64 x.num, .slice A2 n2 c2] 50))
        have hxt : x.text s = headB s x.kind x.num ++ T.textL s x.args := T.text_eq s x
        by_cases h0 : n2 = 0
        · have hargs : x.args = [] := List.eq_nil_of_length_eq_zero (by omega)
          have HT : Hid (t ++ [32] ++ x.text s = headB s 1 (m : Int) ++ T.textL s (l.take (k + 1))) := Lib.hid (by rw [hts, ht.out, hxt]; simp [T.argText, hargs, T.textL])
          have hn0 : ((n2 : Int) == 0) = true := by rw [h0]; rfl
          generalize x.text s = tx at *
          clear hx hts hlx h0 hargs hxt hel hix hbb hbx
          go_wp2_with fail
          refine HC.out.mono ?_
          rintro e w1 ⟨rfl, hb1⟩
          have hbx3 := hbx2.out.below hb1 hbx2.out.lt
          simp only [World.size_alloc] at hb1
          go_wp2_with fail
          go_roundw
          case rel => exact ⟨k + 1, t ++ [32] ++ tx, by omega, by go_num, str_append3 _ _ _, HT, hbx3, hb2.trans (hb1.mono (by omega))⟩
          case measure => simp [intOf]; omega
        · have hargs : x.args ≠ [] := fun e => by rw [e] at hlx; simp at hlx; omega
          have HT : Hid (t ++ [32, 40] ++ x.text s ++ [41] = headB s 1 (m : Int) ++ T.textL s (l.take (k + 1))) := Lib.hid (by rw [hts, ht.out]; simp [T.argText, hargs])
          have hn0 : ((n2 : Int) == 0) = false := by rw [beq_eq_false_iff_ne]; omega
          generalize x.text s = tx at *
          clear hx hts hlx h0 hargs hxt hel hix hbb hbx
          go_wp2_with fail
          refine HC.out.mono ?_
          rintro e w1 ⟨rfl, hb1⟩
          have hbx3 := hbx2.out.below hb1 hbx2.out.lt
          simp only [World.size_alloc] at hb1
          go_wp2_with fail
          go_roundw
          case rel => exact ⟨k + 1, t ++ [32, 40] ++ tx ++ [41], by omega, by go_num, str_append4 _ _ _ _, HT, hbx3, hb2.trans (hb1.mono (by omega))⟩
          case measure => simp [intOf]; omega
      · have HT : Hid (t = (T.mk 1 (m : Int) l).text s) := Lib.hid (by have := ht.out; rw [List.take_of_length_le (by omega)] at this; rw [this, T.text])
        go_wp2_with fail
        go_ret
        exact ⟨by rw [← HT.out]; rfl, hbel⟩
  · obtain ⟨A', _, c', he, hl', hnc', hc', hrd', hsz'⟩ := hsc0.sy
    injection he with g1 g2 g3
    subst g1 g2 g3 hl'
    have hx : s.syms[m]? = some s.syms[m] := List.getElem?_eq_getElem (by omega)
    have HF : Hid (headB s 2 (m : Int) = 35 :: nm s.syms[m]) := Lib.hid (by simp [headB, hx])
    obtain ⟨ad, rfl, hPa, hel⟩ := sy_el hrd' hx
    have r0 := hel.1
    have hsx := hsh.1 s.syms[m] (List.getElem_mem (by omega))
    generalize s.syms[m] = x at *
    obtain ⟨name, rank⟩ := x
    simp only at r0 hsx
    have hml : m < s.syms.length := by omega
    clear hel hrd' hx
    go_enter Tryz.func60, Tryz.ntmps60
    go_wp2_with fail
    go_loopw [36, 5] (fun i n wr => ∃ (k : Nat) (t : List UInt8), k ≤ l.length ∧ i = .int .i64 k ∧ n = .string ⟨t.toArray⟩ ∧ Hid (t = headB s 2 (m : Int) ++ T.textL s (l.take k)) ∧ Blk wr w.heap.size 25 #[.slice (some ad) s.syms.length c0, .slice A1 n1 c1] ∧ Below w.heap.size w wr) (fun i _ _ => l.length - (intOf i).toNat)
    case atStart => exact ⟨0, headB s 2 (m : Int), Nat.zero_le _, rfl, (by rw [HF.out]; exact str_one 35 name), Lib.hid (by simp [T.textL]), bx0, wr0⟩
    case round =>
      obtain ⟨k, t, hk, rfl, rfl, ht, hbx, hbel⟩ := hrel
      have hsz := hbel.size
      have hlb := hbx.lt
      have htl : t.length ≤ 30000 := by
        have h1 := T.textL_length hsh (l.take k) (T.headsL_take l k hh2)
        have h2 := T.countL_take_le l k
        rw [ht.out, List.length_append]
        omega
      obtain ⟨e0, e1⟩ : wr.cell? ⟨w.heap.size, 0, none⟩ = some (.slice (some ad) s.syms.length c0) ∧ wr.cell? ⟨w.heap.size, 1, none⟩ = some (.slice A1 n1 c1) := by
        have a0 := hbx.cell 0
        have a1 := hbx.cell 1
        simp at a0 a1
        exact ⟨a0, a1⟩
      by_cases hlt : k < l.length
      · have hx : l[k]? = some l[k] := List.getElem?_eq_getElem hlt
        have hcl : l[k].count ≤ T.countL l := by
          have h1 := T.countL_take_succ l k _ hx
          have h2 := T.countL_take_le l (k + 1)
          omega
        have hts := T.textL_take_succ s l k _ hx
        have hxh := T.headsL_at hh2 hx
        obtain ⟨ad, u, rfl, hPa, hel, hix⟩ := T.In.el hrd hrow hx
        obtain ⟨r0, r1, r2⟩ := hel.keep (hbel.block _ (by omega))
        obtain ⟨A2, n2, c2, rfl⟩ := hix.form
        have hlx : l[k].args.length = n2 := by
          generalize l[k] = x at hix
          obtain ⟨xk, xn, lx⟩ := x
          simp only [T.In] at hix
          obtain ⟨_, _, _, _, e1, e2, _⟩ := hix
          injection e1 with _ e3 _
          rw [e3]; exact e2
        generalize l[k] = x at *
        have bx : Below wr.heap.size wr (wr.alloc (.cells #[.int .i64 x.kind, .int .i64 x.num, .slice A2 n2 c2] 50)) := (Below.refl _ _).alloc (Nat.le_refl _) _
        have hb2 := hbel.trans (bx.mono (by omega))
        have hbb := Blk.new wr 50 #[.int .i64 x.kind, .int .i64 x.num, .slice A2 n2 c2]
        have p0 := hbb.cell 0
        have p1 := hbb.cell 1
        have p2 := hbb.cell 2
        simp at p0 p1 p2
        have HC := Lib.hid (HIH.out x _ _ (by omega) (by omega) (hsc.below hb2 hhi) (T.In.below hix hb2 (fun _ h => by omega)) (by simp; omega) hxh)
        have hxl := T.text_length hsh x hxh
        have hbx2 := Lib.hid (hbx.alloc (.cells #[.int .i64 x.kind, .int .i64 x.num, .slice A2 n2 c2] 50))
        have hxt : x.text s = headB s x.kind x.num ++ T.textL s x.args := T.text_eq s x
        by_cases h0 : n2 = 0
        · have hargs : x.args = [] := List.eq_nil_of_length_eq_zero (by omega)
          have HT : Hid (t ++ [32] ++ x.text s = headB s 2 (m : Int) ++ T.textL s (l.take (k + 1))) := Lib.hid (by rw [hts, ht.out, hxt]; simp [T.argText, hargs, T.textL])
          have hn0 : ((n2 : Int) == 0) = true := by rw [h0]; rfl
          generalize x.text s = tx at *
          clear hx hts hlx h0 hargs hxt hel hix hbb hbx
          go_wp2_with fail
          refine HC.out.mono ?_
          rintro e w1 ⟨rfl, hb1⟩
          have hbx3 := hbx2.out.below hb1 hbx2.out.lt
          simp only [World.size_alloc] at hb1
          go_wp2_with fail
          go_roundw
          case rel => exact ⟨k + 1, t ++ [32] ++ tx, by omega, by go_num, str_append3 _ _ _, HT, hbx3, hb2.trans (hb1.mono (by omega))⟩
          case measure => simp [intOf]; omega
        · have hargs : x.args ≠ [] := fun e => by rw [e] at hlx; simp at hlx; omega
          have HT : Hid (t ++ [32, 40] ++ x.text s ++ [41] = headB s 2 (m : Int) ++ T.textL s (l.take (k + 1))) := Lib.hid (by rw [hts, ht.out]; simp [T.argText, hargs])
          have hn0 : ((n2 : Int) == 0) = false := by rw [beq_eq_false_iff_ne]; omega
          generalize x.text s = tx at *
          clear hx hts hlx h0 hargs hxt hel hix hbb hbx
          go_wp2_with fail
          refine HC.out.mono ?_
          rintro e w1 ⟨rfl, hb1⟩
          have hbx3 := hbx2.out.below hb1 hbx2.out.lt
          simp only [World.size_alloc] at hb1
          go_wp2_with fail
          go_roundw
          case rel => exact ⟨k + 1, t ++ [32, 40] ++ tx ++ [41], by omega, by go_num, str_append4 _ _ _ _, HT, hbx3, hb2.trans (hb1.mono (by omega))⟩
          case measure => simp [intOf]; omega
      · have HT : Hid (t = (T.mk 2 (m : Int) l).text s) := Lib.hid (by have := ht.out; rw [List.take_of_length_le (by omega)] at this; rw [this, T.text])
        go_wp2_with fail
        go_ret
        exact ⟨by rw [← HT.out]; rfl, hbel⟩

theorem str_sym (t : List UInt8) (name : ByteArray) (dg : List UInt8) : Value.string (⟨t.toArray⟩ ++ ⟨#[115, 121, 109, 98, 111, 108, 32]⟩ ++ name ++ ⟨#[32]⟩ ++ ⟨dg.toArray⟩ ++ ⟨#[10]⟩) = .string ⟨(t ++ [115, 121, 109, 98, 111, 108, 32] ++ name.data.toList ++ [32] ++ dg ++ [10]).toArray⟩ := by
  congr 1
theorem str_fun (t : List UInt8) (name : ByteArray) (tx ty : List UInt8) : Value.string (⟨t.toArray⟩ ++ ⟨#[102, 117, 110, 32]⟩ ++ name ++ ⟨#[32, 58, 32]⟩ ++ ⟨tx.toArray⟩ ++ ⟨#[32, 61, 32]⟩ ++ ⟨ty.toArray⟩ ++ ⟨#[10]⟩) = .string ⟨(t ++ [102, 117, 110, 32] ++ name.data.toList ++ [32, 58, 32] ++ tx ++ [32, 61, 32] ++ ty ++ [10]).toArray⟩ := by
  congr 1

set_option maxRecDepth 100000 in
set_option maxHeartbeats 3200000 in
theorem refScPut_any (s : Sc) (v0 v1 : Value) (w : World) (hi : Nat) (hin : ScIn w hi s v0 v1) (hhi : hi ≤ w.heap.size) :
    Calls Tryz.prog 27 #[.agg #[v0, v1]] w fun e w' => e = .returned (.tuple #[.string ⟨s.puts.toArray⟩, .int .i64 s.putE]) ∧ Below w.heap.size w w' := by
  have k0 := ScKept.start hin hhi
  obtain ⟨A0, _, c0, rfl, rfl, hnc0, hc0, hrd0, hsz0⟩ := hin.sy
  obtain ⟨A1, _, c1, us1, rfl, rfl, hnc1, hc1, hrd1, hrow1⟩ := hin.fn
  have HC := Lib.hid (refScIs_any s _ _ _ hi k0.i (by have := k0.b.lt; have := k0.hi; omega))
  rw [sayOk_ok] at HC
  have d0 := k0.b.cell 0
  have d1 := k0.b.cell 1
  simp at d0 d1
  cases hok : s.ok with
  | false =>
    have HE : Hid (s.putE = 7) := Lib.hid (by simp [Sc.putE, hok])
    have HP : Hid (s.puts = []) := Lib.hid (by simp [Sc.puts, Sc.putE, hok])
    rw [hok] at HC
    clear hok
    go_enter Tryz.func27, Tryz.ntmps27
    go_wp2_with fail
    refine HC.out.mono ?_
    rintro e w1 ⟨rfl, b1⟩
    have k1 := k0.next b1
    go_wp2_with fail
    go_ret2
    exact ⟨by rw [HE.out, HP.out]; rfl, k1.bel⟩
  | true =>
    have G := Sc.good hok
    have HE : Hid (s.putE = if 65536 < s.text.length then 3 else 0) := Lib.hid (by simp [Sc.putE, hok])
    rw [hok] at HC
    clear hok
    obtain ⟨hs1, hs2⟩ := G.sy_all
    have hn64 := G.n64
    go_enter Tryz.func27, Tryz.ntmps27
    go_wp2_with fail
    refine HC.out.mono ?_
    rintro e w1 ⟨rfl, b1⟩
    have k1 := k0.next b1
    have e0 := k1.b.cell 0
    simp at e0
    have K1 := Lib.hid k1
    clear HC d0 d1 k0 b1 k1
    go_wp2_with fail
    go_loopw [15, 4] (fun i n wr => ∃ (k : Nat) (t : List UInt8), k ≤ s.syms.length ∧ i = .int .i64 k ∧ n = .string ⟨t.toArray⟩ ∧ Hid (t = symLines (s.syms.take k)) ∧ ScKept s (.slice A0 s.syms.length c0) (.slice A1 s.funs.length c1) hi w.heap.size w wr) (fun i _ _ => s.syms.length - (intOf i).toNat)
    case atStart => exact ⟨0, [], Nat.zero_le _, rfl, rfl, Lib.hid (by simp [symLines]), K1.out⟩
    case round =>
      obtain ⟨k, t, hk, rfl, rfl, ht, hkr⟩ := hrel
      have hlr := hkr.b.lt
      have htl : t.length ≤ 1000 := by rw [ht.out]; exact symLines_length G k
      by_cases hlt : k < s.syms.length
      · have hx : s.syms[k]? = some s.syms[k] := List.getElem?_eq_getElem hlt
        obtain ⟨ad, rfl, hPa, hel⟩ := sy_el hrd0 hx
        obtain ⟨r0, r1⟩ := hel.keep (hkr.bel.block _ (by omega))
        have hsx := hs2 s.syms[k] (List.getElem_mem hlt)
        have hns := G.short.1 s.syms[k] (List.getElem_mem hlt)
        have hts := symLines_succ hx
        generalize s.syms[k] = x at *
        obtain ⟨name, rank⟩ := x
        simp only at *
        obtain ⟨r, rfl⟩ : ∃ r : Nat, rank = (r : Int) := ⟨rank.toNat, by omega⟩
        have hd := dec_one (m := r) (by omega)
        have hdl : (Lib.decDigits r).length ≤ 1 := by rw [hd]; simp
        have HN0 := Lib.hid (fun W => refNumber_any (r : Int) (by omega) (by omega) W)
        simp only [Int.toNat_natCast] at HN0
        have HT : Hid (t ++ [115, 121, 109, 98, 111, 108, 32] ++ name.data.toList ++ [32] ++ Lib.decDigits r ++ [10] = symLines (s.syms.take (k + 1))) := Lib.hid (by rw [hts, ht.out]; simp [symLine, nm])
        have hk2 := hkr.next ((Below.refl wr.heap.size wr).alloc (Nat.le_refl _) (.cells #[.string name, .int .i64 (r : Int)] 65))
        have hba := Blk.new wr 65 #[.string name, .int .i64 (r : Int)]
        generalize Lib.decDigits r = dg at *
        generalize hKK : (fun W => ScKept s (.slice (some ad) s.syms.length c0) (.slice A1 s.funs.length c1) hi w.heap.size w W ∧ Blk W wr.heap.size 65 #[.string name, .int .i64 (r : Int)]) = K
        have of_ : ∀ W, K W → ScKept s (.slice (some ad) s.syms.length c0) (.slice A1 s.funs.length c1) hi w.heap.size w W ∧ Blk W wr.heap.size 65 #[.string name, .int .i64 (r : Int)] := fun W h => by rw [← hKK] at h; exact h
        have HCell : Hid (∀ W, K W → W.cell? ⟨wr.heap.size, 0, none⟩ = some (.string name) ∧ W.cell? ⟨wr.heap.size, 1, none⟩ = some (.int .i64 (r : Int))) := Lib.hid fun W h => by
          have a0 := (of_ W h).2.cell 0
          have a1 := (of_ W h).2.cell 1
          simp at a0 a1
          exact ⟨a0, a1⟩
        have HSK : Hid (∀ W, K W → ScKept s (.slice (some ad) s.syms.length c0) (.slice A1 s.funs.length c1) hi w.heap.size w W) := Lib.hid fun W h => (of_ W h).1
        have HN := Lib.hid (fun W (h : K W) => (HN0.out W).mono fun e w' ⟨he, hw⟩ => (⟨he, hw ▸ h⟩ : e = Ending.returned (.string ⟨dg.toArray⟩) ∧ K w'))
        have kd : K (wr.alloc (.cells #[.string name, .int .i64 (r : Int)] 65)).drew := by
          rw [← hKK]
          exact ⟨hk2.next (Below.refl _ _).drew, hba.drew⟩
        have hA0 : ¬ 9223372036854775807 < t.length + 7 := by omega
        have hA1 : ¬ 9223372036854775807 < t.length + 7 + name.size := by omega
        have hA2 : ¬ 9223372036854775807 < t.length + 7 + name.size + 1 := by omega
        have hA3 : ¬ 9223372036854775807 < t.length + 7 + name.size + 1 + dg.length := by omega
        have hA4 : ¬ 9223372036854775807 < t.length + 7 + name.size + 1 + dg.length + 1 := by omega
        clear hKK of_ HN0 hx hel hts hd hk2 hba hkr hs2 hsx
        go_wp2_with fail
        (refine region_class (C := K) (by kernel_rfl) (by kernel_rfl) kd ?_
         repeat (first
          | go_big_quiet_skip
          | (go_big_quiet_want; go_big_quiet_op; go_big_quiet_on)
          | (go_big_quiet_want
             go_big_quiet_op
             apply Exists.intro
             refine ⟨fun W hW => ?_, ?_⟩
             first
             | rfl
             | exact HN.out W hW
             | (have hc := HCell.out W hW
                simp [hc]
                done)
             | (have hc := HCell.out W hW
                simp [hc]
                rfl)
             go_big_quiet_on))
         refine wpQuiet_nil ?_
         intro W hW)
        go_wp2_with fail
        go_roundw
        case rel => exact ⟨k + 1, _, by omega, by go_num, str_sym t name dg, HT, HSK.out _ hW⟩
        case measure => simp [intOf]; omega
      · have hll : s.syms.take k = s.syms := List.take_of_length_le (by omega)
        rw [hll] at ht
        clear hll
        have f1 := hkr.b.cell 1
        simp at f1
        have HKR := Lib.hid hkr
        clear hkr
        go_wp2_with fail
        go_loopw [34, 4] (fun i n wx => ∃ (j : Nat) (u : List UInt8), j ≤ s.funs.length ∧ i = .int .i64 j ∧ n = .string ⟨u.toArray⟩ ∧ Hid (u = symLines s.syms ++ funLines s (s.funs.take j)) ∧ ScKept s (.slice A0 s.syms.length c0) (.slice A1 s.funs.length c1) hi w.heap.size w wx) (fun i _ _ => s.funs.length - (intOf i).toNat)
        case atStart => exact ⟨0, t, Nat.zero_le _, rfl, rfl, Lib.hid (by rw [ht.out]; simp [funLines]), HKR.out⟩
        case round =>
          obtain ⟨j, u, hj, rfl, rfl, hu, hkr⟩ := hrel
          have hlr := hkr.b.lt
          have hhr := hkr.hi
          have hul : u.length ≤ 769000 := by
            have h1 := symLines_length G s.syms.length
            rw [List.take_length] at h1
            have h2 := funLines_length G j
            rw [hu.out, List.length_append]
            omega
          by_cases hlt2 : j < s.funs.length
          · have hx : s.funs[j]? = some s.funs[j] := List.getElem?_eq_getElem hlt2
            have hmem : s.funs[j] ∈ s.funs := List.getElem_mem hlt2
            obtain ⟨ad, uu, vv, rfl, hPa, hel, hsu, hbv, hsx⟩ := fn_el hrd1 hrow1 hx
            obtain ⟨r0, r1, r2, r3, r4⟩ := hel.keep (hkr.bel.block _ (by omega))
            obtain ⟨hb1, hb2⟩ := G.body hmem
            have hns := G.short.2 _ hmem
            have hso := S.ok_count (G.so _ hmem)
            have hts := funLines_succ (s := s) hx
            have hxl := T.text_length G.short s.funs[j].body hb2
            have hsl := s.funs[j].sort.text_length
            obtain ⟨A4, n4, c4, rfl⟩ := hsu.form
            obtain ⟨A5, n5, c5, rfl⟩ := hbv.form
            generalize s.funs[j] = x at *
            obtain ⟨name, sort, body⟩ := x
            simp only at *
            have HT : Hid (u ++ [102, 117, 110, 32] ++ name.data.toList ++ [32, 58, 32] ++ sort.text ++ [32, 61, 32] ++ body.text s ++ [10] = symLines s.syms ++ funLines s (s.funs.take (j + 1))) := Lib.hid (by rw [hts, hu.out]; simp [funLine, fnm])
            have hk2 := hkr.next ((Below.refl wr.heap.size wr).alloc (Nat.le_refl _) (.cells #[.string name, .slice A4 n4 c4, .int .i64 body.kind, .int .i64 body.num, .slice A5 n5 c5] 52))
            have hba := Blk.new wr 52 #[.string name, .slice A4 n4 c4, .int .i64 body.kind, .int .i64 body.num, .slice A5 n5 c5]
            generalize hKK : (fun W => ScKept s (.slice A0 s.syms.length c0) (.slice (some ad) s.funs.length c1) hi w.heap.size w W ∧ Blk W wr.heap.size 52 #[.string name, .slice A4 n4 c4, .int .i64 body.kind, .int .i64 body.num, .slice A5 n5 c5]) = K
            have of_ : ∀ W, K W → ScKept s (.slice A0 s.syms.length c0) (.slice (some ad) s.funs.length c1) hi w.heap.size w W ∧ Blk W wr.heap.size 52 #[.string name, .slice A4 n4 c4, .int .i64 body.kind, .int .i64 body.num, .slice A5 n5 c5] := fun W h => by rw [← hKK] at h; exact h
            have hKn : ∀ W W', K W → Below W.heap.size W W' → K W' := fun W W' h hb => by
              rw [← hKK] at h ⊢
              exact ⟨h.1.next hb, h.2.below hb h.2.lt⟩
            have HCell : Hid (∀ W, K W → (W.cell? ⟨w.heap.size, 0, none⟩ = some (.slice A0 s.syms.length c0) ∧ W.cell? ⟨w.heap.size, 1, none⟩ = some (.slice (some ad) s.funs.length c1)) ∧ W.cell? ⟨wr.heap.size, 0, none⟩ = some (.string name) ∧ W.cell? ⟨wr.heap.size, 1, none⟩ = some (.slice A4 n4 c4) ∧ W.cell? ⟨wr.heap.size, 2, none⟩ = some (.int .i64 body.kind) ∧ W.cell? ⟨wr.heap.size, 3, none⟩ = some (.int .i64 body.num) ∧ W.cell? ⟨wr.heap.size, 4, none⟩ = some (.slice A5 n5 c5)) := Lib.hid fun W h => by
              have a0 := (of_ W h).2.cell 0
              have a1 := (of_ W h).2.cell 1
              have a2 := (of_ W h).2.cell 2
              have a3 := (of_ W h).2.cell 3
              have a4 := (of_ W h).2.cell 4
              have b0 := (of_ W h).1.b.cell 0
              have b1 := (of_ W h).1.b.cell 1
              simp at a0 a1 a2 a3 a4 b0 b1
              exact ⟨⟨b0, b1⟩, a0, a1, a2, a3, a4⟩
            have HSK : Hid (∀ W, K W → ScKept s (.slice A0 s.syms.length c0) (.slice (some ad) s.funs.length c1) hi w.heap.size w W) := Lib.hid fun W h => (of_ W h).1
            have HTX := Lib.hid (fun W (h : K W) => (refText_any sort.count sort _ W 0 hi (Nat.le_refl _) (by omega) (hsu.below (of_ W h).1.bel (by omega)) (by have := (of_ W h).1.b.lt; omega)).mono fun e w' ⟨he, hb⟩ => (⟨he, hKn _ _ h hb⟩ : e = Ending.returned (.string ⟨sort.text.toArray⟩) ∧ K w'))
            have HTM := Lib.hid (fun W (h : K W) => (refTerm_any s G.short _ _ hi body.count body _ W (Nat.le_refl _) (by omega) (of_ W h).1.i (T.In.below hbv (of_ W h).1.bel (fun _ h => by omega)) (by have := (of_ W h).1.b.lt; omega) hb2).mono fun e w' ⟨he, hb⟩ => (⟨he, hKn _ _ h hb⟩ : e = Ending.returned (.string ⟨(body.text s).toArray⟩) ∧ K w'))
            have kd : K (wr.alloc (.cells #[.string name, .slice A4 n4 c4, .int .i64 body.kind, .int .i64 body.num, .slice A5 n5 c5] 52)).drew := by
              rw [← hKK]
              exact ⟨hk2.next (Below.refl _ _).drew, hba.drew⟩
            generalize sort.text = tx at *
            generalize body.text s = ty at *
            have hA0 : ¬ 9223372036854775807 < u.length + 4 := by omega
            have hA1 : ¬ 9223372036854775807 < u.length + 4 + name.size := by omega
            have hA2 : ¬ 9223372036854775807 < u.length + 4 + name.size + 3 := by omega
            have hA3 : ¬ 9223372036854775807 < u.length + 4 + name.size + 3 + tx.length := by omega
            have hA4 : ¬ 9223372036854775807 < u.length + 4 + name.size + 3 + tx.length + 3 := by omega
            have hA5 : ¬ 9223372036854775807 < u.length + 4 + name.size + 3 + tx.length + 3 + ty.length := by omega
            have hA6 : ¬ 9223372036854775807 < u.length + 4 + name.size + 3 + tx.length + 3 + ty.length + 1 := by omega
            clear hKK of_ hKn hx hmem hel hts hk2 hba hkr hsu hbv
            go_wp2_with fail
            (refine region_class (C := K) (by kernel_rfl) (by kernel_rfl) kd ?_
             repeat (first
              | go_big_quiet_skip
              | (go_big_quiet_want; go_big_quiet_op; go_big_quiet_on)
              | (go_big_quiet_want
                 go_big_quiet_op
                 apply Exists.intro
                 refine ⟨fun W hW => ?_, ?_⟩
                 first
                 | rfl
                 | exact HTX.out W hW
                 | exact HTM.out W hW
                 | (have hc := HCell.out W hW
                    simp [hc]
                    done)
                 | (have hc := HCell.out W hW
                    simp [hc]
                    rfl)
                 go_big_quiet_on))
             refine wpQuiet_nil ?_
             intro W hW)
            go_wp2_with fail
            go_roundw
            case rel => exact ⟨j + 1, _, by omega, by go_num, str_fun u name tx ty, HT, HSK.out _ hW⟩
            case measure => simp [intOf]; omega
          · have hll : s.funs.take j = s.funs := List.take_of_length_le (by omega)
            rw [hll] at hu
            have HU : Hid (u = s.text) := Lib.hid hu.out
            clear hll hu
            have HBL := Lib.hid hkr.bel
            by_cases hlong : 65536 < u.length
            · have hE : s.putE = 3 := by rw [HE.out, ← HU.out, if_pos hlong]
              have HPE : Hid (s.putE = 3) := Lib.hid hE
              have HPS : Hid (s.puts = []) := Lib.hid (by rw [Sc.puts, if_neg (by rw [hE]; decide)])
              have hd : decide ((65536 : Int) < (u.length : Int)) = true := decide_eq_true (by omega)
              clear hE
              go_wp2_with fail
              go_ret2
              exact ⟨by rw [HPE.out, HPS.out]; rfl, HBL.out⟩
            · have hE : s.putE = 0 := by rw [HE.out, ← HU.out, if_neg hlong]
              have HPE : Hid (s.putE = 0) := Lib.hid hE
              have HPS : Hid (s.puts = u) := Lib.hid (by rw [Sc.puts, if_pos hE, HU.out])
              have hd : decide ((65536 : Int) < (u.length : Int)) = false := decide_eq_false (by omega)
              clear hE
              go_wp2_with fail
              go_ret2
              exact ⟨by rw [HPE.out, HPS.out]; rfl, HBL.out⟩
end Go.Proofs.YthgkgjbjiiedaaaGreatDoor
