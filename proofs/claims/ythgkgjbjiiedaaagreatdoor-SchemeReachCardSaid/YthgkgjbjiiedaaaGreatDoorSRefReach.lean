/-
  The reference's Reach of schemes: calls.
-/
import Derived.Test.YthgkgjbjiiedaaaGreatDoorSReach
import Derived.Test.YthgkgjbjiiedaaaGreatDoorSLawOrder
import Derived.Test.YthgkgjbjiiedaaaGreatDoorGL
namespace Go.Proofs.YthgkgjbjiiedaaaGreatDoor
open Go.RowKit

theorem T.callsL_succ : ∀ (l : List T) (j : Nat) (x : T), l[j]? = some x → T.callsL (l.take (j + 1)) = T.callsL (l.take j) ++ x.callsIn
  | [], j, x, h => by simp at h
  | y :: r, 0, x, h => by
    simp at h
    subst h
    simp [T.callsL]
  | y :: r, j + 1, x, h => by
    simp at h
    simp only [List.take_succ_cons, T.callsL, T.callsL_succ r j x h, List.append_assoc]
set_option maxHeartbeats 400000 in
theorem refCalls_any (K : Nat) : ∀ (t : T) (v : Value) (m : Int) (w : World) (P : Nat → Prop), t.count ≤ K → t.In w P v → Old P w →
    Calls Tryz.prog 51 #[.agg #[.int .i64 t.kind, .int .i64 t.num, v], .int .i64 m] w fun e w' => e = .returned (.bool (decide (m ∈ t.callsIn))) ∧ Below w.heap.size w w' := by
  induction K with
  | zero => intro t; have := t.count_pos; omega
  | succ K ih =>
    intro t v m w P hK hin hold
    obtain ⟨kd, nm, l⟩ := t
    simp only [T.In] at hin
    obtain ⟨A, _, c, us, rfl, rfl, hnc, hc, hrd, hrow⟩ := hin
    simp only [T.kind, T.num]
    have hw1 : Below w.heap.size w (w.alloc (.cells #[.int .i64 kd, .int .i64 nm, .slice A l.length c] 50)) := (Below.refl _ _).alloc (Nat.le_refl _) _
    by_cases hh : kd = 1 ∧ nm = m
    · obtain ⟨rfl, rfl⟩ := hh
      have HF : Hid (decide (nm ∈ (T.mk 1 nm l).callsIn) = true) := Lib.hid (by simp [T.callsIn])
      have HB := Lib.hid hw1
      clear hrd hrow
      go_enter Tryz.func51, Tryz.ntmps51
      go_wp2_with fail
      go_ret
      exact ⟨ret_bool HF.out.symm, HB.out⟩
    · have hnot : m ∉ (if kd = 1 then [nm] else [] : List Int) := by
        intro h
        by_cases hk : kd = 1
        · rw [if_pos hk, List.mem_singleton] at h
          exact hh ⟨hk, h.symm⟩
        · rw [if_neg hk] at h
          cases h
      have HNOT := Lib.hid hnot
      have hor : ((kd == 1) = true ∧ (nm == m) = false) ∨ (kd == 1) = false := by
        by_cases hk : kd = 1
        · exact .inl ⟨by simpa using hk, by simpa using fun e => hh ⟨hk, e⟩⟩
        · exact .inr (by simpa using hk)
      clear hh hnot
      rcases hor with ⟨g1, g2⟩ | g1
      all_goals
        go_enter Tryz.func51, Tryz.ntmps51
        go_wp2_with fail
        go_loopw [19] (fun i wr => ∃ k : Nat, k ≤ l.length ∧ i = .int .i64 k ∧ Hid (m ∉ T.callsL (l.take k)) ∧ Blk wr w.heap.size 50 #[.int .i64 kd, .int .i64 nm, .slice A l.length c] ∧ Below w.heap.size w wr) (fun i _ => l.length - (Go.RowKit.intOf i).toNat)
        case atStart => exact ⟨0, Nat.zero_le _, rfl, Lib.hid (by simp [T.callsL]), Blk.new _ _ _, hw1⟩
        case round =>
          obtain ⟨k, hk, rfl, hno, hblk, hbel⟩ := hrel
          have hsz := hblk.lt
          have hc0 := hblk.cell 0
          have hc1 := hblk.cell 1
          have hc2 := hblk.cell 2
          by_cases hlt : k < l.length
          · have hx : l[k]? = some l[k] := List.getElem?_eq_getElem hlt
            have hcs := T.callsL_succ l k _ hx
            have hcl := T.count_lt (a := kd) (b := nm) hx
            have hat := fun h => T.callsL_at (m := m) l hx h
            obtain ⟨ad, u, rfl, hP, hel, hinx⟩ := T.In.el hrd hrow hx
            obtain ⟨r0, r1, r2⟩ := hel.keep (hbel.block _ (hold _ hP))
            have hinr := hinx.old hold hbel
            obtain ⟨A2, n2, c2, rfl⟩ := hinx.form
            have bz : Below wr.heap.size wr (wr.alloc (.cells #[.int .i64 l[k].kind, .int .i64 l[k].num, .slice A2 n2 c2] 50)) := (Below.refl _ _).alloc (Nat.le_refl _) _
            have HC := Lib.hid (ih l[k] _ m _ P (by omega) (hinr.old (hold.bel hbel) bz) ((hold.bel hbel).bel bz))
            generalize l[k] = x at *
            cases hb : decide (m ∈ x.callsIn) with
            | true =>
              have HF : Hid (decide (m ∈ (T.mk kd nm l).callsIn) = true) := Lib.hid (by simp [T.callsIn, hat (of_decide_eq_true hb)])
              rw [hb] at HC
              clear hb hx hcs hel hat
              go_wp2_with fail
              refine HC.out.mono ?_
              rintro e w3 ⟨rfl, b3⟩
              go_wp2_with fail
              go_ret
              exact ⟨ret_bool HF.out.symm, hbel.trans ((bz.mono (by omega)).trans (b3.mono (by simp; omega)))⟩
            | false =>
              have HN : Hid (m ∉ T.callsL (l.take (k + 1))) := Lib.hid (by
                rw [hcs, List.mem_append]
                exact fun h => h.elim hno.out (of_decide_eq_false hb))
              rw [hb] at HC
              clear hb hx hcs hel hat
              go_wp2_with fail
              refine HC.out.mono ?_
              rintro e w3 ⟨rfl, b3⟩
              simp only [World.size_alloc] at b3
              go_wp2_with fail
              go_roundw
              case rel => exact ⟨k + 1, by omega, by go_num, HN, hblk.below (bz.trans (b3.mono (by omega))) hsz, hbel.trans ((bz.trans (b3.mono (by omega))).mono (by omega))⟩
              case measure => simp [Go.RowKit.intOf]; omega
          · have h1 : l.take k = l := List.take_of_length_le (by omega)
            rw [h1] at hno
            have HF : Hid (decide (m ∈ (T.mk kd nm l).callsIn) = false) := Lib.hid (by
              rw [decide_eq_false_iff_not, T.callsIn, List.mem_append]
              exact fun h => h.elim HNOT.out hno.out)
            clear h1
            go_wp2_with fail
            go_ret
            exact ⟨ret_bool HF.out.symm, hbel⟩

/-- Block b is a list of bools. -/
def Bls (w : World) (b : Nat) (bs : List Bool) : Prop := Blk w b 4 (bs.map Value.bool).toArray
def isF : Value → Bool
  | .bool false => true
  | _ => false
/-- How many are false. -/
def falsesIn (w : World) (b : Nat) : Nat := match w.heap[b]? with
  | some (.cells cs _ _) => cs.toList.countP isF
  | _ => 0
def fal (bs : List Bool) : Nat := bs.countP fun b => !b
theorem Bls.falses {w : World} {b : Nat} {bs : List Bool} (h : Bls w b bs) : falsesIn w b = fal bs := by
  unfold Bls Blk at h
  unfold falsesIn fal
  rw [h]
  simp only [List.countP_map]
  congr 1
  funext x
  cases x <;> rfl
theorem Bls.cell {w : World} {b : Nat} {bs : List Bool} (h : Bls w b bs) {j : Nat} {x : Bool} (hj : bs[j]? = some x) : w.cell? ⟨b, j, none⟩ = some (.bool x) := by
  rw [Blk.cell h j]
  simp [hj]
theorem bools_set (bs : List Bool) (j : Nat) : ((bs.map Value.bool).toArray).setIfInBounds j (.bool true) = ((bs.set j true).map Value.bool).toArray := by simp [List.map_set]
theorem Bls.set_ {w : World} {b : Nat} {bs : List Bool} (h : Bls w b bs) (j : Nat) : Bls (w.setCell ⟨b, j, none⟩ (.bool true)) b (bs.set j true) := by
  have := Blk.set_ h j (.bool true)
  refine this.eq_ ?_
  simp [List.map_set]
theorem bools_made (n : Nat) : madeCells #[Value.bool false] n = ((List.replicate n false).map Value.bool).toArray := by
  apply Array.ext
  · simp [size_madeCells]
  · intro i h1 h2
    simp [madeCells, Nat.mod_one]
theorem fal_set {bs : List Bool} {j : Nat} (h : bs[j]? = some false) : fal (bs.set j true) < fal bs := by
  induction bs generalizing j with
  | nil => simp at h
  | cons a r ih =>
    cases j with
    | zero => simp at h; subst h; simp [fal]
    | succ j =>
      simp at h
      have := ih h
      simp only [fal, List.set_cons_succ, List.countP_cons] at this ⊢
      omega
theorem bool_info : (Tryz.prog.info? 4).map (fun i => (i.zero, i.size, i.bytes)) = some (some (.bool false), 1, 1) := by kernel_rfl

/-- What is marked is needed. -/
structure Marks (s : Sc) (bs : List Bool) : Prop where
  len : bs.length = s.funs.length
  start : bs[0]? = some true
  sound : ∀ j : Nat, bs[j]? = some true → (j : Int) ∈ s.need
/-- What row i calls is marked, if i is. -/
def Shut1 (s : Sc) (bs : List Bool) (i n : Nat) : Prop := ∀ g, s.funs[i]? = some g → bs[i]? = some true → ∀ j : Nat, j < n → (j : Int) ∈ g.body.callsIn → bs[j]? = some true

theorem marks_all {s : Sc} {bs : List Bool} (h : Marks s bs) (hc : Calls_ok s) (hsh : ∀ i, Shut1 s bs i s.funs.length) : ∀ j, j < s.funs.length → bs[j]? = some (decide ((j : Int) ∈ s.need)) := by
  have hX : ∀ m ∈ s.need, ∃ i : Nat, m = (i : Int) ∧ bs[i]? = some true := by
    refine need_least ⟨0, rfl, h.start⟩ ?_
    rintro m ⟨i, rfl, hi⟩ g hg c hcg
    rw [Int.toNat_natCast] at hg
    obtain ⟨h0, h1⟩ := hc g (List.mem_of_getElem? hg) c hcg
    obtain ⟨j, rfl⟩ := Int.eq_ofNat_of_zero_le h0
    exact ⟨j, rfl, hsh i g hg hi j (by omega) hcg⟩
  intro j hj
  have hx : bs[j]? = some (bs[j]'(by rw [h.len]; exact hj)) := List.getElem?_eq_getElem _
  rw [hx]
  congr 1
  generalize bs[j]'(by rw [h.len]; exact hj) = x at *
  cases x with
  | true => exact (decide_eq_true (h.sound j hx)).symm
  | false =>
    symm
    rw [decide_eq_false_iff_not]
    intro hm
    obtain ⟨i, hi, hb⟩ := hX _ hm
    have e : j = i := by omega
    rw [e, hb] at hx
    cases hx
/-- The needed ones below k. -/
def Sc.upTo (s : Sc) (k : Nat) : List Int := ((List.range k).filter fun i : Nat => decide ((i : Int) ∈ s.need)).map fun i : Nat => (i : Int)
theorem upTo_succ (s : Sc) (k : Nat) : s.upTo (k + 1) = s.upTo k ++ (if (k : Int) ∈ s.need then [(k : Int)] else []) := by
  unfold Sc.upTo
  rw [List.range_succ, List.filter_append, List.map_append]
  by_cases h : (k : Int) ∈ s.need
  · simp [h]
  · simp [h]
theorem upTo_len (s : Sc) (k : Nat) : (s.upTo k).length ≤ k := by
  unfold Sc.upTo
  rw [List.length_map]
  exact Nat.le_trans (List.length_filter_le _ _) (by simp)

set_option maxHeartbeats 3200000 in
set_option maxRecDepth 100000 in
theorem refScReach_any (s : Sc) (v0 v1 : Value) (w : World) (hi : Nat) (hin : ScIn w hi s v0 v1) (hhi : hi ≤ w.heap.size) :
    Calls Tryz.prog 25 #[.agg #[v0, v1]] w fun e w' => ∃ v, e = .returned (.tuple #[v, .int .i64 (schErr s.ok)]) ∧ Zs w.heap.size w' s.reaches v ∧ Below w.heap.size w w' := by
  obtain ⟨i0, hi0, hz0, hz1, hz2⟩ := info_parts int_info
  have HZ1 := Lib.hid hz1
  have HZ2 := Lib.hid hz2
  clear hz1 hz2
  obtain ⟨ib, hib, hzb0, hzb1, hzb2⟩ := info_parts bool_info
  have hmk := fun W (r : Nat) (h4 : r ≤ 64) => run_make (P := Tryz.prog) W 76 4 ib _ Tryz.underlying76 hib hzb0 .i64 .i64 (r : Int) (r : Int) (by omega) (by omega) (by rw [hzb2]; omega) (by omega)
  simp only [hzb1, Int.toNat_natCast, Nat.mul_one] at hmk
  have hmz : (Value.bool false).cells = #[.bool false] := rfl
  rw [hmz] at hmk
  simp only [bools_made] at hmk
  clear hib hzb0 hzb1 hzb2 hmz
  have k0 := ScKept.start hin hhi
  obtain ⟨⟨A0, n0, c0, rfl⟩, ⟨A1, n1, c1, rfl⟩⟩ := hin.form
  have HC := Lib.hid (refScIs_any s _ _ _ hi k0.i (by have := k0.b.lt; have := k0.hi; omega))
  rw [sayOk_ok] at HC
  have d0 := k0.b.cell 0
  have d1 := k0.b.cell 1
  simp at d0 d1
  cases hok : s.ok with
  | false =>
    have HR : Hid (s.reaches = []) := Lib.hid (by simp [Sc.reaches, hok])
    rw [hok] at HC
    clear hok
    go_enter Tryz.func25, Tryz.ntmps25
    go_wp2_with fail
    refine HC.out.mono ?_
    rintro e w1 ⟨rfl, b1⟩
    have k1 := k0.next b1
    go_wp2_with fail
    go_ret2
    exact ⟨_, rfl, by rw [HR.out]; exact Zs.nil _ _, k1.bel⟩
  | true =>
    have G := Sc.good hok
    have HR : Hid (s.reaches = s.reachL) := Lib.hid (by simp [Sc.reaches, hok])
    rw [hok] at HC
    clear hok
    have hN := G.n64
    have hN1 := G.n1
    go_enter Tryz.func25, Tryz.ntmps25
    go_wp2_with fail
    refine HC.out.mono ?_
    rintro e w1 ⟨rfl, b1⟩
    have k1 := k0.next b1
    have hl1 := k1.b.lt
    have e1 := k1.b.cell 1
    simp at e1
    obtain ⟨A, _, c, us, he, hl, hnc, hc, hrd, hrow⟩ := k1.i.fn
    injection he with g1 g2 g3
    subst g1 g2 g3 hl
    obtain ⟨cs, HMK, hB0, hB1⟩ : ∃ cs, (Instr.makeSlice 76 (.int .i64 (s.funs.length : Int)) (.int .i64 (s.funs.length : Int))).run Tryz.prog w1 = .ok (.slice (some ⟨w1.heap.size, 0, none⟩) s.funs.length s.funs.length) (w1.alloc (.cells cs 4)) ∧ Bls (w1.alloc (.cells cs 4)) w1.heap.size (List.replicate s.funs.length false) ∧ Bls (w1.alloc (.cells (cs.setIfInBounds 0 (.bool true)) 4)) w1.heap.size ((List.replicate s.funs.length false).set 0 true) := ⟨_, hmk w1 s.funs.length hN, Blk.new _ _ _, (Blk.new _ _ _).eq_ (bools_set _ _)⟩
    have hrep : (List.replicate s.funs.length false)[0]? = some false := by rw [List.getElem?_replicate, if_pos (by omega)]
    have c00 := hB0.cell hrep
    have hbel1 : Below w1.heap.size w1 (w1.alloc (.cells (cs.setIfInBounds 0 (.bool true)) 4)) := (Below.refl _ _).alloc (Nat.le_refl _) _
    have hM0 : Marks s ((List.replicate s.funs.length false).set 0 true) := by
      refine ⟨by simp, by rw [List.getElem?_set_self (by rw [List.length_replicate]; omega)], fun j hj => ?_⟩
      by_cases h0 : j = 0
      · subst h0
        exact (need_start G.calls hN1).1
      · rw [List.getElem?_set_ne (by omega)] at hj
        have := List.mem_of_getElem? hj
        have := List.eq_of_mem_replicate this
        cases this
    have K1 := Lib.hid k1
    clear k0 b1 HC d0 d1 k1 hmk hrep hB0
    generalize ((List.replicate s.funs.length false).set 0 true) = bs1 at *
    go_wp2_with fail
    generalize hnb : w1.heap.size = nb at *
    go_loopw [5] (fun m wr => ∃ (b : Bool) (bs : List Bool), m = .bool b ∧ Bls wr nb bs ∧ Marks s bs ∧ (b = false → ∀ i, Shut1 s bs i s.funs.length) ∧ Below nb w1 wr) (fun m wr => 2 * falsesIn wr nb + (match m with | .bool true => 1 | _ => 0))
    case atStart => exact ⟨true, bs1, rfl, hB1, hM0, fun h => (by cases h), hbel1⟩
    case round =>
      obtain ⟨b, bs, rfl, hbs, hmk, hsh, hbel⟩ := hrel
      have hzr := hbel.size
      have e1r := (K1.out.b.below hbel (by omega)).cell 1
      simp at e1r
      cases b with
      | true =>
        have HBS := Lib.hid hbs
        have HMA := Lib.hid hmk
        clear hsh e1 c00 HMK hmk hbs
        go_wp2_with fail
        go_loopw [25, 5] (fun i m wr2 => ∃ (k : Nat) (b : Bool) (bs2 : List Bool), k ≤ s.funs.length ∧ i = .int .i64 k ∧ m = .bool b ∧ Bls wr2 nb bs2 ∧ Marks s bs2 ∧ (b = true → fal bs2 < fal bs) ∧ (b = false → bs2 = bs ∧ ∀ i, i < k → Shut1 s bs i s.funs.length) ∧ Below nb w1 wr2) (fun i _ _ => s.funs.length - (Go.RowKit.intOf i).toNat)
        case atStart => exact ⟨0, false, bs, Nat.zero_le _, rfl, rfl, HBS.out, HMA.out, fun h => (by cases h), fun _ => ⟨rfl, fun i h => absurd h (by omega)⟩, hbel⟩
        case round =>
          obtain ⟨k, b, bs2, hk, rfl, rfl, hbs2, hmk2, hlt2, hsh2, hbel2⟩ := hrel
          have hzr2 := hbel2.size
          have hnl2 := Blk.lt hbs2
          have e1r2 := (K1.out.b.below hbel2 (by omega)).cell 1
          simp at e1r2
          by_cases hlt : k < s.funs.length
          · have hx : s.funs[k]? = some s.funs[k] := List.getElem?_eq_getElem hlt
            obtain ⟨ad, u, v, rfl, hPa, hel, hsu, hbv, hsx⟩ := fn_el hrd hrow hx
            have hhi1 := K1.out.hi
            obtain ⟨r0, r1, r2, r3, r4⟩ := hel.keep (hbel2.block _ (by omega))
            obtain ⟨A2, n2, c2, rfl⟩ := hsu.form
            obtain ⟨A3, n3, c3, rfl⟩ := hbv.form
            have hgt : ∀ g, s.funs[k]? = some g → g = s.funs[k] := fun g hg => by rw [hx] at hg; exact (Option.some.inj hg).symm
            have hnd := (need_start G.calls hN1).2 (k : Int)
            rw [Int.toNat_natCast] at hnd
            have hnd1 := fun h => hnd h _ hx
            have hcnt := (G.body (List.getElem_mem hlt)).1
            generalize s.funs[k] = x at *
            obtain ⟨name, sort, body⟩ := x
            simp only at r0 r1 r2 r3 r4 hgt hbv hsu hnd1 hcnt
            have bz : Below wr.heap.size wr (wr.alloc (.cells #[.string name, .slice A2 n2 c2, .int .i64 body.kind, .int .i64 body.num, .slice A3 n3 c3] 52)) := (Below.refl _ _).alloc (Nat.le_refl _) _
            have hba := Blk.new wr 52 #[.string name, .slice A2 n2 c2, .int .i64 body.kind, .int .i64 body.num, .slice A3 n3 c3]
            have hbs2' : Bls (wr.alloc (.cells #[.string name, .slice A2 n2 c2, .int .i64 body.kind, .int .i64 body.num, .slice A3 n3 c3] 52)) nb bs2 := Blk.below hbs2 bz (Blk.lt hbs2)
            have e1f := ((K1.out.b.below hbel2 (by omega)).below bz (by omega)).cell 1
            simp at e1f
            have HBS2 := Lib.hid hbs2'
            have HMA2 := Lib.hid hmk2
            have HLT2 := Lib.hid hlt2
            have HSH2 := Lib.hid hsh2
            have HGT := Lib.hid hgt
            have HND := Lib.hid hnd1
            have hba0 := Lib.hid hba
            have HBV := Lib.hid hbv
            clear hx hel hsu hbs2 hbs2' hmk2 hlt2 hsh2 hgt hnd hnd1 hba hbv
            go_wp2_with fail
            go_loopw [33, 5] (fun j m wr3 => ∃ (q : Nat) (b : Bool) (bs3 : List Bool), q ≤ s.funs.length ∧ j = .int .i64 q ∧ m = .bool b ∧ Bls wr3 nb bs3 ∧ Marks s bs3 ∧ (b = true → fal bs3 < fal bs) ∧ (b = false → bs3 = bs ∧ (∀ i, i < k → Shut1 s bs i s.funs.length) ∧ Shut1 s bs k q) ∧
              Blk wr3 wr.heap.size 52 #[.string name, .slice A2 n2 c2, .int .i64 body.kind, .int .i64 body.num, .slice A3 n3 c3] ∧ Below nb w1 wr3) (fun j _ _ => s.funs.length - (Go.RowKit.intOf j).toNat)
            case atStart => exact ⟨0, b, bs2, Nat.zero_le _, rfl, rfl, HBS2.out, HMA2.out, HLT2.out, fun h => ⟨(HSH2.out h).1, (HSH2.out h).2, fun g _ _ j hj => absurd hj (by omega)⟩, hba0.out, hbel2.trans (bz.mono (by omega))⟩
            case round =>
              obtain ⟨q, b3, bs3, hq, rfl, rfl, hbs3, hmk3, hlt3, hsh3, hbf, hbel3⟩ := hrel
              have hzr3 := hbel3.size
              have hnl := Blk.lt hbs3
              by_cases hlq : q < s.funs.length
              · have p2 := hbf.cell 2
                have p3 := hbf.cell 3
                have p4 := hbf.cell 4
                simp at p2 p3 p4
                obtain ⟨xb, hxb⟩ : ∃ xb, bs3[k]? = some xb := ⟨_, List.getElem?_eq_getElem (by rw [hmk3.len]; exact hlt)⟩
                obtain ⟨yb, hyb⟩ : ∃ yb, bs3[q]? = some yb := ⟨_, List.getElem?_eq_getElem (by rw [hmk3.len]; exact hlq)⟩
                have q0 := hbs3.cell hxb
                have q1 := hbs3.cell hyb
                have HC := Lib.hid (refCalls_any body.count body (.slice A3 n3 c3) (q : Int) wr (fun b => b < hi) (Nat.le_refl _) (HBV.out.below hbel3 (fun b hb => by omega)) (fun b hb => by omega))
                have HB3 := Lib.hid hbs3
                have HM3 := Lib.hid hmk3
                have HL3 := Lib.hid hlt3
                have HS3 := Lib.hid hsh3
                have HXB := Lib.hid hxb
                have HYB := Lib.hid hyb
                have HBF := Lib.hid hbf
                clear hbs3 hmk3 hlt3 hsh3 hxb hyb hbf
                cases xb with
                | false =>
                  go_wp2_with fail
                  go_roundw
                  case rel => exact ⟨q + 1, b3, bs3, by omega, by go_num, rfl, HB3.out, HM3.out, HL3.out, fun h => ⟨(HS3.out h).1, (HS3.out h).2.1, fun g hg hb => by rw [← (HS3.out h).1, HXB.out] at hb; cases hb⟩, HBF.out, hbel3⟩
                  case measure => simp [Go.RowKit.intOf]; omega
                | true =>
                  cases yb with
                  | true =>
                    go_wp2_with fail
                    go_roundw
                    case rel =>
                      exact ⟨q + 1, b3, bs3, by omega, by go_num, rfl, HB3.out, HM3.out, HL3.out, fun h => ⟨(HS3.out h).1, (HS3.out h).2.1, fun g hg hb j hj hc => by
                        by_cases hjq : j < q
                        · exact (HS3.out h).2.2 g hg hb j hjq hc
                        · have e : j = q := by omega
                          rw [e, ← (HS3.out h).1]
                          exact HYB.out⟩, HBF.out, hbel3⟩
                    case measure => simp [Go.RowKit.intOf]; omega
                  | false =>
                    cases hcl : decide ((q : Int) ∈ body.callsIn) with
                    | false =>
                      have HNO := Lib.hid (of_decide_eq_false hcl)
                      rw [hcl] at HC
                      clear hcl
                      go_wp2_with fail
                      refine HC.out.mono ?_
                      rintro e w4 ⟨rfl, b4⟩
                      go_wp2_with fail
                      go_roundw
                      case rel =>
                        exact ⟨q + 1, b3, bs3, by omega, by go_num, rfl, Blk.below HB3.out b4 hnl, HM3.out, HL3.out, fun h => ⟨(HS3.out h).1, (HS3.out h).2.1, fun g hg hb j hj hc => by
                          by_cases hjq : j < q
                          · exact (HS3.out h).2.2 g hg hb j hjq hc
                          · have e : j = q := by omega
                            rw [e, HGT.out g hg] at hc
                            exact absurd hc HNO.out⟩, HBF.out.below b4 HBF.out.lt, hbel3.trans (b4.mono (by omega))⟩
                      case measure => simp [Go.RowKit.intOf]; omega
                    | true =>
                      have HYES := Lib.hid (of_decide_eq_true hcl)
                      rw [hcl] at HC
                      clear hcl
                      go_wp2_with fail
                      refine HC.out.mono ?_
                      rintro e w4 ⟨rfl, b4⟩
                      have hb4 : Bls w4 nb bs3 := Blk.below HB3.out b4 hnl
                      have q4 := hb4.cell HYB.out
                      have f4 := Blk.frozen hb4 q
                      have HB4 := Lib.hid (hb4.set_ q)
                      have HBF4 := Lib.hid ((HBF.out.below b4 HBF.out.lt).far (p := ⟨nb, q, none⟩) (by simp; omega) (.bool true))
                      have HBEL4 := Lib.hid ((hbel3.trans (b4.mono (by omega))).setCell (p := ⟨nb, q, none⟩) (Nat.le_refl _) (.bool true))
                      clear hb4
                      go_wp2_with fail
                      go_roundw
                      case rel =>
                        refine ⟨q + 1, true, bs3.set q true, by omega, by go_num, rfl, HB4.out, ⟨by rw [List.length_set]; exact HM3.out.len, ?_, fun j hj => ?_⟩, fun _ => ?_, fun h => (by cases h), HBF4.out, HBEL4.out⟩
                        · by_cases h0 : 0 = q
                          · rw [← h0, List.getElem?_set_self (by rw [HM3.out.len]; omega)]
                          · rw [List.getElem?_set_ne (fun e => h0 e.symm)]; exact HM3.out.start
                        · by_cases hj0 : q = j
                          · subst hj0
                            exact HND.out (HM3.out.sound _ HXB.out) _ HYES.out
                          · rw [List.getElem?_set_ne hj0] at hj
                            exact HM3.out.sound _ hj
                        · have h1 := fal_set HYB.out
                          cases b3 with
                          | true => have := HL3.out rfl; omega
                          | false => rw [← (HS3.out rfl).1]; exact h1
                      case measure => simp [Go.RowKit.intOf]; omega
              · have hqe : q = s.funs.length := by omega
                subst hqe
                have HB3 := Lib.hid hbs3
                have HM3 := Lib.hid hmk3
                have HL3 := Lib.hid hlt3
                have HS3 := Lib.hid hsh3
                clear hbs3 hmk3 hlt3 hsh3 hbf
                go_wp2_with fail
                go_roundw
                case rel =>
                  exact ⟨k + 1, b3, bs3, by omega, by go_num, rfl, HB3.out, HM3.out, HL3.out, fun h => ⟨(HS3.out h).1, fun i hi => by
                    by_cases hik : i < k
                    · exact (HS3.out h).2.1 i hik
                    · have e : i = k := by omega
                      rw [e]
                      exact (HS3.out h).2.2⟩, hbel3⟩
                case measure => simp [Go.RowKit.intOf]; omega
          · have hke : k = s.funs.length := by omega
            subst hke
            have HB2 := Lib.hid hbs2
            have HM2 := Lib.hid hmk2
            have HL2 := Lib.hid hlt2
            have HS2 := Lib.hid hsh2
            clear hbs2 hmk2 hlt2 hsh2
            go_wp2_with fail
            go_roundw
            case rel =>
              refine ⟨b, bs2, rfl, HB2.out, HM2.out, fun h i => ?_, hbel2⟩
              by_cases hik : i < s.funs.length
              · rw [(HS2.out h).1]
                exact (HS2.out h).2 i hik
              · intro g hg
                rw [List.getElem?_eq_none (by omega)] at hg
                cases hg
            case measure =>
              rw [HB2.out.falses, HBS.out.falses]
              cases b with
              | true => have := HL2.out rfl; simp; omega
              | false => rw [(HS2.out rfl).1]; simp
      | false =>
        have hall := marks_all hmk G.calls (hsh rfl)
        have HALL := Lib.hid hall
        have hnl := Blk.lt hbs
        have HLEN := Lib.hid hmk.len
        have HBS := Lib.hid hbs
        clear hsh e1 c00 HMK hmk hbs hall
        go_wp2_with fail
        go_loopw [60, 9] (fun i v wr3 => ∃ (k : Nat), k ≤ s.funs.length ∧ i = .int .i64 k ∧ Zs (nb + 1) wr3 (s.upTo k) v ∧ Below (nb + 1) wr wr3) (fun i _ _ => s.funs.length - (Go.RowKit.intOf i).toNat)
        case atStart => exact ⟨0, Nat.zero_le _, rfl, by simpa [Sc.upTo] using Zs.nil _ _, Below.refl _ _⟩
        case round =>
          obtain ⟨k, hk, rfl, hzs, hbel3⟩ := hrel
          have hzr3 := hbel3.size
          obtain ⟨A2, c2, rfl, hlc2, hc2⟩ := hzs.form
          by_cases hlt : k < s.funs.length
          · have hlk := upTo_len s k
            have hts := upTo_succ s k
            have hat := HALL.out k hlt
            have r0 := Bls.cell (Blk.below HBS.out hbel3 (by omega)) hat
            have hvb : ∀ b, (Value.slice A2 (s.upTo k).length c2).ownBlock = some b → nb + 1 ≤ b := fun b hb => (hzs.lt hb).1
            have hown : wr.ownsRow (nb + 1) 3 1 (.slice A2 (s.upTo k).length c2) (s.upTo k).length ((s.upTo k).map (Value.int .i64)) := hzs
            generalize s.upTo k = rl at *
            by_cases hnd : (k : Int) ∈ s.need
            · rw [if_pos hnd] at hts
              rw [decide_eq_true hnd] at r0
              have HTS := Lib.hid hts
              clear hts hzs hat hnd
              generalize hrl : rl.length = rn at *
              have HRL := Lib.hid hrl
              clear hrl
              go_wp2_with
                (at_builtin
                 refine wpList_append_lies _ rfl _ _ _ rfl (nb + 1) 3 i0 _ 1 8 Tryz.underlying33 hi0 hz0 HZ1.out HZ2.out rfl (by omega) (.slice A2 rn c2) rn _ (by rfl) (hown.alloc _)
                   ⟨wr.heap.size, 0, none⟩ 1 1 [.int .i64 (k : Int)] (by rfl) (by rfl) (World.news_of_block (cs := #[.int .i64 (k : Int)]) (t := 3) (fr := (0, 0)) (heap_alloc_new wr _)) (by simp [Value.oneCell']) (by omega) (by simp only [maxLen]; omega) (by omega) (by simp; omega) (wr.heap.size + 1) (by simp) ?_
                 intro gg cap2 w3 hown3 hgrow hat3 hlt3)
              go_roundw
              case rel =>
                refine ⟨k + 1, by omega, by go_num, ?_, ?_⟩
                · show World.ownsRow _ _ _ _ _ _ _
                  rw [HTS.out, List.length_append, HRL.out, List.map_append]
                  exact hown3
                · exact (hbel3.alloc (by omega) _).grown hgrow (by simp; omega) (fun b hb => by have := hvb b hb; omega)
              case measure => simp [Go.RowKit.intOf]; omega
            · rw [if_neg hnd, List.append_nil] at hts
              rw [decide_eq_false hnd] at r0
              have HTS := Lib.hid hts
              have HZS := Lib.hid hzs
              clear hts hzs hat hnd hown
              go_wp2_with fail
              go_roundw
              case rel =>
                exact ⟨k + 1, by omega, by go_num, by rw [HTS.out]; exact HZS.out, hbel3⟩
              case measure => simp [Go.RowKit.intOf]; omega
          · have hke : k = s.funs.length := by omega
            subst hke
            have hfin : Zs w.heap.size wr s.reaches (.slice A2 (s.upTo s.funs.length).length c2) := by rw [HR.out]; exact hzs.less (by omega)
            have HF := Lib.hid hfin
            clear hzs hfin
            go_wp2_with fail
            go_ret2
            exact ⟨_, rfl, HF.out, K1.out.bel.trans ((hbel.mono (by omega)).trans (hbel3.mono (by omega)))⟩
end Go.Proofs.YthgkgjbjiiedaaaGreatDoor
