/-
  The reference's reading of schemes: index and parseHead.
-/
import Derived.Test.YtbbejhhohppdhaaGreatDoorSRefNum
import Derived.Test.YtbbejhhohppdhaaGreatDoorGL
namespace Go.Proofs.YtbbejhhohppdhaaGreatDoor
open Go.RowKit

def numI : Option Nat → Int
  | some n => (n : Int)
  | none => -1
theorem firstAt_none : ∀ {l : List (List UInt8)} {i : Nat} {k : List UInt8}, (∀ x ∈ l, x ≠ k) → firstAt i l k = none
  | [], _, _, _ => rfl
  | x :: r, i, k, h => by
    rw [firstAt, if_neg (fun e => h x (by simp) e.symm)]
    exact firstAt_none (fun y hy => h y (by simp [hy]))
theorem firstAt_hit : ∀ {l : List (List UInt8)} {i j : Nat} {k : List UInt8}, l[j]? = some k → (∀ m x, m < j → l[m]? = some x → x ≠ k) → firstAt i l k = some (i + j)
  | [], _, _, _, h, _ => by simp at h
  | x :: r, i, 0, k, h, _ => by
    simp at h
    rw [firstAt, if_pos h.symm]; rfl
  | x :: r, i, j + 1, k, h, hb => by
    rw [firstAt, if_neg (fun e => hb 0 x (by omega) rfl e.symm), firstAt_hit (i := i + 1) (j := j) (by simpa using h) (fun m y hm hy => hb (m + 1) y (by omega) (by simpa using hy))]
    congr 1; omega
theorem index_end {l : List (List UInt8)} {n : Nat} {k : List UInt8} (hn : l.length = n) (h : ∀ m x, m < n → l[m]? = some x → x ≠ k) : firstAt 0 l k = none :=
  firstAt_none (fun x hx => by
    obtain ⟨m, hm⟩ := List.getElem?_of_mem hx
    exact h m x (by have := (List.getElem?_eq_some_iff.1 hm).1; omega) hm)

set_option maxRecDepth 100000 in
set_option maxHeartbeats 1600000 in
theorem index3_any (s : Sc) (v0 v1 : Value) (sy : Bool) (q : List UInt8) (w : World) (hi : Nat) (hin : ScIn w hi s v0 v1) (hhi : hi ≤ w.heap.size) (hq : q.length ≤ 65536) :
    Calls Tryz.prog 120 #[.agg #[v0, v1], .bool sy, .string ⟨q.toArray⟩] w fun e w' =>
      e = .returned (.int .i64 (numI (firstAt 0 (if sy = true then s.syms.map nm else s.funs.map fnm) q))) ∧ Below w.heap.size w w' := by
  have k0 := ScKept.start hin hhi
  obtain ⟨A0, _, c0, rfl, rfl, hnc0, hc0, hrd0, hsz0⟩ := hin.sy
  obtain ⟨A, _, c, us0, rfl, rfl, hnc, hc, hrd, hrow⟩ := hin.fn
  have hsq : (⟨q.toArray⟩ : ByteArray).size = q.length := rfl
  have d0 := k0.b.cell 0
  have d1 := k0.b.cell 1
  simp at d0 d1
  have K0 := Lib.hid k0
  cases sy with
  | true =>
    simp only [if_true]
    go_enter Tryz.func120, Tryz.ntmps120
    go_wp2_with fail
    go_loopw [7] (fun i wr => ∃ k, k ≤ s.syms.length ∧ i = .int .i64 k ∧ (∀ m x, m < k → (s.syms.map nm)[m]? = some x → x ≠ q) ∧ ScKept s (.slice A0 s.syms.length c0) (.slice A s.funs.length c) hi w.heap.size w wr) (fun i _ => s.syms.length - (intOf i).toNat)
    case atStart => exact ⟨0, Nat.zero_le _, rfl, fun m x h => by omega, K0.out⟩
    case round =>
      obtain ⟨k, hk, rfl, hdf, kr⟩ := hrel
      have e0 := kr.b.cell 0
      have e1 := kr.b.cell 1
      simp at e0 e1
      by_cases hlt : k < s.syms.length
      · have hx : s.syms[k]? = some s.syms[k] := List.getElem?_eq_getElem hlt
        obtain ⟨ad, rfl, hPa, hel⟩ := sy_el hrd0 hx
        have r0 := (hel.keep (kr.bel.block _ (by omega))).1
        have hlt' : ((k : Nat) : Int) < (s.syms.length : Int) := by omega
        have hge : (0 : Int) ≤ ((k : Nat) : Int) := by omega
        have hxm : (s.syms.map nm)[k]? = some (nm s.syms[k]) := by rw [List.getElem?_map, hx]; rfl
        generalize s.syms[k] = x at *
        by_cases hne : nm x = q
        · have HF : Hid (firstAt 0 (s.syms.map nm) q = some k) := Lib.hid (by
            have := firstAt_hit (i := 0) (j := k) (k := q) (by rw [hxm, hne]) hdf
            rwa [Nat.zero_add] at this)
          have hnb : (x.name.toList == q) = true := by
            rw [ByteArray.toList_eq, beq_iff_eq]
            exact hne
          have KR := Lib.hid kr
          clear hx hel hxm hdf hne kr
          go_wp2_with fail
          go_ret
          exact ⟨by rw [HF.out] <;> rfl, KR.out.bel⟩
        · have hnb : (x.name.toList == q) = false := beq_false_of_ne (fun e => hne (by rw [ByteArray.toList_eq] at e; exact e))
          have HD : Hid (∀ m y, m < k + 1 → (s.syms.map nm)[m]? = some y → y ≠ q) := Lib.hid (fun m y hm hy => by
            rcases Nat.lt_or_ge m k with h | h
            · exact hdf m y h hy
            · have : m = k := by omega
              subst this
              rw [hxm] at hy
              cases hy
              exact hne)
          have KR := Lib.hid kr
          clear hx hel hxm hdf hne kr
          go_wp2_with fail
          go_roundw
          case rel => exact ⟨k + 1, by omega, by go_num, HD.out, KR.out⟩
          case measure => simp [intOf]; omega
      · have hkl : k = s.syms.length := by omega
        have HF : Hid (firstAt 0 (s.syms.map nm) q = none) := Lib.hid (index_end (n := k) (by simp; omega) hdf)
        have hge : ¬ ((k : Nat) : Int) < (s.syms.length : Int) := by omega
        have KR := Lib.hid kr
        clear hdf kr hkl
        go_wp2_with fail
        go_loopw [8] (fun i wr => i = .int .i64 0 ∧ ScKept s (.slice A0 s.syms.length c0) (.slice A s.funs.length c) hi w.heap.size w wr) (fun _ _ => 0)
        case atStart => exact ⟨rfl, KR.out⟩
        case round =>
          obtain ⟨rfl, kr2⟩ := hrel
          go_wp2_with fail
          go_ret
          exact ⟨by rw [HF.out] <;> rfl, kr2.bel⟩
  | false =>
    simp only [Bool.false_eq_true, if_false]
    go_enter Tryz.func120, Tryz.ntmps120
    go_wp2_with fail
    go_loopw [7] (fun i wr => i = .int .i64 0 ∧ ScKept s (.slice A0 s.syms.length c0) (.slice A s.funs.length c) hi w.heap.size w wr) (fun _ _ => 0)
    case atStart => exact ⟨rfl, K0.out⟩
    case round =>
      obtain ⟨rfl, kr2⟩ := hrel
      have K2 := Lib.hid kr2
      clear kr2
      go_wp2_with fail
      go_loopw [8] (fun i wr => ∃ k, k ≤ s.funs.length ∧ i = .int .i64 k ∧ (∀ m x, m < k → (s.funs.map fnm)[m]? = some x → x ≠ q) ∧ ScKept s (.slice A0 s.syms.length c0) (.slice A s.funs.length c) hi w.heap.size w wr) (fun i _ => s.funs.length - (intOf i).toNat)
      case atStart => exact ⟨0, Nat.zero_le _, rfl, fun m x h => by omega, K2.out⟩
      case round =>
        obtain ⟨k, hk, rfl, hdf, kr⟩ := hrel
        have e0 := kr.b.cell 0
        have e1 := kr.b.cell 1
        simp at e0 e1
        by_cases hlt : k < s.funs.length
        · have hx : s.funs[k]? = some s.funs[k] := List.getElem?_eq_getElem hlt
          obtain ⟨ad, u, v, rfl, hPa, hel, hsu, hbv, hsx⟩ := fn_el hrd hrow hx
          have r0 := (hel.keep (kr.bel.block _ (by omega))).c0
          have hlt' : ((k : Nat) : Int) < (s.funs.length : Int) := by omega
          have hge : (0 : Int) ≤ ((k : Nat) : Int) := by omega
          have hxm : (s.funs.map fnm)[k]? = some (fnm s.funs[k]) := by rw [List.getElem?_map, hx]; rfl
          generalize s.funs[k] = x at *
          by_cases hne : fnm x = q
          · have HF : Hid (firstAt 0 (s.funs.map fnm) q = some k) := Lib.hid (by
              have := firstAt_hit (i := 0) (j := k) (k := q) (by rw [hxm, hne]) hdf
              rwa [Nat.zero_add] at this)
            have hnb : (x.name.toList == q) = true := by
              rw [ByteArray.toList_eq, beq_iff_eq]
              exact hne
            have KR := Lib.hid kr
            clear hx hel hxm hdf hne kr hsu hbv
            go_wp2_with fail
            go_ret
            exact ⟨by rw [HF.out] <;> rfl, KR.out.bel⟩
          · have hnb : (x.name.toList == q) = false := beq_false_of_ne (fun e => hne (by rw [ByteArray.toList_eq] at e; exact e))
            have HD : Hid (∀ m y, m < k + 1 → (s.funs.map fnm)[m]? = some y → y ≠ q) := Lib.hid (fun m y hm hy => by
              rcases Nat.lt_or_ge m k with h | h
              · exact hdf m y h hy
              · have : m = k := by omega
                subst this
                rw [hxm] at hy
                cases hy
                exact hne)
            have KR := Lib.hid kr
            clear hx hel hxm hdf hne kr hsu hbv
            go_wp2_with fail
            go_roundw
            case rel => exact ⟨k + 1, by omega, by go_num, HD.out, KR.out⟩
            case measure => simp [intOf]; omega
        · have hkl : k = s.funs.length := by omega
          have HF : Hid (firstAt 0 (s.funs.map fnm) q = none) := Lib.hid (index_end (n := k) (by simp; omega) hdf)
          have hge : ¬ ((k : Nat) : Int) < (s.funs.length : Int) := by omega
          have KR := Lib.hid kr
          clear hdf kr hkl
          go_wp2_with fail
          go_ret
          exact ⟨by rw [HF.out] <;> rfl, KR.out.bel⟩

theorem bytes_sub (t : List UInt8) (a b : Nat) : (⟨t.toArray⟩ : ByteArray).extract a b = ⟨((t.drop a).take (b - a)).toArray⟩ := by
  apply ByteArray.ext
  simp [ByteArray.data_extract, List.extract_eq_take_drop]
theorem strip_drop {p t r : List UInt8} {a : Nat} (hp : 1 ≤ p.length) (h : strip p (t.drop a) = some r) : t.drop (a + p.length) = r ∧ a + p.length ≤ t.length := by
  have h1 := strip_eq h
  have h2 := strip_len h
  rw [List.length_drop] at h2
  refine ⟨?_, by omega⟩
  rw [← List.drop_drop, h1, List.drop_left' rfl]
theorem numK_names {f : List UInt8 → Option Nat} (hf : ∀ k n, f k = some n → nameB k = true) (t : List UInt8) : numK f t = (f (t.takeWhile signB)).map fun n => (n, t.dropWhile signB) := by
  unfold numK nameP
  by_cases h : nameB (t.takeWhile signB) = true
  · rw [if_pos h]
    cases hx : f (t.takeWhile signB) <;> simp [hx]
  · rw [if_neg h]
    cases hx : f (t.takeWhile signB) with
    | none => rfl
    | some n => exact absurd (hf _ _ hx) h
/-- All names of a scheme are names. -/
def Sc.named (s : Sc) : Prop := (∀ x ∈ s.syms, nameB (nm x) = true) ∧ ∀ x ∈ s.funs, nameB (fnm x) = true
theorem firstAt_name {l : List (List UInt8)} (hl : ∀ x ∈ l, nameB x = true) {k : List UInt8} {n : Nat} (h : firstAt 0 l k = some n) : nameB k = true :=
  hl k (List.mem_of_getElem? (firstAt_at h).2)
theorem Sc.named.syms {s : Sc} (h : s.named) : ∀ k n, firstAt 0 (s.syms.map nm) k = some n → nameB k = true := fun _ _ e => firstAt_name (fun x hx => by
  obtain ⟨y, hy, rfl⟩ := List.mem_map.1 hx
  exact h.1 y hy) e
theorem Sc.named.funs {s : Sc} (h : s.named) : ∀ k n, firstAt 0 (s.funs.map fnm) k = some n → nameB k = true := fun _ _ e => firstAt_name (fun x hx => by
  obtain ⟨y, hy, rfl⟩ := List.mem_map.1 hx
  exact h.2 y hy) e

/-- What parseHead leaves. -/
def HeadPost3 (s : Sc) (t : List UInt8) (a : Nat) (w : World) (e : Ending) (w' : World) : Prop :=
  ∃ (k n : Int) (nx : Nat) (ok : Bool), e = .returned (.tuple #[.agg #[.int .i64 k, .int .i64 n, .slice none 0 0], .int .i64 (nx : Int), .bool ok]) ∧ nx ≤ t.length ∧
    (match headP (firstAt 0 (s.syms.map nm)) (firstAt 0 (s.funs.map fnm)) (t.drop a) with | some (h, r) => ok = true ∧ h = (k, n) ∧ t.drop nx = r | none => ok = false) ∧ Below w.heap.size w w'
theorem head3_results {tmps : Array Value} {w : World} {b : Nat} {x y z u v : Value} (h2 : tmps.getD 6 undef = .pointer (some ⟨b, 0, none⟩)) (h3 : tmps.getD 7 undef = u) (h4 : tmps.getD 8 undef = v)
    (ha : Blk w b 34 #[x, y, z]) : (results Tryz.f76 tmps).run Tryz.prog w = .ok (.tuple #[.agg #[x, y, z], u, v]) w := by
  have h5 := ha.cell 0
  have h6 := ha.cell 1
  have h7 := ha.cell 2
  simp at h5 h6 h7
  have h2' : tmps[6]?.getD undef = .pointer (some ⟨b, 0, none⟩) := by simpa using h2
  have h3' : tmps[7]?.getD undef = u := by simpa using h3
  have h4' : tmps[8]?.getD undef = v := by simpa using h4
  simp [results, Tryz.results76, go_sem, h2', h3', h4', h5, h6, h7]

theorem headP_var {f g : List UInt8 → Option Nat} {t r : List UInt8} (h : strip [36] t = some r) : headP f g t = match numP r with | some (n, q) => some ((0, (n : Int)), q) | none => none := by
  simp only [headP, h]
  cases numP r <;> rfl
theorem headP_sym {f g : List UInt8 → Option Nat} {t r : List UInt8} (h : strip [36] t = none) (h2 : strip [35] t = some r) : headP f g t = match numK f r with | some (n, q) => some ((2, (n : Int)), q) | none => none := by
  simp only [headP, h, h2]
  cases numK f r <;> rfl
theorem headP_fun {f g : List UInt8 → Option Nat} {t : List UInt8} (h : strip [36] t = none) (h2 : strip [35] t = none) : headP f g t = match numK g t with | some (n, q) => some ((1, (n : Int)), q) | none => none := by
  simp only [headP, h, h2]
  cases numK g t <;> rfl
theorem numI_ge (o : Option Nat) : decide ((0 : Int) ≤ numI o) = o.isSome := by
  cases o with
  | none => rfl
  | some n => simp [numI]

set_option maxRecDepth 100000 in
set_option maxHeartbeats 3200000 in
theorem parseHead3_any (s : Sc) (v0 v1 : Value) (t : List UInt8) (a : Nat) (w : World) (hi : Nat) (hin : ScIn w hi s v0 v1) (hhi : hi ≤ w.heap.size) (hnm : s.named) (ha : a ≤ t.length) (ht : t.length ≤ 65536) :
    Calls Tryz.prog 76 #[.agg #[v0, v1], .string ⟨t.toArray⟩, .int .i64 (a : Int)] w (HeadPost3 s t a w) := by
  have k0 := ScKept.start hin hhi
  obtain ⟨⟨A0, n0, c0, rfl⟩, ⟨A1, n1, c1, rfl⟩⟩ := hin.form
  have hsz : (⟨t.toArray⟩ : ByteArray).size = t.length := rfl
  have hbel := ((Below.refl w.heap.size w).alloc (Nat.le_refl _) (.cells #[.slice A0 n0 c0, .slice A1 n1 c1] 25)).alloc (by simp) (.cells #[.int .i64 0, .int .i64 0, .slice none 0 0] 34)
  have hR0 : Blk ((w.alloc (.cells #[.slice A0 n0 c0, .slice A1 n1 c1] 25)).alloc (.cells #[.int .i64 0, .int .i64 0, .slice none 0 0] 34)) (w.heap.size + 1) 34 #[.int .i64 0, .int .i64 0, .slice none 0 0] := by
    have := Blk.new (w.alloc (.cells #[.slice A0 n0 c0, .slice A1 n1 c1] 25)) 34 #[.int .i64 0, .int .i64 0, .slice none 0 0]
    simpa using this
  have k1 := k0.next ((Below.refl _ _).alloc (Nat.le_refl _) (.cells #[.int .i64 0, .int .i64 0, .slice none 0 0] 34))
  have HB1 := Lib.hid (fun W => begins3_any t [36] a W (by omega) ht ⟨by decide, by decide⟩)
  have HB2 := Lib.hid (fun W => begins3_any t [35] a W (by omega) ht ⟨by decide, by decide⟩)
  have HN0 := Lib.hid (fun W (I : Int) (ha1 : a + 1 ≤ t.length) (hI : I = ((a + 1 : Nat) : Int)) => (by subst hI; exact number3_any t (a + 1) W ha1 ht : Calls Tryz.prog 74 #[.string ⟨t.toArray⟩, .int .i64 I] W (NumPost3 t (a + 1) W)))
  have d0 := k1.b.cell 0
  have d1 := k1.b.cell 1
  simp at d0 d1
  go_enter Tryz.func76, Tryz.ntmps76
  go_wp2_with fail
  refine (HB1.out _).mono ?_
  rintro e w1 ⟨rfl, rfl⟩
  cases hs1 : strip [36] (t.drop a) with
  | some r =>
    obtain ⟨hd1, hl1⟩ := strip_drop (by decide) hs1
    simp only [List.length_singleton] at hd1 hl1
    have HE := Lib.hid (headP_var (f := firstAt 0 (s.syms.map nm)) (g := firstAt 0 (s.funs.map fnm)) hs1)
    go_wp2_with fail
    refine (HN0.out _ _ hl1 (by first | rfl | simp)).mono ?_
    rintro e w2 ⟨hm, hb2⟩
    rw [hd1] at hm
    have hrr := hR0.below hb2 (by simp)
    have r0 := hrr.cell 0
    have r1 := hrr.cell 1
    have r2 := hrr.cell 2
    have f0 := hrr.frozen 0
    have f1 := hrr.frozen 1
    have f2 := hrr.frozen 2
    simp at r0 r1 r2
    have hbw2 : Below w.heap.size w w2 := hbel.trans (hb2.mono (by simp; omega))
    cases hn : numP r with
    | some y =>
      obtain ⟨n, q⟩ := y
      rw [hn] at hm
      obtain ⟨nx, rfl, hdr, hnx⟩ := hm
      have HN2 := Lib.hid hn
      clear hn hs1
      go_wp2_with fail
      refine bodyPost_ret (head3_results rfl rfl rfl ((((hrr.set_ 0 _).set_ 1 _).set_ 2 _).eq_ rfl)) rfl ⟨0, n, nx, true, rfl, hnx, ?_, ((hbw2.setCell (Nat.le_succ _) _).setCell (Nat.le_succ _) _).setCell (Nat.le_succ _) _⟩
      rw [HE.out, HN2.out]
      exact ⟨rfl, rfl, hdr⟩
    | none =>
      rw [hn] at hm
      obtain ⟨n, nx, rfl, hnx⟩ := hm
      have HN2 := Lib.hid hn
      clear hn hs1
      go_wp2_with fail
      refine bodyPost_ret (head3_results rfl rfl rfl ((((hrr.set_ 0 _).set_ 1 _).set_ 2 _).eq_ rfl)) rfl ⟨0, n, nx, false, rfl, hnx, ?_, ((hbw2.setCell (Nat.le_succ _) _).setCell (Nat.le_succ _) _).setCell (Nat.le_succ _) _⟩
      rw [HE.out, HN2.out]
  | none =>
    go_wp2_with fail
    refine (HB2.out _).mono ?_
    rintro e w1 ⟨rfl, rfl⟩
    cases hs2 : strip [35] (t.drop a) with
    | some r =>
      obtain ⟨hd2, hl1⟩ := strip_drop (by decide) hs2
      simp only [List.length_singleton] at hd2 hl1
      have hdw : t.drop (a + 1) = r := hd2
      have HW := Lib.hid (fun W (I : Int) (hI : I = ((a + 1 : Nat) : Int)) => (by subst hI; exact word3_any t (a + 1) W (hl1) ht : Calls Tryz.prog 72 #[.string ⟨t.toArray⟩, .int .i64 I] W fun e w' => e = .returned (.int .i64 ((a + 1 + ((t.drop (a + 1)).takeWhile signB).length : Nat) : Int)) ∧ Below W.heap.size W w'))
      have htl := takeWhile_len signB (t.drop (a + 1))
      rw [List.length_drop] at htl
      obtain ⟨m, hm⟩ : ∃ m : Nat, a + 1 + ((t.drop (a + 1)).takeWhile signB).length = m := ⟨_, rfl⟩
      rw [hm] at HW
      have hml : m ≤ t.length := by omega
      have ham : a + 1 ≤ m := by omega
      have hsl : (t.drop (a + 1)).take (m - (a + 1)) = (t.drop (a + 1)).takeWhile signB := by
        rw [show m - (a + 1) = ((t.drop (a + 1)).takeWhile signB).length by omega]
        exact (tw_split _).1
      have hsr : t.drop m = (t.drop (a + 1)).dropWhile signB := by
        rw [← hm, ← List.drop_drop]
        exact (tw_split _).2
      have hql : ((t.drop (a + 1)).takeWhile signB).length ≤ 65536 := by omega
      have HI := Lib.hid (fun W (hW : Below w.heap.size w W) (q : ByteArray) (hq : q = ⟨((t.drop (a + 1)).takeWhile signB).toArray⟩) => (by subst hq; exact index3_any s (.slice A0 n0 c0) (.slice A1 n1 c1) true ((t.drop (a + 1)).takeWhile signB) W hi (hin.below hW (by omega)) (by have := hW.size; omega) hql : Calls Tryz.prog 120 #[.agg #[.slice A0 n0 c0, .slice A1 n1 c1], .bool true, .string q] W fun e w' => e = .returned (.int .i64 (numI (firstAt 0 (s.syms.map nm) ((t.drop (a + 1)).takeWhile signB)))) ∧ Below W.heap.size W w'))
      have HQ := Lib.hid (fun (q : ByteArray) (hq : q = (⟨t.toArray⟩ : ByteArray).extract (a + 1) m) => (by rw [hq, bytes_sub, hsl] : q = ⟨((t.drop (a + 1)).takeWhile signB).toArray⟩))
      have hans : (match headP (firstAt 0 (s.syms.map nm)) (firstAt 0 (s.funs.map fnm)) (t.drop a) with | some (h, r) => (firstAt 0 (s.syms.map nm) ((t.drop (a + 1)).takeWhile signB)).isSome = true ∧ h = (2, numI (firstAt 0 (s.syms.map nm) ((t.drop (a + 1)).takeWhile signB))) ∧ t.drop m = r | none => (firstAt 0 (s.syms.map nm) ((t.drop (a + 1)).takeWhile signB)).isSome = false) := by
        rw [headP_sym hs1 hs2, numK_names hnm.syms, ← hd2]
        cases hfx : firstAt 0 (s.syms.map nm) ((t.drop (a + 1)).takeWhile signB) with
        | none => rfl
        | some n => exact ⟨rfl, rfl, hsr⟩
      have HA := Lib.hid hans
      have HNG := Lib.hid (numI_ge (firstAt 0 (s.syms.map nm) ((t.drop (a + 1)).takeWhile signB)))
      generalize firstAt 0 (s.syms.map nm) ((t.drop (a + 1)).takeWhile signB) = o at *
      generalize numI o = oi at *
      generalize o.isSome = ob at *
      have HK0 := Lib.hid k1
      have HB0 := Lib.hid hbel
      have HRR := Lib.hid hR0
      clear hans hsl hsr hm htl hql HN0
      go_wp2_with fail
      refine (HW.out _ _ (by first | rfl | simp)).mono ?_
      rintro e w2 ⟨rfl, hb2⟩
      have k2 := HK0.out.next hb2
      have e0 := k2.b.cell 0
      have e1 := k2.b.cell 1
      simp at e0 e1
      have hbw2 : Below w.heap.size w w2 := HB0.out.trans (hb2.mono (by simp; omega))
      have hm0 : (0 : Int) ≤ (a : Int) + 1 := by omega
      have hm1 : (a : Int) + 1 ≤ (m : Int) := by omega
      have hmt : ((a : Int) + 1).toNat = a + 1 := by omega
      have hm2 : (m : Int) ≤ (t.length : Int) := by omega
      go_wp2_with fail
      go_region_law
        (first
          | (go_simp; go_at_call 120; refine (HI.out _ (by exact hbw2.drew) _ (by exact HQ.out _ (by first | rfl | simp))).mono ?_; rintro e w3 ⟨rfl, hb3⟩))
      have hb3' : Below w2.heap.size w2 w3 := ((Below.refl w2.heap.size w2).drew).trans hb3
      have hrr := (HRR.out.below hb2 (by simp)).below hb3' (by have := hb2.size; simp at this; omega)
      have r0 := hrr.cell 0
      have r1 := hrr.cell 1
      have r2 := hrr.cell 2
      have f0 := hrr.frozen 0
      have f1 := hrr.frozen 1
      have f2 := hrr.frozen 2
      simp at r0 r1 r2
      have hng := HNG.out
      go_wp2_with fail
      refine bodyPost_ret (head3_results rfl rfl rfl ((((hrr.set_ 0 _).set_ 1 _).set_ 2 _).eq_ rfl)) rfl ⟨2, oi, m, ob, ?_, hml, HA.out, ?_⟩
      · first | rfl | simp [hng]
      · exact ((((hbw2.trans (hb3'.mono hbw2.size)).setCell (Nat.le_succ _) _).setCell (Nat.le_succ _) _).setCell (Nat.le_succ _) _)
    | none =>
      have hdw : t.drop (a) = t.drop a := rfl
      have HW := Lib.hid (fun W (I : Int) (hI : I = ((a : Nat) : Int)) => (by subst hI; exact word3_any t (a) W (ha) ht : Calls Tryz.prog 72 #[.string ⟨t.toArray⟩, .int .i64 I] W fun e w' => e = .returned (.int .i64 ((a + ((t.drop (a)).takeWhile signB).length : Nat) : Int)) ∧ Below W.heap.size W w'))
      have htl := takeWhile_len signB (t.drop (a))
      rw [List.length_drop] at htl
      obtain ⟨m, hm⟩ : ∃ m : Nat, a + ((t.drop (a)).takeWhile signB).length = m := ⟨_, rfl⟩
      rw [hm] at HW
      have hml : m ≤ t.length := by omega
      have ham : a ≤ m := by omega
      have hsl : (t.drop (a)).take (m - (a)) = (t.drop (a)).takeWhile signB := by
        rw [show m - (a) = ((t.drop (a)).takeWhile signB).length by omega]
        exact (tw_split _).1
      have hsr : t.drop m = (t.drop (a)).dropWhile signB := by
        rw [← hm, ← List.drop_drop]
        exact (tw_split _).2
      have hql : ((t.drop (a)).takeWhile signB).length ≤ 65536 := by omega
      have HI := Lib.hid (fun W (hW : Below w.heap.size w W) (q : ByteArray) (hq : q = ⟨((t.drop (a)).takeWhile signB).toArray⟩) => (by subst hq; exact index3_any s (.slice A0 n0 c0) (.slice A1 n1 c1) false ((t.drop (a)).takeWhile signB) W hi (hin.below hW (by omega)) (by have := hW.size; omega) hql : Calls Tryz.prog 120 #[.agg #[.slice A0 n0 c0, .slice A1 n1 c1], .bool false, .string q] W fun e w' => e = .returned (.int .i64 (numI (firstAt 0 (s.funs.map fnm) ((t.drop (a)).takeWhile signB)))) ∧ Below W.heap.size W w'))
      have HQ := Lib.hid (fun (q : ByteArray) (hq : q = (⟨t.toArray⟩ : ByteArray).extract (a) m) => (by rw [hq, bytes_sub, hsl] : q = ⟨((t.drop (a)).takeWhile signB).toArray⟩))
      have hans : (match headP (firstAt 0 (s.syms.map nm)) (firstAt 0 (s.funs.map fnm)) (t.drop a) with | some (h, r) => (firstAt 0 (s.funs.map fnm) ((t.drop (a)).takeWhile signB)).isSome = true ∧ h = (1, numI (firstAt 0 (s.funs.map fnm) ((t.drop (a)).takeWhile signB))) ∧ t.drop m = r | none => (firstAt 0 (s.funs.map fnm) ((t.drop (a)).takeWhile signB)).isSome = false) := by
        rw [headP_fun hs1 hs2, numK_names hnm.funs]
        cases hfx : firstAt 0 (s.funs.map fnm) ((t.drop (a)).takeWhile signB) with
        | none => rfl
        | some n => exact ⟨rfl, rfl, hsr⟩
      have HA := Lib.hid hans
      have HNG := Lib.hid (numI_ge (firstAt 0 (s.funs.map fnm) ((t.drop (a)).takeWhile signB)))
      generalize firstAt 0 (s.funs.map fnm) ((t.drop (a)).takeWhile signB) = o at *
      generalize numI o = oi at *
      generalize o.isSome = ob at *
      have HK0 := Lib.hid k1
      have HB0 := Lib.hid hbel
      have HRR := Lib.hid hR0
      clear hans hsl hsr hm htl hql HN0
      go_wp2_with fail
      refine (HW.out _ _ (by first | rfl | simp)).mono ?_
      rintro e w2 ⟨rfl, hb2⟩
      have k2 := HK0.out.next hb2
      have e0 := k2.b.cell 0
      have e1 := k2.b.cell 1
      simp at e0 e1
      have hbw2 : Below w.heap.size w w2 := HB0.out.trans (hb2.mono (by simp; omega))
      have hm0 : (0 : Int) ≤ (a : Int) := by omega
      have hm1 : (a : Int) ≤ (m : Int) := by omega
      have hmt : ((a : Int)).toNat = a := by omega
      have hm2 : (m : Int) ≤ (t.length : Int) := by omega
      go_wp2_with fail
      go_region_law
        (first
          | (go_simp; go_at_call 120; refine (HI.out _ (by exact hbw2.drew) _ (by exact HQ.out _ (by first | rfl | simp))).mono ?_; rintro e w3 ⟨rfl, hb3⟩))
      have hb3' : Below w2.heap.size w2 w3 := ((Below.refl w2.heap.size w2).drew).trans hb3
      have hrr := (HRR.out.below hb2 (by simp)).below hb3' (by have := hb2.size; simp at this; omega)
      have r0 := hrr.cell 0
      have r1 := hrr.cell 1
      have r2 := hrr.cell 2
      have f0 := hrr.frozen 0
      have f1 := hrr.frozen 1
      have f2 := hrr.frozen 2
      simp at r0 r1 r2
      have hng := HNG.out
      go_wp2_with fail
      refine bodyPost_ret (head3_results rfl rfl rfl ((((hrr.set_ 0 _).set_ 1 _).set_ 2 _).eq_ rfl)) rfl ⟨1, oi, m, ob, ?_, hml, HA.out, ?_⟩
      · first | rfl | simp [hng]
      · exact ((((hbw2.trans (hb3'.mono hbw2.size)).setCell (Nat.le_succ _) _).setCell (Nat.le_succ _) _).setCell (Nat.le_succ _) _)
end Go.Proofs.YtbbejhhohppdhaaGreatDoor
