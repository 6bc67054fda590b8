/-
  sorts.Put, and the reference's Text and Put.
-/
import Derived.Test.YtbifnkjfjndjjaaText
namespace Go.Proofs.Ytbifnkjfjndjjaa
open Go.RowKit

/-- What Put returns. -/
def S.puts (s : S) : List UInt8 := if s.ok then s.text else []

set_option maxHeartbeats 800000 in
theorem put_any (s : S) (v : Value) (w : World) (lo hi : Nat) (hin : s.In w lo hi v) (hhi : hi ≤ w.heap.size) :
    Calls Try.prog 24 #[.agg #[v]] w fun e w' => e = .returned (.tuple #[.string ⟨s.puts.toArray⟩, .int .i64 (errOf s.ok)]) ∧ Below w.heap.size w w' := by
  obtain ⟨A, n, c, rfl⟩ := hin.form
  have hw1 : Below w.heap.size w (w.alloc (.cells #[.slice A n c] 24)) := (Below.refl _ _).alloc (Nat.le_refl _) _
  have hin1 := hin.below hw1 hhi
  have hbk := Blk.new w 24 #[.slice A n c]
  have HC := Lib.hid (check_any s _ _ lo hi hin1 (by simp; omega))
  cases hok : s.ok with
  | true =>
    have hcnt := S.ok_count hok
    have HO : Hid (s.puts = s.text) := Lib.hid (by simp [S.puts, hok])
    rw [hok] at HC
    clear hok
    go_enter Try.func24, Try.ntmps24
    go_wp2_with fail
    refine HC.out.mono ?_
    rintro e w1 ⟨rfl, hb1⟩
    simp only [errOf, if_true]
    have hk1 := hbk.below hb1 (by simp)
    have hc1 := (hk1.alloc (.cells #[.pointer none, .slice none 0 0] 53)).cell 0
    have hin2 := hin1.below hb1 (by simp; omega)
    have hz := hb1.size
    simp only [World.size_alloc] at hb1 hz
    have hw2 : Below w1.heap.size w1 (w1.alloc (.cells #[.pointer none, .slice none 0 0] 53)) := (Below.refl _ _).alloc (Nat.le_refl _) _
    have HD := Lib.hid (write_any _ s _ [] w1.heap.size w1.heap.size _ lo hi (Nat.le_refl _) (by simp; omega) (hin2.below hw2 (by omega)) (by omega) (Lib.fresh_isBuilder 53 5 w1))
    go_wp2_with fail
    refine HD.out.mono ?_
    rintro e w2 ⟨rfl, hbd, hb2⟩
    have hz2 := hb2.size
    simp only [World.size_alloc] at hz2
    have HE := Lib.hid (Try.Builder_String_any w1.heap.size w1.heap.size ([] ++ s.text) w2 hbd (by omega))
    go_wp2_with fail
    refine HE.out.mono ?_
    rintro e w3 ⟨rfl, hb3⟩
    go_wp2_with fail
    go_ret2
    exact ⟨by rw [HO.out]; rfl, (hw1.trans (hb1.mono (by omega))).trans (((hw2.trans hb2).trans hb3).mono (by omega))⟩
  | false =>
    have HO : Hid (s.puts = []) := Lib.hid (by simp [S.puts, hok])
    rw [hok] at HC
    clear hok
    go_enter Try.func24, Try.ntmps24
    go_wp2_with fail
    refine HC.out.mono ?_
    rintro e w1 ⟨rfl, hb1⟩
    rw [show errOf false = 6 from rfl]
    simp only [World.size_alloc] at hb1
    go_wp2_with fail
    go_ret2
    exact ⟨by rw [HO.out]; rfl, hw1.trans (hb1.mono (by omega))⟩

theorem str_append (a b : List UInt8) : Value.string (⟨a.toArray⟩ ++ ⟨b.toArray⟩) = .string ⟨(a ++ b).toArray⟩ := by
  congr 1
theorem str_append4 (a b c d : List UInt8) : Value.string (⟨a.toArray⟩ ++ ⟨b.toArray⟩ ++ ⟨c.toArray⟩ ++ ⟨d.toArray⟩) = .string ⟨(a ++ b ++ c ++ d).toArray⟩ := by
  congr 1

set_option maxHeartbeats 800000 in
theorem refText_any (K : Nat) : ∀ (s : S) (v : Value) (w : World) (lo hi : Nat), s.count ≤ K → s.count ≤ 1000 → s.In w lo hi v → hi ≤ w.heap.size →
    Calls Try.prog 46 #[.agg #[v]] w fun e w' => e = .returned (.string ⟨s.text.toArray⟩) ∧ Below w.heap.size w w' := by
  induction K with
  | zero => intro s; have := s.count_pos; omega
  | succ K ih =>
    intro s v w lo hi hK hm hin hhi
    obtain ⟨l⟩ := s
    simp only [S.In] at hin
    obtain ⟨A, _, c, rfl, rfl, hnc, hc, hall⟩ := hin
    have HIH := Lib.hid ih
    clear ih
    go_enter Try.func46, Try.ntmps46
    go_wp2_with fail
    go_loopw [3, 9] (fun n i wr => ∃ (k : Nat) (t : List UInt8), k ≤ l.length ∧ i = .int .i64 k ∧ n = .string ⟨t.toArray⟩ ∧ Hid (t = S.textL (l.take k)) ∧ Below w.heap.size w wr) (fun _ i _ => l.length - (intOf i).toNat)
    case atStart => exact ⟨0, [], Nat.zero_le _, rfl, rfl, Lib.hid (by simp [S.textL]), (Below.refl _ _).alloc (Nat.le_refl _) _⟩
    case round =>
      obtain ⟨k, t, hk, rfl, rfl, ht, hbel⟩ := hrel
      have htl : t.length ≤ 6000 := by
        have h1 := S.textL_length (l.take k)
        have h2 := S.countL_take_le l k
        rw [← ht.out] at h1
        simp only [S.count] at hm
        omega
      have hsz := hbel.size
      by_cases hlt : k < l.length
      · have hx : l[k]? = some l[k] := List.getElem?_eq_getElem hlt
        have hcl := S.count_lt hx
        have hts := S.textL_take_succ l k _ hx
        obtain ⟨ad, u, rfl, _, hadb, hcell, hinx⟩ := hall.at_ hx
        rw [Nat.zero_add] at hcell
        have hcellr : wr.cell? (ad.add k) = some u := (hbel.cell (by rw [block_of_add]; omega)).trans hcell
        obtain ⟨A', n', c', rfl⟩ := hinx.form
        have hw2 : Below wr.heap.size wr (wr.alloc (.cells #[.slice A' n' c'] 24)) := (Below.refl _ _).alloc (Nat.le_refl _) _
        have hinr := (hinx.below hbel hhi).below hw2 (by omega)
        have hlx : l[k].args.length = n' := by
          generalize l[k] = x at hinx
          obtain ⟨lx⟩ := x
          simp only [S.In] at hinx
          obtain ⟨_, _, _, e1, e2, _⟩ := hinx
          injection e1 with _ e3 _
          rw [e3]; exact e2
        have hct := HIH.out l[k] _ _ lo hi (by omega) (by omega) hinr (by simp; omega)
        generalize l[k] = x at *
        by_cases h0 : n' = 0
        · have harg : x.argText = [111] := by
            have : x.args = [] := List.eq_nil_of_length_eq_zero (by omega)
            simp [S.argText, this]
          have HT : Hid (t ++ [111, 32, 62, 32] = S.textL (l.take (k + 1))) := Lib.hid (by rw [hts, harg, ht.out]; simp)
          have hn0 : ((n' : Int) == 0) = true := by rw [h0]; rfl
          clear hx hcell hts hlx hct harg h0
          go_wp2_with fail
          go_roundw
          case rel => exact ⟨k + 1, t ++ [111, 32, 62, 32], by omega, by go_num, str_append _ _, HT, (hbel.trans (hw2.mono (by omega)))⟩
          case measure => simp [intOf]; omega
        · have harg : x.argText = 40 :: (x.text ++ [41]) := by
            have : x.args ≠ [] := fun e => by rw [e] at hlx; simp at hlx; omega
            simp [S.argText, this]
          have HT : Hid (t ++ [40] ++ x.text ++ [41, 32, 62, 32] = S.textL (l.take (k + 1))) := Lib.hid (by rw [hts, harg, ht.out]; simp)
          have hn0 : ((n' : Int) == 0) = false := by rw [beq_eq_false_iff_ne]; omega
          have HC := Lib.hid hct
          have hxl := x.text_length
          generalize x.text = tx at *
          clear hx hcell hts hlx hct harg h0
          go_wp2_with fail
          refine HC.out.mono ?_
          rintro e w1 ⟨rfl, hb1⟩
          simp only [World.size_alloc] at hb1
          go_wp2_with fail
          go_roundw
          case rel => exact ⟨k + 1, t ++ [40] ++ tx ++ [41, 32, 62, 32], by omega, by go_num, str_append4 _ _ _ _, HT, (hbel.trans (hw2.mono (by omega))).trans (hb1.mono (by omega))⟩
          case measure => simp [intOf]; omega
      · have HT : Hid (t ++ [111] = (S.mk l).text) := Lib.hid (by have := ht.out; rw [List.take_of_length_le (by omega)] at this; rw [this, S.text])
        go_wp2_with fail
        go_ret
        exact ⟨(congrArg Ending.returned (str_append _ _)).trans (by rw [HT.out]), hbel⟩

set_option maxHeartbeats 800000 in
theorem refPut_any (s : S) (v : Value) (w : World) (lo hi : Nat) (hin : s.In w lo hi v) (hhi : hi ≤ w.heap.size) :
    Calls Try.prog 25 #[.agg #[v]] w fun e w' => e = .returned (.tuple #[.string ⟨s.puts.toArray⟩, .int .i64 (errOf s.ok)]) ∧ Below w.heap.size w w' := by
  obtain ⟨A, n, c, rfl⟩ := hin.form
  have hw1 : Below w.heap.size w (w.alloc (.cells #[.slice A n c] 24)) := (Below.refl _ _).alloc (Nat.le_refl _) _
  have hin1 := hin.below hw1 hhi
  have hbk := Blk.new w 24 #[.slice A n c]
  have HC := Lib.hid (is_any s _ _ lo hi hin1 (by simp; omega))
  cases hok : s.ok with
  | true =>
    have hcnt := S.ok_count hok
    have HO : Hid (s.puts = s.text) := Lib.hid (by simp [S.puts, hok])
    rw [hok] at HC
    clear hok
    go_enter Try.func25, Try.ntmps25
    go_wp2_with fail
    refine HC.out.mono ?_
    rintro e w1 ⟨rfl, hb1⟩
    have hc1 := (hbk.below hb1 (by simp)).cell 0
    have hin2 := hin1.below hb1 (by simp; omega)
    have hz := hb1.size
    simp only [World.size_alloc] at hb1 hz
    have HD := Lib.hid (refText_any _ s _ _ lo hi (Nat.le_refl _) (by omega) hin2 (by omega))
    go_wp2_with fail
    refine HD.out.mono ?_
    rintro e w2 ⟨rfl, hb2⟩
    go_wp2_with fail
    go_ret2
    exact ⟨by rw [HO.out]; rfl, (hw1.trans (hb1.mono (by omega))).trans (hb2.mono (by omega))⟩
  | false =>
    have HO : Hid (s.puts = []) := Lib.hid (by simp [S.puts, hok])
    rw [hok] at HC
    clear hok
    go_enter Try.func25, Try.ntmps25
    go_wp2_with fail
    refine HC.out.mono ?_
    rintro e w1 ⟨rfl, hb1⟩
    simp only [World.size_alloc] at hb1
    go_wp2_with fail
    go_ret2
    exact ⟨by rw [HO.out]; rfl, hw1.trans (hb1.mono (by omega))⟩
end Go.Proofs.Ytbifnkjfjndjjaa
