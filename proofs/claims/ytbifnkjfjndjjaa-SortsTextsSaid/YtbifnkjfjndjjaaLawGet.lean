/-
  SortsGet, SortsRound and SortsTexts: Get answers as the reference does; what is written is read back, and only a sort's string is read as it; and the example comes out.
-/
import Derived.Test.YtbifnkjfjndjjaaGetR
import Derived.Test.YtbifnkjfjndjjaaRound
import Derived.Test.YtbifnkjfjndjjaaLawOrders
namespace Go.Proofs.Ytbifnkjfjndjjaa
open Go.RowKit

theorem whole_count {t : List UInt8} : (getS t).count ≤ 60 := by
  by_cases h : getE t = 0
  · rw [getS, if_pos h]
    rw [getE] at h
    split at h
    · cases h
    · split at h
      · rename_i s hs
        rw [hs]
        cases hok : s.ok with
        | true => exact S.ok_count hok
        | false => rw [hok] at h; cases h
      · cases h
  · rw [getS, if_neg h]
    simp [S.count, S.countL]

set_option maxHeartbeats 1600000 in
set_option maxRecDepth 100000 in
theorem lawGet_any (x : ByteArray) (w : World) (hx : x.size ≤ maxLen) :
    Calls Try.prog 8 #[.string x] w fun e w' => e = .returned (.bool true) ∧ Below w.heap.size w w' := by
  obtain ⟨t, rfl⟩ : ∃ t : List UInt8, x = ⟨t.toArray⟩ := ⟨x.data.toList, by simp⟩
  have hL : t.length ≤ 9223372036854775807 := by simpa [maxLen, ByteArray.size] using hx
  have hcnt := whole_count (t := t)
  have HS := Lib.hid (fun W => get_any t W hL)
  have HT := Lib.hid (fun W => refGet_any t W hL)
  unfold Gets at HS HT
  generalize getE t = E at *
  generalize getS t = s at *
  clear hx
  go_enter Try.func8, Try.ntmps8
  go_wp2_with fail
  refine (HS.out _).mono ?_
  rintro e w1 ⟨v1, f1, rfl, s1, _, r1, b1⟩
  obtain ⟨A1, n1, c1, rfl⟩ := s1.form
  have x1 := Has.new (s1.in_ _ r1) (Nat.le_refl _)
  have bb1 := below_new w1 (.cells #[.slice A1 n1 c1] 24)
  go_wp2_with fail
  refine (HT.out _).mono ?_
  rintro e w2 ⟨v2, f2, rfl, s2, _, r2, b2⟩
  obtain ⟨A2, n2, c2, rfl⟩ := s2.form
  have y2 := Has.new (s2.in_ _ r2) (Nat.le_refl _)
  have bb2 := below_new w2 (.cells #[.slice A2 n2 c2] 24)
  have x2 := (x1.next b2).next bb2
  have cx2 := x2.cell
  have cy2 := y2.cell
  obtain ⟨_, _, _, ix2, hx2⟩ := x2
  obtain ⟨_, _, _, iy2, hy2⟩ := y2
  have HM := refSame_any s s _ _ _ _ _ _ _ ix2 hx2 iy2 hy2
  simp only [hcnt, decide_true, Bool.true_and, (S.eqb_iff s s).2 rfl] at HM
  have HN := Lib.hid HM
  clear HM
  go_wp2_with fail
  refine HN.out.mono ?_
  rintro e w5 ⟨rfl, b5⟩
  go_wp2_with fail
  refine (alive_any w5).mono ?_
  rintro e w6 ⟨rfl, b6⟩
  go_wp2_with fail
  go_ret
  have t1 := b1.size
  have t2 := bb1.size
  have t3 := b2.size
  have t4 := bb2.size
  have t5 := b5.size
  exact ⟨rfl, (((((b1.trans (bb1.mono (by omega))).trans (b2.mono (by omega))).trans (bb2.mono (by omega))).trans (b5.mono (by omega))).trans (b6.mono (by omega)))⟩

theorem get_text {s : S} (hok : s.ok = true) : getE s.text = 0 ∧ getS s.text = s := by
  have hc := S.ok_count hok
  have hl := s.text_length
  have hw : whole s.text = some s := by
    have := parse_text s [] (by simp [strip, arrow])
    rw [List.append_nil] at this
    rw [whole, this]
  have hE : getE s.text = 0 := by
    rw [getE, if_neg (by omega), hw]
    simp [hok, errOf]
  exact ⟨hE, by rw [getS, if_pos hE, hw]; rfl⟩

set_option maxHeartbeats 1600000 in
set_option maxRecDepth 100000 in
theorem lawRound_any (s : S) (v : Value) (w : World) (lo hi : Nat) (hin : s.In w lo hi v) (hhi : hi ≤ w.heap.size) :
    Calls Try.prog 9 #[.agg #[v]] w fun e w' => e = .returned (.bool true) ∧ Below w.heap.size w w' := by
  obtain ⟨A, n, c, rfl⟩ := hin.form
  have p0 := Has.new hin hhi
  have b0 := below_new w (.cells #[.slice A n c] 24)
  have HP := Lib.hid (put_any s _ _ lo hi (hin.below b0 hhi) (by simp; omega))
  cases hok : s.ok with
  | true =>
    have hcnt := S.ok_count hok
    obtain ⟨hE, hG⟩ := get_text hok
    have hl := s.text_length
    have HS := Lib.hid (fun W => get_any s.text W (by omega))
    unfold Gets at HS
    rw [hE, hG] at HS
    have hp : s.puts = s.text := by simp [S.puts, hok]
    rw [hp, hok] at HP
    have HEq := Lib.hid (fun u1 W lo hi lo' hi' => refSame_any s s u1 (.slice A n c) W lo hi lo' hi')
    simp only [hcnt, decide_true, Bool.true_and, (S.eqb_iff s s).2 rfl] at HEq
    generalize s.text = tx at *
    clear hok hE hG hp hl hin
    go_enter Try.func9, Try.ntmps9
    go_wp2_with fail
    refine HP.out.mono ?_
    rintro e w1 ⟨rfl, b1⟩
    rw [show errOf true = 0 from rfl]
    go_wp2_with fail
    refine (HS.out _).mono ?_
    rintro e w2 ⟨v2, f2, rfl, s2, _, r2, b2⟩
    obtain ⟨A2, n2, c2, rfl⟩ := s2.form
    have y2 := Has.new (s2.in_ _ r2) (Nat.le_refl _)
    have bb2 := below_new w2 (.cells #[.slice A2 n2 c2] 24)
    have p2 := ((p0.next b1).next b2).next bb2
    have cp2 := p2.cell
    have cy2 := y2.cell
    obtain ⟨_, _, _, ip2, hp2⟩ := p2
    obtain ⟨_, _, _, iy2, hy2⟩ := y2
    have HN := Lib.hid (HEq.out _ _ _ _ _ _ iy2 hy2 ip2 hp2)
    go_wp2_with fail
    refine HN.out.mono ?_
    rintro e w5 ⟨rfl, b5⟩
    go_wp2_with fail
    refine (alive_any w5).mono ?_
    rintro e w6 ⟨rfl, b6⟩
    go_wp2_with fail
    go_ret
    have t0 := b0.size
    have t1 := b1.size
    have t3 := b2.size
    have t4 := bb2.size
    have t5 := b5.size
    exact ⟨rfl, (((((b0.trans (b1.mono (by omega))).trans (b2.mono (by omega))).trans (bb2.mono (by omega))).trans (b5.mono (by omega))).trans (b6.mono (by omega)))⟩
  | false =>
    have hp : s.puts = [] := by simp [S.puts, hok]
    have HI := Lib.hid (fun W lo hi => is_any s (.slice A n c) W lo hi)
    rw [hok] at HI
    rw [hp, hok] at HP
    clear hok hp hin
    go_enter Try.func9, Try.ntmps9
    go_wp2_with fail
    refine HP.out.mono ?_
    rintro e w1 ⟨rfl, b1⟩
    rw [show errOf false = 6 from rfl]
    have p1 := p0.next b1
    have cp1 := p1.cell
    obtain ⟨_, _, _, ip1, hp1⟩ := p1
    go_wp2_with fail
    refine (HI.out _ _ _ ip1 hp1).mono ?_
    rintro e w2 ⟨rfl, b2⟩
    go_wp2_with fail
    refine (alive_any w2).mono ?_
    rintro e w6 ⟨rfl, b6⟩
    go_wp2_with fail
    go_ret
    have t0 := b0.size
    have t1 := b1.size
    have t3 := b2.size
    exact ⟨rfl, ((b0.trans (b1.mono (by omega))).trans (b2.mono (by omega))).trans (b6.mono (by omega))⟩

theorem text_get {t : List UInt8} (h : getE t = 0) : (getS t).ok = true ∧ (getS t).puts = t := by
  rw [getS, if_pos h]
  rw [getE] at h
  split at h
  · cases h
  · cases hw : whole t with
    | none => rw [hw] at h; cases h
    | some s =>
      rw [hw] at h
      have hok : s.ok = true := by
        cases hok : s.ok with
        | true => rfl
        | false => simp only [hok] at h; cases h
      refine ⟨hok, ?_⟩
      rw [whole] at hw
      split at hw
      · rename_i s' hp
        cases hw
        obtain ⟨l, hs, ht⟩ := parse_back _ _ _ _ _ (Nat.lt_succ_self _) hp
        rw [List.nil_append] at hs
        simp only [Option.getD_some]
        rw [S.puts, if_pos hok, ht, hs, S.text]
      · cases hw

set_option maxHeartbeats 1600000 in
set_option maxRecDepth 100000 in
theorem lawTexts_any (x : ByteArray) (w : World) (hx : x.size ≤ maxLen) :
    Calls Try.prog 10 #[.string x] w fun e w' => e = .returned (.bool true) ∧ Below w.heap.size w w' := by
  obtain ⟨t, rfl⟩ : ∃ t : List UInt8, x = ⟨t.toArray⟩ := ⟨x.data.toList, by simp⟩
  have hL : t.length ≤ 9223372036854775807 := by simpa [maxLen, ByteArray.size] using hx
  have HS := Lib.hid (fun W => get_any t W hL)
  unfold Gets at HS
  clear hx
  by_cases hE : getE t = 0
  · obtain ⟨hok, hp⟩ := text_get hE
    have HP := Lib.hid (fun u W lo hi => put_any (getS t) u W lo hi)
    rw [hp, hok] at HP
    rw [hE] at HS
    generalize getS t = s at *
    clear hE hok hp
    go_enter Try.func10, Try.ntmps10
    go_wp2_with fail
    refine (HS.out _).mono ?_
    rintro e w1 ⟨v1, f1, rfl, s1, _, r1, b1⟩
    obtain ⟨A1, n1, c1, rfl⟩ := s1.form
    have x1 := Has.new (s1.in_ _ r1) (Nat.le_refl _)
    have bb1 := below_new w1 (.cells #[.slice A1 n1 c1] 24)
    have cx1 := x1.cell
    obtain ⟨_, _, _, ix1, hx1⟩ := x1
    have HQ := Lib.hid (HP.out _ _ _ _ ix1 hx1)
    rw [show errOf true = 0 from rfl] at HQ
    go_wp2_with fail
    refine HQ.out.mono ?_
    rintro e w2 ⟨rfl, b2⟩
    go_wp2_with fail
    refine (alive_any w2).mono ?_
    rintro e w6 ⟨rfl, b6⟩
    go_wp2_with fail
    go_ret
    have t1 := b1.size
    have t2 := bb1.size
    have t3 := b2.size
    exact ⟨rfl, ((b1.trans (bb1.mono (by omega))).trans (b2.mono (by omega))).trans (b6.mono (by omega))⟩
  · have hG : getS t = .mk [] := by rw [getS, if_neg hE]
    have hEb : (getE t != 0) = true := by simpa using hE
    rw [hG] at HS
    generalize getE t = E at *
    clear hE hG
    go_enter Try.func10, Try.ntmps10
    go_wp2_with fail
    refine (HS.out _).mono ?_
    rintro e w1 ⟨v1, f1, rfl, s1, _, r1, b1⟩
    obtain ⟨A1, c1, rfl⟩ := sep_empty (x := .mk []) rfl s1
    have bb1 := below_new w1 (.cells #[.slice A1 0 c1] 24)
    go_wp2_with fail
    refine (alive_any _).mono ?_
    rintro e w6 ⟨rfl, b6⟩
    go_wp2_with fail
    go_ret
    have t1 := b1.size
    have t2 := bb1.size
    exact ⟨rfl, (b1.trans (bb1.mono (by omega))).trans (b6.mono (by omega))⟩
end Go.Proofs.Ytbifnkjfjndjjaa
