/-
  Names: term.isName and the reference's Name.
-/
import Derived.Test.YtmggccgjhjknpaaRef
namespace Go.Proofs.Ytmggccgjhjknpaa
open Go.RowKit

def letterB (c : UInt8) : Bool := decide (97 ≤ (c.toNat : Int)) && decide ((c.toNat : Int) ≤ 122)
def digitB (c : UInt8) : Bool := decide (48 ≤ (c.toNat : Int)) && decide ((c.toNat : Int) ≤ 57)
def signB (c : UInt8) : Bool := letterB c || (digitB c || decide ((c.toNat : Int) = 95))
/-- The bytes are a name. -/
def nameB (l : List UInt8) : Bool := decide (1 ≤ l.length) && (decide (l.length ≤ 24) && ((match l with | [] => false | c :: _ => letterB c) && l.all signB))

theorem letterB_yes {c : UInt8} (h1 : (97 : Int) ≤ (c.toNat : Int)) (h2 : (c.toNat : Int) ≤ 122) : letterB c = true := by simp only [letterB, Bool.and_eq_true, decide_eq_true_eq]; omega
theorem letterB_no {c : UInt8} (h : (c.toNat : Int) < 97 ∨ 122 < (c.toNat : Int)) : letterB c = false := by
  rw [Bool.eq_false_iff]; simp only [letterB, ne_eq, Bool.and_eq_true, decide_eq_true_eq]; omega
theorem isLetter_any (c : UInt8) (w : World) : Calls Try.prog 96 #[.int .u8 (c.toNat : Int)] w fun e w' => e = .returned (.bool (letterB c)) ∧ w = w' := by
  by_cases h1 : 97 ≤ (c.toNat : Int)
  · by_cases h2 : (c.toNat : Int) ≤ 122
    · have HF : Hid (letterB c = true) := Lib.hid (by simp [letterB, h1, h2])
      go_enter Try.func96, Try.ntmps96
      go_wp2_with fail
      go_ret
      exact ⟨ret_bool HF.out.symm, rfl⟩
    · have HF : Hid (letterB c = false) := Lib.hid (by simp [letterB, h2])
      go_enter Try.func96, Try.ntmps96
      go_wp2_with fail
      go_ret
      exact ⟨ret_bool HF.out.symm, rfl⟩
  · have HF : Hid (letterB c = false) := Lib.hid (by simp [letterB, h1])
    go_enter Try.func96, Try.ntmps96
    go_wp2_with fail
    go_ret
    exact ⟨ret_bool HF.out.symm, rfl⟩

theorem isDigit_any (c : UInt8) (w : World) : Calls Try.prog 97 #[.int .u8 (c.toNat : Int)] w fun e w' => e = .returned (.bool (digitB c)) ∧ w = w' := by
  by_cases h1 : 48 ≤ (c.toNat : Int)
  · by_cases h2 : (c.toNat : Int) ≤ 57
    · have HF : Hid (digitB c = true) := Lib.hid (by simp [digitB, h1, h2])
      go_enter Try.func97, Try.ntmps97
      go_wp2_with fail
      go_ret
      exact ⟨ret_bool HF.out.symm, rfl⟩
    · have HF : Hid (digitB c = false) := Lib.hid (by simp [digitB, h2])
      go_enter Try.func97, Try.ntmps97
      go_wp2_with fail
      go_ret
      exact ⟨ret_bool HF.out.symm, rfl⟩
  · have HF : Hid (digitB c = false) := Lib.hid (by simp [digitB, h1])
    go_enter Try.func97, Try.ntmps97
    go_wp2_with fail
    go_ret
    exact ⟨ret_bool HF.out.symm, rfl⟩

theorem bytes_at (s : ByteArray) (k : Nat) (h : k < s.size) : s.data.toList[k]? = some s[k] := by
  rw [List.getElem?_eq_getElem (by simpa using h)]; rfl
theorem nameB_long {s : ByteArray} (h : ¬ (1 ≤ s.size ∧ s.size ≤ 24)) : nameB s.data.toList = false := by
  have hl : s.data.toList.length = s.size := by simp
  unfold nameB
  rw [hl]
  by_cases h1 : 1 ≤ s.size
  · have h2 : ¬ s.size ≤ 24 := fun h2 => h ⟨h1, h2⟩
    simp [h2]
  · simp [h1]
theorem nameB_eq {s : ByteArray} (h1 : 1 ≤ s.size) (h2 : s.size ≤ 24) : nameB s.data.toList = (letterB (s[0]'(by omega)) && s.data.toList.all signB) := by
  have hl : s.data.toList.length = s.size := by simp
  have h0 := bytes_at s 0 (by omega)
  unfold nameB
  rw [hl]
  cases hd : s.data.toList with
  | nil => rw [hd] at h0; simp at h0
  | cons c r =>
    rw [hd] at h0
    simp at h0
    simp [h1, h2, h0]
theorem all_take_succ {l : List UInt8} {k : Nat} {c : UInt8} (h : l[k]? = some c) : (l.take (k + 1)).all signB = ((l.take k).all signB && signB c) := by
  rw [List.take_add_one, h, List.all_append]; simp
theorem all_false {l : List UInt8} {k : Nat} {c : UInt8} (h : l[k]? = some c) (hc : signB c = false) : l.all signB = false := by
  rw [Bool.eq_false_iff]
  intro hh
  rw [List.all_eq_true] at hh
  have := hh c (List.mem_of_getElem? h)
  rw [hc] at this
  cases this

set_option maxHeartbeats 1600000 in
theorem isName_any (s : ByteArray) (w : World) (hs : s.size ≤ maxLen) : Calls Try.prog 72 #[.string s] w fun e w' => e = .returned (.bool (nameB s.data.toList)) ∧ w = w' := by
  unfold maxLen at hs
  by_cases h1 : 1 ≤ s.size
  · have h0 : ((s.size : Int) == 0) = false := beq_false_of_ne (by omega)
    by_cases h2 : s.size ≤ 24
    · have hN := nameB_eq h1 h2
      cases hl : letterB (s[0]'(by omega)) with
      | false =>
        have HF : Hid (nameB s.data.toList = false) := Lib.hid (by rw [hN, hl]; rfl)
        have HL := Lib.hid hl
        clear hN hl
        go_enter Try.func72, Try.ntmps72
        go_wp2_with (go_at_call 96; refine (isLetter_any s[0] _).mono ?_; rw [HL.out]; rintro e w' ⟨rfl, rfl⟩)
        go_ret
        exact ⟨ret_bool HF.out.symm, rfl⟩
      | true =>
        have HF : Hid (nameB s.data.toList = s.data.toList.all signB) := Lib.hid (by rw [hN, hl]; rfl)
        have HL := Lib.hid hl
        clear hN hl
        go_enter Try.func72, Try.ntmps72
        go_wp2_with (go_at_call 96; refine (isLetter_any s[0] _).mono ?_; rw [HL.out]; rintro e w' ⟨rfl, rfl⟩)
        go_loop [20] (fun i => ∃ k : Nat, k ≤ s.size ∧ i = .int .i64 k ∧ Hid ((s.data.toList.take k).all signB = true)) (fun i => s.size - (intOf i).toNat)
        case atStart => exact ⟨0, Nat.zero_le _, rfl, Lib.hid (by simp)⟩
        case round =>
          obtain ⟨k, hk, rfl, hf⟩ := hrel
          by_cases hlt : k < s.size
          · have hx := bytes_at s k hlt
            have hsucc := all_take_succ hx
            have hfin := all_false hx
            rw [hf.out, Bool.true_and] at hsucc
            cases ha : letterB s[k] with
            | true =>
              have HR : Hid ((s.data.toList.take (k + 1)).all signB = true) := Lib.hid (by rw [hsucc]; simp [signB, ha])
              have HA := Lib.hid ha
              clear hx hsucc hfin ha
              go_wp2_with (go_at_call 96; refine (isLetter_any s[k] _).mono ?_; rw [HA.out]; rintro e w' ⟨rfl, rfl⟩)
              go_round
              case rel => exact ⟨k + 1, by omega, by go_num, HR⟩
              case measure => simp [intOf]; omega
            | false =>
              cases hb : digitB s[k] with
              | true =>
                have HR : Hid ((s.data.toList.take (k + 1)).all signB = true) := Lib.hid (by rw [hsucc]; simp [signB, hb])
                have HA := Lib.hid ha
                have HB := Lib.hid hb
                clear hx hsucc hfin ha hb
                go_wp2_with (first
                  | (go_at_call 96; refine (isLetter_any s[k] _).mono ?_; rw [HA.out]; rintro e w' ⟨rfl, rfl⟩)
                  | (go_at_call 97; refine (isDigit_any s[k] _).mono ?_; rw [HB.out]; rintro e w' ⟨rfl, rfl⟩))
                go_round
                case rel => exact ⟨k + 1, by omega, by go_num, HR⟩
                case measure => simp [intOf]; omega
              | false =>
                by_cases hc : (s[k].toNat : Int) = 95
                · have HR : Hid ((s.data.toList.take (k + 1)).all signB = true) := Lib.hid (by rw [hsucc]; simp [signB, hc])
                  have HA := Lib.hid ha
                  have HB := Lib.hid hb
                  have c1 : ((s[k].toNat : Int) == 95) = true := by simpa using hc
                  have c2 : ((s[k].toNat : Int) != 95) = false := by simp [hc]
                  clear hx hsucc hfin ha hb hc
                  go_wp2_with (first
                    | (go_at_call 96; refine (isLetter_any s[k] _).mono ?_; rw [HA.out]; rintro e w' ⟨rfl, rfl⟩)
                    | (go_at_call 97; refine (isDigit_any s[k] _).mono ?_; rw [HB.out]; rintro e w' ⟨rfl, rfl⟩))
                  go_round
                  case rel => exact ⟨k + 1, by omega, by go_num, HR⟩
                  case measure => simp [intOf]; omega
                · have HR : Hid (s.data.toList.all signB = false) := Lib.hid (hfin (by simp [signB, ha, hb, hc]))
                  have HA := Lib.hid ha
                  have HB := Lib.hid hb
                  have c1 : ((s[k].toNat : Int) == 95) = false := by simpa using hc
                  have c2 : ((s[k].toNat : Int) != 95) = true := by simpa using hc
                  clear hx hsucc hfin ha hb hc
                  go_wp2_with (first
                    | (go_at_call 96; refine (isLetter_any s[k] _).mono ?_; rw [HA.out]; rintro e w' ⟨rfl, rfl⟩)
                    | (go_at_call 97; refine (isDigit_any s[k] _).mono ?_; rw [HB.out]; rintro e w' ⟨rfl, rfl⟩))
                  go_ret
                  exact ⟨ret_bool (by rw [HF.out, HR.out]), rfl⟩
          · have hll : s.data.toList.take k = s.data.toList := List.take_of_length_le (by simp; omega)
            rw [hll] at hf
            clear hll
            go_wp2_with fail
            go_ret
            exact ⟨ret_bool (by rw [HF.out, hf.out]), rfl⟩
    · have HF : Hid (nameB s.data.toList = false) := Lib.hid (nameB_long (by omega))
      go_enter Try.func72, Try.ntmps72
      go_wp2_with fail
      go_ret
      exact ⟨ret_bool HF.out.symm, rfl⟩
  · have HF : Hid (nameB s.data.toList = false) := Lib.hid (nameB_long (by omega))
    have h0 : ((s.size : Int) == 0) = true := by rw [beq_iff_eq]; omega
    go_enter Try.func72, Try.ntmps72
    go_wp2_with fail
    go_ret
    exact ⟨ret_bool HF.out.symm, rfl⟩

set_option maxHeartbeats 1600000 in
theorem refName_any (s : ByteArray) (w : World) (hs : s.size ≤ maxLen) : Calls Try.prog 93 #[.string s] w fun e w' => e = .returned (.bool (nameB s.data.toList)) ∧ w = w' := by
  unfold maxLen at hs
  by_cases h1 : 1 ≤ s.size
  · by_cases h2 : s.size ≤ 24
    · have hN := nameB_eq h1 h2
      by_cases g1 : 97 ≤ (s[0].toNat : Int)
      · by_cases g2 : (s[0].toNat : Int) ≤ 122
        · have hl : letterB (s[0]'(by omega)) = true := letterB_yes (by omega) (by omega)
          have HF : Hid (nameB s.data.toList = s.data.toList.all signB) := Lib.hid (by rw [hN, hl]; rfl)
          clear hN hl
          go_enter Try.func93, Try.ntmps93
          go_wp2_with fail
          go_loop [3] (fun i => ∃ k : Nat, k ≤ s.size ∧ i = .int .i64 k ∧ Hid ((s.data.toList.take k).all signB = true)) (fun i => s.size - (intOf i).toNat)
          case atStart => exact ⟨0, Nat.zero_le _, rfl, Lib.hid (by simp)⟩
          case round =>
            obtain ⟨k, hk, rfl, hf⟩ := hrel
            by_cases hlt : k < s.size
            · have hx := bytes_at s k hlt
              have hsucc := all_take_succ hx
              have hfin := all_false hx
              rw [hf.out, Bool.true_and] at hsucc
              by_cases hc : (s[k].toNat : Int) = 95
              · have HR : Hid ((s.data.toList.take (k + 1)).all signB = true) := Lib.hid (by rw [hsucc]; simp [signB, hc])
                have c1 : ((s[k].toNat : Int) == 95) = true := by simpa using hc
                have c2 : ((s[k].toNat : Int) != 95) = false := by simp [hc]
                have c3 : (s[k].toNat : Int) < 97 := by omega
                have c4 : 57 < (s[k].toNat : Int) := by omega
                have c5 : 48 ≤ (s[k].toNat : Int) := by omega
                clear hx hsucc hfin hc
                go_wp2_with fail
                go_round
                case rel => exact ⟨k + 1, by omega, by go_num, HR⟩
                case measure => simp [intOf]; omega
              · have c1 : ((s[k].toNat : Int) == 95) = false := by simpa using hc
                have c2 : ((s[k].toNat : Int) != 95) = true := by simpa using hc
                by_cases a1 : 97 ≤ (s[k].toNat : Int)
                · by_cases a2 : (s[k].toNat : Int) ≤ 122
                  · have HR : Hid ((s.data.toList.take (k + 1)).all signB = true) := Lib.hid (by rw [hsucc]; simp [signB, letterB, a1, a2])
                    clear hx hsucc hfin hc
                    go_wp2_with fail
                    go_round
                    case rel => exact ⟨k + 1, by omega, by go_num, HR⟩
                    case measure => simp [intOf]; omega
                  · have b2 : ¬ (s[k].toNat : Int) ≤ 57 := by omega
                    have HR : Hid (s.data.toList.all signB = false) := Lib.hid (hfin (by simp [signB, letterB, digitB, a2, b2, hc]))
                    have a2' : 122 < (s[k].toNat : Int) := by omega
                    have b2' : 57 < (s[k].toNat : Int) := by omega
                    have b1' : 48 ≤ (s[k].toNat : Int) := by omega
                    clear hx hsucc hfin hc
                    go_wp2_with fail
                    go_ret
                    exact ⟨ret_bool (by rw [HF.out, HR.out]), rfl⟩
                · have a1' : (s[k].toNat : Int) < 97 := by omega
                  by_cases b1 : 48 ≤ (s[k].toNat : Int)
                  · by_cases b2 : (s[k].toNat : Int) ≤ 57
                    · have HR : Hid ((s.data.toList.take (k + 1)).all signB = true) := Lib.hid (by rw [hsucc]; simp [signB, digitB, b1, b2])
                      clear hx hsucc hfin hc
                      go_wp2_with fail
                      go_round
                      case rel => exact ⟨k + 1, by omega, by go_num, HR⟩
                      case measure => simp [intOf]; omega
                    · have HR : Hid (s.data.toList.all signB = false) := Lib.hid (hfin (by simp [signB, letterB, digitB, a1, b2, hc]))
                      have b2' : 57 < (s[k].toNat : Int) := by omega
                      clear hx hsucc hfin hc
                      go_wp2_with fail
                      go_ret
                      exact ⟨ret_bool (by rw [HF.out, HR.out]), rfl⟩
                  · have HR : Hid (s.data.toList.all signB = false) := Lib.hid (hfin (by simp [signB, letterB, digitB, a1, b1, hc]))
                    have b1' : (s[k].toNat : Int) < 48 := by omega
                    clear hx hsucc hfin hc
                    go_wp2_with fail
                    go_ret
                    exact ⟨ret_bool (by rw [HF.out, HR.out]), rfl⟩
            · have hll : s.data.toList.take k = s.data.toList := List.take_of_length_le (by simp; omega)
              rw [hll] at hf
              clear hll
              go_wp2_with fail
              go_ret
              exact ⟨ret_bool (by rw [HF.out, hf.out]), rfl⟩
        · have hl : letterB (s[0]'(by omega)) = false := letterB_no (by omega)
          have HF : Hid (nameB s.data.toList = false) := Lib.hid (by rw [hN, hl]; rfl)
          have g2' : 122 < (s[0].toNat : Int) := by omega
          clear hN hl
          go_enter Try.func93, Try.ntmps93
          go_wp2_with fail
          go_ret
          exact ⟨ret_bool HF.out.symm, rfl⟩
      · have hl : letterB (s[0]'(by omega)) = false := letterB_no (by omega)
        have HF : Hid (nameB s.data.toList = false) := Lib.hid (by rw [hN, hl]; rfl)
        have g1' : (s[0].toNat : Int) < 97 := by omega
        clear hN hl
        go_enter Try.func93, Try.ntmps93
        go_wp2_with fail
        go_ret
        exact ⟨ret_bool HF.out.symm, rfl⟩
    · have HF : Hid (nameB s.data.toList = false) := Lib.hid (nameB_long (by omega))
      go_enter Try.func93, Try.ntmps93
      go_wp2_with fail
      go_ret
      exact ⟨ret_bool HF.out.symm, rfl⟩
  · have HF : Hid (nameB s.data.toList = false) := Lib.hid (nameB_long (by omega))
    go_enter Try.func93, Try.ntmps93
    go_wp2_with fail
    go_ret
    exact ⟨ret_bool HF.out.symm, rfl⟩
end Go.Proofs.Ytmggccgjhjknpaa
