/-
  Names: term.isName and the reference's Name.
-/
import Derived.Test.YtkkfdiidneoelaaDoorRef
import Derived.Test.YtkkfdiidneoelaaDoorShelf
import Derived.Shelf.Strings.SlTrimAscii
namespace Go.Proofs.YtkkfdiidneoelaaDoor
open Go.RowKit Go.Shelf

def letterB (c : UInt8) : Bool := decide (97 ≤ (c.toNat : Int)) && decide ((c.toNat : Int) ≤ 122)
def digitB (c : UInt8) : Bool := decide (48 ≤ (c.toNat : Int)) && decide ((c.toNat : Int) ≤ 57)
def signB (c : UInt8) : Bool := letterB c || (digitB c || decide ((c.toNat : Int) = 95))
/-- The bytes are a name. -/
def nameB (l : List UInt8) : Bool := decide (1 ≤ l.length) && (decide (l.length ≤ 24) && ((match l with | [] => false | c :: _ => letterB c) && l.all signB))

theorem letterB_yes {c : UInt8} (h1 : (97 : Int) ≤ (c.toNat : Int)) (h2 : (c.toNat : Int) ≤ 122) : letterB c = true := by simp only [letterB, Bool.and_eq_true, decide_eq_true_eq]; omega
theorem letterB_no {c : UInt8} (h : (c.toNat : Int) < 97 ∨ 122 < (c.toNat : Int)) : letterB c = false := by
  rw [Bool.eq_false_iff]; simp only [letterB, ne_eq, Bool.and_eq_true, decide_eq_true_eq]; omega
theorem isLetter_any (c : UInt8) (w : World) : Calls Tryd.prog 79 #[.int .u8 (c.toNat : Int)] w fun e w' => e = .returned (.bool (letterB c)) ∧ w = w' := by
  by_cases h1 : 97 ≤ (c.toNat : Int)
  · by_cases h2 : (c.toNat : Int) ≤ 122
    · have HF : Hid (letterB c = true) := Lib.hid (by simp [letterB, h1, h2])
      go_enter Tryd.func79, Tryd.ntmps79
      go_wp2_with fail
      go_ret
      exact ⟨ret_bool HF.out.symm, rfl⟩
    · have HF : Hid (letterB c = false) := Lib.hid (by simp [letterB, h2])
      go_enter Tryd.func79, Tryd.ntmps79
      go_wp2_with fail
      go_ret
      exact ⟨ret_bool HF.out.symm, rfl⟩
  · have HF : Hid (letterB c = false) := Lib.hid (by simp [letterB, h1])
    go_enter Tryd.func79, Tryd.ntmps79
    go_wp2_with fail
    go_ret
    exact ⟨ret_bool HF.out.symm, rfl⟩

theorem bytes_at (s : ByteArray) (k : Nat) (h : k < s.size) : s.data.toList[k]? = some s[k] := by
  rw [List.getElem?_eq_getElem (by simpa using h)]; rfl
theorem nameB_long {s : ByteArray} (h : ¬ (1 ≤ s.size ∧ s.size ≤ 24)) : nameB s.data.toList = false := by
  have hl : s.data.toList.length = s.size := by simp
  unfold nameB
  rw [hl]
  by_cases h1 : 1 ≤ s.size
  · have h2 : ¬ s.size ≤ 24 := fun h2 => h ⟨h1, h2⟩
    simp [h2]
  · simp [h1]
theorem nameB_eq {s : ByteArray} (h1 : 1 ≤ s.size) (h2 : s.size ≤ 24) : nameB s.data.toList = (letterB (s[0]'(by omega)) && s.data.toList.all signB) := by
  have hl : s.data.toList.length = s.size := by simp
  have h0 := bytes_at s 0 (by omega)
  unfold nameB
  rw [hl]
  cases hd : s.data.toList with
  | nil => rw [hd] at h0; simp at h0
  | cons c r =>
    rw [hd] at h0
    simp at h0
    simp [h1, h2, h0]
theorem all_take_succ {l : List UInt8} {k : Nat} {c : UInt8} (h : l[k]? = some c) : (l.take (k + 1)).all signB = ((l.take k).all signB && signB c) := by
  rw [List.take_add_one, h, List.all_append]; simp
theorem all_false {l : List UInt8} {k : Nat} {c : UInt8} (h : l[k]? = some c) (hc : signB c = false) : l.all signB = false := by
  rw [Bool.eq_false_iff]
  intro hh
  rw [List.all_eq_true] at hh
  have := hh c (List.mem_of_getElem? h)
  rw [hc] at this
  cases this

/-- The bytes of names. -/
def nameBytes : ByteArray := ⟨#[97, 98, 99, 100, 101, 102, 103, 104, 105, 106, 107, 108, 109, 110, 111, 112, 113, 114, 115, 116, 117, 118, 119, 120, 121, 122, 48, 49, 50, 51, 52, 53, 54, 55, 56, 57, 95]⟩
theorem nameBytes_fin : ∀ n : Fin 256, nameBytes.data.toList.contains (UInt8.ofNat n.val) = signB (UInt8.ofNat n.val) := by decide +kernel
theorem nameBytes_sign (c : UInt8) : nameBytes.data.toList.contains c = signB c := by
  have := nameBytes_fin ⟨c.toNat, UInt8.toNat_lt c⟩
  simpa using this
theorem trim_sign (l : List UInt8) : Lib.trimLeftS l nameBytes.data.toList = l.dropWhile signB := by
  unfold Lib.trimLeftS
  congr 1
  funext c
  exact nameBytes_sign c
theorem dropWhile_all : ∀ {l : List UInt8}, l.all signB = true → l.dropWhile signB = []
  | [], _ => rfl
  | c :: r, h => by
    simp only [List.all_cons, Bool.and_eq_true] at h
    rw [List.dropWhile_cons, if_pos h.1]
    exact dropWhile_all h.2
theorem dropWhile_some : ∀ {l : List UInt8}, l.all signB = false → (l.dropWhile signB).isEmpty = false
  | [], h => by simp at h
  | c :: r, h => by
    rw [List.dropWhile_cons]
    by_cases hc : signB c = true
    · rw [if_pos hc]
      refine dropWhile_some (l := r) ?_
      simpa [hc] using h
    · rw [if_neg hc]; rfl
theorem trimSet_info : (Tryd.prog.info? 151).map (fun i => (i.zero, i.size)) = some (some (.agg (Array.replicate 256 (.bool false))), 256) := by kernel_rfl
theorem trimName_any (s : ByteArray) (w : World) :
    Calls Tryd.prog 80 #[.string s, .string nameBytes] w fun e w' => e = .returned (.string ⟨(s.data.toList.dropWhile signB).toArray⟩) ∧ Below w.heap.size w w' := by
  have hcon := Any.strings_TrimLeft_laid Tryd.lays161 (by kernel_rfl) s nameBytes w (by decide) (ascii_of_all (by decide))
  rw [trim_sign] at hcon
  exact hcon

set_option maxHeartbeats 1600000 in
theorem isName_any (s : ByteArray) (w : World) (hs : s.size ≤ maxLen) : Calls Tryd.prog 53 #[.string s] w fun e w' => e = .returned (.bool (nameB s.data.toList)) ∧ Below w.heap.size w w' := by
  unfold maxLen at hs
  have HT := Lib.hid (fun W => trimName_any s W)
  unfold nameBytes at HT
  have hle : s.toList.isEmpty = decide (s.size = 0) := by
    rw [Lib.toList_data]
    have := Lib.size_eq s
    cases h : s.data.toList with
    | nil => rw [h] at this; simp at this; simp [this]
    | cons a r => rw [h] at this; simp at this; simp [this]
  by_cases h1 : 1 ≤ s.size
  · have h0 : s.toList.isEmpty = false := by rw [hle]; exact decide_eq_false (by omega)
    clear hle
    by_cases h2 : s.size ≤ 24
    · have hN := nameB_eq h1 h2
      cases hl : letterB (s[0]'(by omega)) with
      | false =>
        have HF : Hid (nameB s.data.toList = false) := Lib.hid (by rw [hN, hl]; rfl)
        have HL := Lib.hid hl
        clear hN hl
        go_enter Tryd.func53, Tryd.ntmps53
        go_wp2_with (go_at_call 79; refine (isLetter_any s[0] _).mono ?_; rw [HL.out]; rintro e w' ⟨rfl, rfl⟩)
        go_ret
        exact ⟨ret_bool HF.out.symm, Below.refl _ _⟩
      | true =>
        have HF : Hid (nameB s.data.toList = s.data.toList.all signB) := Lib.hid (by rw [hN, hl]; rfl)
        have HL := Lib.hid hl
        clear hN hl
        cases ha : s.data.toList.all signB with
        | true =>
          have hd := dropWhile_all ha
          rw [hd] at HT
          rw [ha] at HF
          clear hd ha
          go_enter Tryd.func53, Tryd.ntmps53
          go_wp2_with (first
            | (go_at_call 79; refine (isLetter_any s[0] _).mono ?_; rw [HL.out]; rintro e w' ⟨rfl, rfl⟩)
            | (go_at_call 80; refine (HT.out _).mono ?_; rintro e w' ⟨rfl, hB⟩))
          go_ret
          exact ⟨ret_bool HF.out.symm, hB⟩
        | false =>
          have hd := dropWhile_some ha
          rw [ha] at HF
          clear ha
          generalize s.data.toList.dropWhile signB = r at *
          go_enter Tryd.func53, Tryd.ntmps53
          go_wp2_with (first
            | (go_at_call 79; refine (isLetter_any s[0] _).mono ?_; rw [HL.out]; rintro e w' ⟨rfl, rfl⟩)
            | (go_at_call 80; refine (HT.out _).mono ?_; rintro e w' ⟨rfl, hB⟩))
          go_ret
          exact ⟨ret_bool HF.out.symm, hB⟩
    · have HF : Hid (nameB s.data.toList = false) := Lib.hid (nameB_long (by omega))
      go_enter Tryd.func53, Tryd.ntmps53
      go_wp2_with fail
      go_ret
      exact ⟨ret_bool HF.out.symm, Below.refl _ _⟩
  · have HF : Hid (nameB s.data.toList = false) := Lib.hid (nameB_long (by omega))
    have h0 : s.toList.isEmpty = true := by rw [hle]; exact decide_eq_true (by omega)
    clear hle
    go_enter Tryd.func53, Tryd.ntmps53
    go_wp2_with fail
    go_ret
    exact ⟨ret_bool HF.out.symm, Below.refl _ _⟩

set_option maxHeartbeats 1600000 in
theorem refName_any (s : ByteArray) (w : World) (hs : s.size ≤ maxLen) : Calls Tryd.prog 30 #[.string s] w fun e w' => e = .returned (.bool (nameB s.data.toList)) ∧ w = w' := by
  unfold maxLen at hs
  by_cases h1 : 1 ≤ s.size
  · by_cases h2 : s.size ≤ 24
    · have hN := nameB_eq h1 h2
      by_cases g1 : 97 ≤ (s[0].toNat : Int)
      · by_cases g2 : (s[0].toNat : Int) ≤ 122
        · have hl : letterB (s[0]'(by omega)) = true := letterB_yes (by omega) (by omega)
          have HF : Hid (nameB s.data.toList = s.data.toList.all signB) := Lib.hid (by rw [hN, hl]; rfl)
          clear hN hl
          go_enter Tryd.func30, Tryd.ntmps30
          go_wp2_with fail
          go_loop [3] (fun i => ∃ k : Nat, k ≤ s.size ∧ i = .int .i64 k ∧ Hid ((s.data.toList.take k).all signB = true)) (fun i => s.size - (intOf i).toNat)
          case atStart => exact ⟨0, Nat.zero_le _, rfl, Lib.hid (by simp)⟩
          case round =>
            obtain ⟨k, hk, rfl, hf⟩ := hrel
            by_cases hlt : k < s.size
            · have hx := bytes_at s k hlt
              have hsucc := all_take_succ hx
              have hfin := all_false hx
              rw [hf.out, Bool.true_and] at hsucc
              by_cases hc : (s[k].toNat : Int) = 95
              · have HR : Hid ((s.data.toList.take (k + 1)).all signB = true) := Lib.hid (by rw [hsucc]; simp [signB, hc])
                have c1 : ((s[k].toNat : Int) == 95) = true := by simpa using hc
                have c2 : ((s[k].toNat : Int) != 95) = false := by simp [hc]
                have c3 : (s[k].toNat : Int) < 97 := by omega
                have c4 : 57 < (s[k].toNat : Int) := by omega
                have c5 : 48 ≤ (s[k].toNat : Int) := by omega
                clear hx hsucc hfin hc
                go_wp2_with fail
                go_round
                case rel => exact ⟨k + 1, by omega, by go_num, HR⟩
                case measure => simp [intOf]; omega
              · have c1 : ((s[k].toNat : Int) == 95) = false := by simpa using hc
                have c2 : ((s[k].toNat : Int) != 95) = true := by simpa using hc
                by_cases a1 : 97 ≤ (s[k].toNat : Int)
                · by_cases a2 : (s[k].toNat : Int) ≤ 122
                  · have HR : Hid ((s.data.toList.take (k + 1)).all signB = true) := Lib.hid (by rw [hsucc]; simp [signB, letterB, a1, a2])
                    clear hx hsucc hfin hc
                    go_wp2_with fail
                    go_round
                    case rel => exact ⟨k + 1, by omega, by go_num, HR⟩
                    case measure => simp [intOf]; omega
                  · have b2 : ¬ (s[k].toNat : Int) ≤ 57 := by omega
                    have HR : Hid (s.data.toList.all signB = false) := Lib.hid (hfin (by simp [signB, letterB, digitB, a2, b2, hc]))
                    have a2' : 122 < (s[k].toNat : Int) := by omega
                    have b2' : 57 < (s[k].toNat : Int) := by omega
                    have b1' : 48 ≤ (s[k].toNat : Int) := by omega
                    clear hx hsucc hfin hc
                    go_wp2_with fail
                    go_ret
                    exact ⟨ret_bool (by rw [HF.out, HR.out]), rfl⟩
                · have a1' : (s[k].toNat : Int) < 97 := by omega
                  by_cases b1 : 48 ≤ (s[k].toNat : Int)
                  · by_cases b2 : (s[k].toNat : Int) ≤ 57
                    · have HR : Hid ((s.data.toList.take (k + 1)).all signB = true) := Lib.hid (by rw [hsucc]; simp [signB, digitB, b1, b2])
                      clear hx hsucc hfin hc
                      go_wp2_with fail
                      go_round
                      case rel => exact ⟨k + 1, by omega, by go_num, HR⟩
                      case measure => simp [intOf]; omega
                    · have HR : Hid (s.data.toList.all signB = false) := Lib.hid (hfin (by simp [signB, letterB, digitB, a1, b2, hc]))
                      have b2' : 57 < (s[k].toNat : Int) := by omega
                      clear hx hsucc hfin hc
                      go_wp2_with fail
                      go_ret
                      exact ⟨ret_bool (by rw [HF.out, HR.out]), rfl⟩
                  · have HR : Hid (s.data.toList.all signB = false) := Lib.hid (hfin (by simp [signB, letterB, digitB, a1, b1, hc]))
                    have b1' : (s[k].toNat : Int) < 48 := by omega
                    clear hx hsucc hfin hc
                    go_wp2_with fail
                    go_ret
                    exact ⟨ret_bool (by rw [HF.out, HR.out]), rfl⟩
            · have hll : s.data.toList.take k = s.data.toList := List.take_of_length_le (by simp; omega)
              rw [hll] at hf
              clear hll
              go_wp2_with fail
              go_ret
              exact ⟨ret_bool (by rw [HF.out, hf.out]), rfl⟩
        · have hl : letterB (s[0]'(by omega)) = false := letterB_no (by omega)
          have HF : Hid (nameB s.data.toList = false) := Lib.hid (by rw [hN, hl]; rfl)
          have g2' : 122 < (s[0].toNat : Int) := by omega
          clear hN hl
          go_enter Tryd.func30, Tryd.ntmps30
          go_wp2_with fail
          go_ret
          exact ⟨ret_bool HF.out.symm, rfl⟩
      · have hl : letterB (s[0]'(by omega)) = false := letterB_no (by omega)
        have HF : Hid (nameB s.data.toList = false) := Lib.hid (by rw [hN, hl]; rfl)
        have g1' : (s[0].toNat : Int) < 97 := by omega
        clear hN hl
        go_enter Tryd.func30, Tryd.ntmps30
        go_wp2_with fail
        go_ret
        exact ⟨ret_bool HF.out.symm, rfl⟩
    · have HF : Hid (nameB s.data.toList = false) := Lib.hid (nameB_long (by omega))
      go_enter Tryd.func30, Tryd.ntmps30
      go_wp2_with fail
      go_ret
      exact ⟨ret_bool HF.out.symm, rfl⟩
  · have HF : Hid (nameB s.data.toList = false) := Lib.hid (nameB_long (by omega))
    go_enter Tryd.func30, Tryd.ntmps30
    go_wp2_with fail
    go_ret
    exact ⟨ret_bool HF.out.symm, rfl⟩
end Go.Proofs.YtkkfdiidneoelaaDoor
