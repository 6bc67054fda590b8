/-
  Names: term.isName and the reference's Name.
  Places: symbols in memory, term.areSymbols and the reference's Symbols.
  A map of names that have been met.
  The functions of a scheme, and schemes, in memory.
  names.Different at symbols and at functions of a scheme: contracts.
  term.areSymbols and the reference's Symbols: contracts.
  term.Check and the reference's Is and Check: contracts.
-/
import Derived.Test.YtbbejhhohppdhaaGreatDoorGA
import Derived.Test.YtbbejhhohppdhaaGreatDoorShelf
import Derived.Shelf.Strings.SlTrimAscii
import Derived.Test.YtbbejhhohppdhaaGreatDoorGC
import Derived.Maps.Own
import Derived.Maps.Views
import Derived.Maps.OwnOps
import Derived.StringKeys
namespace Go.Proofs.YtbbejhhohppdhaaGreatDoor
open Go.RowKit Go.Shelf

def letterB (c : UInt8) : Bool := decide (97 ≤ (c.toNat : Int)) && decide ((c.toNat : Int) ≤ 122)
def digitB (c : UInt8) : Bool := decide (48 ≤ (c.toNat : Int)) && decide ((c.toNat : Int) ≤ 57)
def signB (c : UInt8) : Bool := letterB c || (digitB c || decide ((c.toNat : Int) = 95))
/-- The bytes are a name. -/
def nameB (l : List UInt8) : Bool := decide (1 ≤ l.length) && (decide (l.length ≤ 24) && ((match l with | [] => false | c :: _ => letterB c) && l.all signB))

theorem letterB_yes {c : UInt8} (h1 : (97 : Int) ≤ (c.toNat : Int)) (h2 : (c.toNat : Int) ≤ 122) : letterB c = true := by simp only [letterB, Bool.and_eq_true, decide_eq_true_eq]; omega
theorem letterB_no {c : UInt8} (h : (c.toNat : Int) < 97 ∨ 122 < (c.toNat : Int)) : letterB c = false := by
  rw [Bool.eq_false_iff]; simp only [letterB, ne_eq, Bool.and_eq_true, decide_eq_true_eq]; omega
theorem isLetter_any (c : UInt8) (w : World) : Calls Tryz.prog 165 #[.int .u8 (c.toNat : Int)] w fun e w' => e = .returned (.bool (letterB c)) ∧ w = w' := by
  by_cases h1 : 97 ≤ (c.toNat : Int)
  · by_cases h2 : (c.toNat : Int) ≤ 122
    · have HF : Hid (letterB c = true) := Lib.hid (by simp [letterB, h1, h2])
      go_enter Tryz.func165, Tryz.ntmps165
      go_wp2_with fail
      go_ret
      exact ⟨ret_bool HF.out.symm, rfl⟩
    · have HF : Hid (letterB c = false) := Lib.hid (by simp [letterB, h2])
      go_enter Tryz.func165, Tryz.ntmps165
      go_wp2_with fail
      go_ret
      exact ⟨ret_bool HF.out.symm, rfl⟩
  · have HF : Hid (letterB c = false) := Lib.hid (by simp [letterB, h1])
    go_enter Tryz.func165, Tryz.ntmps165
    go_wp2_with fail
    go_ret
    exact ⟨ret_bool HF.out.symm, rfl⟩

theorem bytes_at (s : ByteArray) (k : Nat) (h : k < s.size) : s.data.toList[k]? = some s[k] := by
  rw [List.getElem?_eq_getElem (by simpa using h)]; rfl
theorem nameB_long {s : ByteArray} (h : ¬ (1 ≤ s.size ∧ s.size ≤ 24)) : nameB s.data.toList = false := by
  have hl : s.data.toList.length = s.size := by simp
  unfold nameB
  rw [hl]
  by_cases h1 : 1 ≤ s.size
  · have h2 : ¬ s.size ≤ 24 := fun h2 => h ⟨h1, h2⟩
    simp [h2]
  · simp [h1]
theorem nameB_eq {s : ByteArray} (h1 : 1 ≤ s.size) (h2 : s.size ≤ 24) : nameB s.data.toList = (letterB (s[0]'(by omega)) && s.data.toList.all signB) := by
  have hl : s.data.toList.length = s.size := by simp
  have h0 := bytes_at s 0 (by omega)
  unfold nameB
  rw [hl]
  cases hd : s.data.toList with
  | nil => rw [hd] at h0; simp at h0
  | cons c r =>
    rw [hd] at h0
    simp at h0
    simp [h1, h2, h0]
theorem all_take_succ {l : List UInt8} {k : Nat} {c : UInt8} (h : l[k]? = some c) : (l.take (k + 1)).all signB = ((l.take k).all signB && signB c) := by
  rw [List.take_add_one, h, List.all_append]; simp
theorem all_false {l : List UInt8} {k : Nat} {c : UInt8} (h : l[k]? = some c) (hc : signB c = false) : l.all signB = false := by
  rw [Bool.eq_false_iff]
  intro hh
  rw [List.all_eq_true] at hh
  have := hh c (List.mem_of_getElem? h)
  rw [hc] at this
  cases this

/-- The bytes of names. -/
def nameBytes : ByteArray := ⟨#[97, 98, 99, 100, 101, 102, 103, 104, 105, 106, 107, 108, 109, 110, 111, 112, 113, 114, 115, 116, 117, 118, 119, 120, 121, 122, 48, 49, 50, 51, 52, 53, 54, 55, 56, 57, 95]⟩
theorem nameBytes_fin : ∀ n : Fin 256, nameBytes.data.toList.contains (UInt8.ofNat n.val) = signB (UInt8.ofNat n.val) := by decide +kernel
theorem nameBytes_sign (c : UInt8) : nameBytes.data.toList.contains c = signB c := by
  have := nameBytes_fin ⟨c.toNat, UInt8.toNat_lt c⟩
  simpa using this
theorem trim_sign (l : List UInt8) : Lib.trimLeftS l nameBytes.data.toList = l.dropWhile signB := by
  unfold Lib.trimLeftS
  congr 1
  funext c
  exact nameBytes_sign c
theorem dropWhile_all : ∀ {l : List UInt8}, l.all signB = true → l.dropWhile signB = []
  | [], _ => rfl
  | c :: r, h => by
    simp only [List.all_cons, Bool.and_eq_true] at h
    rw [List.dropWhile_cons, if_pos h.1]
    exact dropWhile_all h.2
theorem dropWhile_some : ∀ {l : List UInt8}, l.all signB = false → (l.dropWhile signB).isEmpty = false
  | [], h => by simp at h
  | c :: r, h => by
    rw [List.dropWhile_cons]
    by_cases hc : signB c = true
    · rw [if_pos hc]
      refine dropWhile_some (l := r) ?_
      simpa [hc] using h
    · rw [if_neg hc]; rfl
theorem trimSet_info : (Tryz.prog.info? 232).map (fun i => (i.zero, i.size)) = some (some (.agg (Array.replicate 256 (.bool false))), 256) := by kernel_rfl
theorem trimName_any (s : ByteArray) (w : World) :
    Calls Tryz.prog 166 #[.string s, .string nameBytes] w fun e w' => e = .returned (.string ⟨(s.data.toList.dropWhile signB).toArray⟩) ∧ Below w.heap.size w w' := by
  have hcon := Any.strings_TrimLeft_laid Tryz.lays161 (by kernel_rfl) s nameBytes w (by decide) (ascii_of_all (by decide))
  rw [trim_sign] at hcon
  exact hcon

set_option maxHeartbeats 1600000 in
theorem isName_any (s : ByteArray) (w : World) (hs : s.size ≤ maxLen) : Calls Tryz.prog 132 #[.string s] w fun e w' => e = .returned (.bool (nameB s.data.toList)) ∧ Below w.heap.size w w' := by
  unfold maxLen at hs
  have HT := Lib.hid (fun W => trimName_any s W)
  unfold nameBytes at HT
  have hle : s.toList.isEmpty = decide (s.size = 0) := by
    rw [Lib.toList_data]
    have := Lib.size_eq s
    cases h : s.data.toList with
    | nil => rw [h] at this; simp at this; simp [this]
    | cons a r => rw [h] at this; simp at this; simp [this]
  by_cases h1 : 1 ≤ s.size
  · have h0 : s.toList.isEmpty = false := by rw [hle]; exact decide_eq_false (by omega)
    clear hle
    by_cases h2 : s.size ≤ 24
    · have hN := nameB_eq h1 h2
      cases hl : letterB (s[0]'(by omega)) with
      | false =>
        have HF : Hid (nameB s.data.toList = false) := Lib.hid (by rw [hN, hl]; rfl)
        have HL := Lib.hid hl
        clear hN hl
        go_enter Tryz.func132, Tryz.ntmps132
        go_wp2_with (go_at_call 165; refine (isLetter_any s[0] _).mono ?_; rw [HL.out]; rintro e w' ⟨rfl, rfl⟩)
        go_ret
        exact ⟨ret_bool HF.out.symm, Below.refl _ _⟩
      | true =>
        have HF : Hid (nameB s.data.toList = s.data.toList.all signB) := Lib.hid (by rw [hN, hl]; rfl)
        have HL := Lib.hid hl
        clear hN hl
        cases ha : s.data.toList.all signB with
        | true =>
          have hd := dropWhile_all ha
          rw [hd] at HT
          rw [ha] at HF
          clear hd ha
          go_enter Tryz.func132, Tryz.ntmps132
          go_wp2_with (first
            | (go_at_call 165; refine (isLetter_any s[0] _).mono ?_; rw [HL.out]; rintro e w' ⟨rfl, rfl⟩)
            | (go_at_call 166; refine (HT.out _).mono ?_; rintro e w' ⟨rfl, hB⟩))
          go_ret
          exact ⟨ret_bool HF.out.symm, hB⟩
        | false =>
          have hd := dropWhile_some ha
          rw [ha] at HF
          clear ha
          generalize s.data.toList.dropWhile signB = r at *
          go_enter Tryz.func132, Tryz.ntmps132
          go_wp2_with (first
            | (go_at_call 165; refine (isLetter_any s[0] _).mono ?_; rw [HL.out]; rintro e w' ⟨rfl, rfl⟩)
            | (go_at_call 166; refine (HT.out _).mono ?_; rintro e w' ⟨rfl, hB⟩))
          go_ret
          exact ⟨ret_bool HF.out.symm, hB⟩
    · have HF : Hid (nameB s.data.toList = false) := Lib.hid (nameB_long (by omega))
      go_enter Tryz.func132, Tryz.ntmps132
      go_wp2_with fail
      go_ret
      exact ⟨ret_bool HF.out.symm, Below.refl _ _⟩
  · have HF : Hid (nameB s.data.toList = false) := Lib.hid (nameB_long (by omega))
    have h0 : s.toList.isEmpty = true := by rw [hle]; exact decide_eq_true (by omega)
    clear hle
    go_enter Tryz.func132, Tryz.ntmps132
    go_wp2_with fail
    go_ret
    exact ⟨ret_bool HF.out.symm, Below.refl _ _⟩

set_option maxHeartbeats 1600000 in
theorem refName_any (s : ByteArray) (w : World) (hs : s.size ≤ maxLen) : Calls Tryz.prog 73 #[.string s] w fun e w' => e = .returned (.bool (nameB s.data.toList)) ∧ w = w' := by
  unfold maxLen at hs
  by_cases h1 : 1 ≤ s.size
  · by_cases h2 : s.size ≤ 24
    · have hN := nameB_eq h1 h2
      by_cases g1 : 97 ≤ (s[0].toNat : Int)
      · by_cases g2 : (s[0].toNat : Int) ≤ 122
        · have hl : letterB (s[0]'(by omega)) = true := letterB_yes (by omega) (by omega)
          have HF : Hid (nameB s.data.toList = s.data.toList.all signB) := Lib.hid (by rw [hN, hl]; rfl)
          clear hN hl
          go_enter Tryz.func73, Tryz.ntmps73
          go_wp2_with fail
          go_loop [3] (fun i => ∃ k : Nat, k ≤ s.size ∧ i = .int .i64 k ∧ Hid ((s.data.toList.take k).all signB = true)) (fun i => s.size - (intOf i).toNat)
          case atStart => exact ⟨0, Nat.zero_le _, rfl, Lib.hid (by simp)⟩
          case round =>
            obtain ⟨k, hk, rfl, hf⟩ := hrel
            by_cases hlt : k < s.size
            · have hx := bytes_at s k hlt
              have hsucc := all_take_succ hx
              have hfin := all_false hx
              rw [hf.out, Bool.true_and] at hsucc
              by_cases hc : (s[k].toNat : Int) = 95
              · have HR : Hid ((s.data.toList.take (k + 1)).all signB = true) := Lib.hid (by rw [hsucc]; simp [signB, hc])
                have c1 : ((s[k].toNat : Int) == 95) = true := by simpa using hc
                have c2 : ((s[k].toNat : Int) != 95) = false := by simp [hc]
                have c3 : (s[k].toNat : Int) < 97 := by omega
                have c4 : 57 < (s[k].toNat : Int) := by omega
                have c5 : 48 ≤ (s[k].toNat : Int) := by omega
                clear hx hsucc hfin hc
                go_wp2_with fail
                go_round
                case rel => exact ⟨k + 1, by omega, by go_num, HR⟩
                case measure => simp [intOf]; omega
              · have c1 : ((s[k].toNat : Int) == 95) = false := by simpa using hc
                have c2 : ((s[k].toNat : Int) != 95) = true := by simpa using hc
                by_cases a1 : 97 ≤ (s[k].toNat : Int)
                · by_cases a2 : (s[k].toNat : Int) ≤ 122
                  · have HR : Hid ((s.data.toList.take (k + 1)).all signB = true) := Lib.hid (by rw [hsucc]; simp [signB, letterB, a1, a2])
                    clear hx hsucc hfin hc
                    go_wp2_with fail
                    go_round
                    case rel => exact ⟨k + 1, by omega, by go_num, HR⟩
                    case measure => simp [intOf]; omega
                  · have b2 : ¬ (s[k].toNat : Int) ≤ 57 := by omega
                    have HR : Hid (s.data.toList.all signB = false) := Lib.hid (hfin (by simp [signB, letterB, digitB, a2, b2, hc]))
                    have a2' : 122 < (s[k].toNat : Int) := by omega
                    have b2' : 57 < (s[k].toNat : Int) := by omega
                    have b1' : 48 ≤ (s[k].toNat : Int) := by omega
                    clear hx hsucc hfin hc
                    go_wp2_with fail
                    go_ret
                    exact ⟨ret_bool (by rw [HF.out, HR.out]), rfl⟩
                · have a1' : (s[k].toNat : Int) < 97 := by omega
                  by_cases b1 : 48 ≤ (s[k].toNat : Int)
                  · by_cases b2 : (s[k].toNat : Int) ≤ 57
                    · have HR : Hid ((s.data.toList.take (k + 1)).all signB = true) := Lib.hid (by rw [hsucc]; simp [signB, digitB, b1, b2])
                      clear hx hsucc hfin hc
                      go_wp2_with fail
                      go_round
                      case rel => exact ⟨k + 1, by omega, by go_num, HR⟩
                      case measure => simp [intOf]; omega
                    · have HR : Hid (s.data.toList.all signB = false) := Lib.hid (hfin (by simp [signB, letterB, digitB, a1, b2, hc]))
                      have b2' : 57 < (s[k].toNat : Int) := by omega
                      clear hx hsucc hfin hc
                      go_wp2_with fail
                      go_ret
                      exact ⟨ret_bool (by rw [HF.out, HR.out]), rfl⟩
                  · have HR : Hid (s.data.toList.all signB = false) := Lib.hid (hfin (by simp [signB, letterB, digitB, a1, b1, hc]))
                    have b1' : (s[k].toNat : Int) < 48 := by omega
                    clear hx hsucc hfin hc
                    go_wp2_with fail
                    go_ret
                    exact ⟨ret_bool (by rw [HF.out, HR.out]), rfl⟩
            · have hll : s.data.toList.take k = s.data.toList := List.take_of_length_le (by simp; omega)
              rw [hll] at hf
              clear hll
              go_wp2_with fail
              go_ret
              exact ⟨ret_bool (by rw [HF.out, hf.out]), rfl⟩
        · have hl : letterB (s[0]'(by omega)) = false := letterB_no (by omega)
          have HF : Hid (nameB s.data.toList = false) := Lib.hid (by rw [hN, hl]; rfl)
          have g2' : 122 < (s[0].toNat : Int) := by omega
          clear hN hl
          go_enter Tryz.func73, Tryz.ntmps73
          go_wp2_with fail
          go_ret
          exact ⟨ret_bool HF.out.symm, rfl⟩
      · have hl : letterB (s[0]'(by omega)) = false := letterB_no (by omega)
        have HF : Hid (nameB s.data.toList = false) := Lib.hid (by rw [hN, hl]; rfl)
        have g1' : (s[0].toNat : Int) < 97 := by omega
        clear hN hl
        go_enter Tryz.func73, Tryz.ntmps73
        go_wp2_with fail
        go_ret
        exact ⟨ret_bool HF.out.symm, rfl⟩
    · have HF : Hid (nameB s.data.toList = false) := Lib.hid (nameB_long (by omega))
      go_enter Tryz.func73, Tryz.ntmps73
      go_wp2_with fail
      go_ret
      exact ⟨ret_bool HF.out.symm, rfl⟩
  · have HF : Hid (nameB s.data.toList = false) := Lib.hid (nameB_long (by omega))
    go_enter Tryz.func73, Tryz.ntmps73
    go_wp2_with fail
    go_ret
    exact ⟨ret_bool HF.out.symm, rfl⟩
end Go.Proofs.YtbbejhhohppdhaaGreatDoor

namespace Go.Proofs.YtbbejhhohppdhaaGreatDoor
open Go.RowKit Go.ChangeShapes Go.WideShapes Go.ChangeMaps
open Go.Maps (Keyed IsMap)

/-- A symbol: its name and its rank. -/
structure Sy where
  name : ByteArray
  rank : Int

/-- The cells of a row of symbols, two for each. -/
def syCells : List Sy → List Value
  | [] => []
  | s :: r => .string s.name :: .int .i64 s.rank :: syCells r
theorem syCells_at : ∀ {l : List Sy} {k : Nat} {x : Sy}, l[k]? = some x → (syCells l)[k * 2]? = some (.string x.name) ∧ (syCells l)[k * 2 + 1]? = some (.int .i64 x.rank)
  | [], k, x, h => by simp at h
  | s :: r, 0, x, h => by simp at h; subst h; exact ⟨rfl, rfl⟩
  | s :: r, k + 1, x, h => by
    have := syCells_at (l := r) (k := k) (x := x) (by simpa using h)
    rw [show (k + 1) * 2 = k * 2 + 1 + 1 from by omega]
    simpa [syCells] using this
/-- A slice of symbols. -/
def SyIn (w : World) (P : Nat → Prop) (l : List Sy) (v : Value) : Prop :=
  ∃ A n c, v = .slice A n c ∧ l.length = n ∧ n ≤ c ∧ c ≤ 9223372036854775807 ∧ Rd w P A (syCells l) ∧ ∀ x ∈ l, x.name.size ≤ maxLen
theorem SyIn.old {w w' : World} {P : Nat → Prop} {l : List Sy} {v : Value} (h : SyIn w P l v) (ho : Old P w) (hb : Below w.heap.size w w') : SyIn w' P l v := by
  obtain ⟨A, n, c, h1, h2, h3, h4, h5, h6⟩ := h
  exact ⟨A, n, c, h1, h2, h3, h4, h5.keep (fun b hb' => hb.block b (ho b hb')), h6⟩
/-- The two cells of a symbol. -/
def SyEl (w : World) (ad : Addr) (k : Nat) (x : Sy) : Prop :=
  w.cell? (ad.add (k * 2)) = some (.string x.name) ∧ w.cell? ⟨(ad.add (k * 2)).block, (ad.add (k * 2)).off + 1, none⟩ = some (.int .i64 x.rank)
theorem SyEl.keep {w w' : World} {ad : Addr} {k : Nat} {x : Sy} (h : SyEl w ad k x) (hb : w'.heap[ad.block]? = w.heap[ad.block]?) : SyEl w' ad k x :=
  ⟨(World.cell?_of_block (by rw [block_of_add]; exact hb)).trans h.1, (World.cell?_of_block (by show w'.heap[(ad.add (k * 2)).block]? = _; rw [block_of_add]; exact hb)).trans h.2⟩
theorem sy_el {w : World} {P : Nat → Prop} {A : Option Addr} {l : List Sy} (hr : Rd w P A (syCells l)) {k : Nat} {x : Sy} (hx : l[k]? = some x) : ∃ ad, A = some ad ∧ P ad.block ∧ SyEl w ad k x := by
  obtain ⟨g1, g2⟩ := syCells_at hx
  rcases hr with h | ⟨ad, h1, h2, h3⟩
  · rw [h] at g1; simp at g1
  · exact ⟨ad, h1, h2, h3 _ _ g1, by rw [← add_one_more ad (k * 2) 0]; exact h3 _ _ g2⟩

def rankB (r : Int) : Bool := decide (0 ≤ r) && decide (r ≤ 4)
/-- Names are names, each once, and ranks are from 0 to 4. -/
def syOkFrom (seen : List (List UInt8)) : List Sy → Bool
  | [] => true
  | x :: r => nameB x.name.data.toList && (!seen.contains x.name.data.toList && (rankB x.rank && syOkFrom (seen ++ [x.name.data.toList]) r))
def symsB (l : List Sy) : Bool := decide (l.length ≤ 24) && syOkFrom [] l
def nm (x : Sy) : List UInt8 := x.name.data.toList
def syOk1 (l : List Sy) (k : Nat) (x : Sy) : Bool := nameB (nm x) && (!((l.take k).map nm).contains (nm x) && rankB x.rank)
theorem syOkFrom_split : ∀ (l : List Sy) (seen : List (List UInt8)) (k : Nat), syOkFrom seen l = (syOkFrom seen (l.take k) && syOkFrom (seen ++ (l.take k).map nm) (l.drop k))
  | [], seen, k => by simp [syOkFrom]
  | x :: r, seen, 0 => by simp [syOkFrom]
  | x :: r, seen, k + 1 => by
    have := syOkFrom_split r (seen ++ [x.name.data.toList]) k
    simp only [syOkFrom, List.take_succ_cons, List.drop_succ_cons, List.map_cons]
    rw [this]
    simp [nm, Bool.and_assoc]
theorem syOk_succ {l : List Sy} {k : Nat} {x : Sy} (hx : l[k]? = some x) (h : syOkFrom [] (l.take k) = true) (h1 : syOk1 l k x = true) : syOkFrom [] (l.take (k + 1)) = true := by
  have hlt : k < l.length := (List.getElem?_eq_some_iff.1 hx).1
  have e : l.take (k + 1) = l.take k ++ [x] := by rw [List.take_add_one, hx]; rfl
  have := syOkFrom_split (l.take (k + 1)) [] k
  rw [this, List.take_take, Nat.min_eq_left (by omega), h, Bool.true_and, e, List.drop_left' (by simp; omega)]
  simp only [syOk1, Bool.and_eq_true, Bool.not_eq_true'] at h1
  simp only [syOkFrom, List.nil_append, Bool.and_eq_true, Bool.not_eq_true', and_true]
  exact ⟨h1.1, h1.2.1, h1.2.2⟩
theorem syOk_false {l : List Sy} {k : Nat} {x : Sy} (hx : l[k]? = some x) (h1 : syOk1 l k x = false) : syOkFrom [] l = false := by
  have hlt : k < l.length := (List.getElem?_eq_some_iff.1 hx).1
  rw [syOkFrom_split l [] k, List.drop_eq_getElem_cons hlt]
  have hxe : l[k] = x := by rw [List.getElem?_eq_getElem hlt] at hx; exact Option.some.inj hx
  rw [hxe]
  rw [Bool.eq_false_iff]
  intro hh
  simp only [syOkFrom, List.nil_append, Bool.and_eq_true, Bool.not_eq_true'] at hh
  have : syOk1 l k x = true := by
    simp only [syOk1, Bool.and_eq_true, Bool.not_eq_true']
    exact ⟨hh.2.1, hh.2.2.1, hh.2.2.2.1⟩
  rw [h1] at this; cases this
end Go.Proofs.YtbbejhhohppdhaaGreatDoor

namespace Go.Proofs.YtbbejhhohppdhaaGreatDoor
open Go.RowKit Go.ChangeShapes Go.WideShapes Go.ChangeMaps
open Go.Maps (Keyed IsMap)

theorem plainElem_bool_inv {H : Type} {P : Program} {e : TypeId} (he : P.underlying e = some .bool) {v : Value} {x : Bool} {ps : List MemPlace} (h : plainElem (H := H) P e v = some (.lit (.bool x), ps)) : v = .bool x := by
  unfold plainElem at h
  rw [he] at h
  cases v <;> simp at h
  rw [h.1]
/-- Block b is a map of the names l. -/
def Seen (w : World) (b n : Nat) (l : List (List UInt8)) : Prop :=
  ∃ D : DataW Unit, w.ownsMap Tryz.prog 9 (plainElem Tryz.prog 4) b n D ∧ IsMap D ∧ ∀ k : List UInt8, D.atKey (.string k) (.lit (.bool false)) = .lit (.bool (l.contains k))
theorem Seen.made (w : World) : Seen (w.alloc (.map #[] 0)) w.heap.size 0 [] :=
  ⟨.map [], World.ownsMap_made _ _ _ _, by simp [IsMap], fun k => by simp [WideAt.atKey_none]⟩
theorem Seen.kept {w w' : World} {b n : Nat} {l : List (List UInt8)} (h : Seen w b n l) {row : Option Nat} (hg : w.grownBy w' row) (hne : some b ≠ row) : Seen w' b n l := by
  obtain ⟨D, h1, h2, h3⟩ := h
  exact ⟨D, h1.kept hg hne, h2, h3⟩
theorem Seen.lt {w : World} {b n : Nat} {l : List (List UInt8)} (h : Seen w b n l) : b < w.heap.size := by
  obtain ⟨D, h1, _, _⟩ := h
  exact h1.lt
theorem Seen.look {w : World} {b n : Nat} {l : List (List UInt8)} (h : Seen w b n l) (s : ByteArray) (hs : s.size ≤ maxLen) :
    (Instr.lookup 180 (.map (some b)) (.string s) false).run Tryz.prog w = .ok (.bool (l.contains s.data.toList)) w := by
  obtain ⟨D, h1, h2, h3⟩ := h
  obtain ⟨v, ps, hrun, hv⟩ := h1.lookup (Maps.string_keyed Tryz.underlying9) Tryz.underlying180 (Tryz.zeroValue4 w) (plainElem_bool Tryz.underlying4 false) (WideMaps.keyOf_string_mk Tryz.underlying9 hs)
  rw [h3] at hv
  rw [hrun, plainElem_bool_inv Tryz.underlying4 hv]
theorem Seen.put {w : World} {b n : Nat} {l : List (List UInt8)} (h : Seen w b n l) (hn : n < maxLen) (s : ByteArray) (hs : s.size ≤ maxLen) :
    ∃ w', (Instr.mapUpdate 180 (.map (some b)) (.string s) (.bool true)).run Tryz.prog w = .ok () w' ∧ Seen w' b (n + 1) (l ++ [s.data.toList]) ∧ w.grownBy w' (some b) := by
  obtain ⟨D, h1, h2, h3⟩ := h
  obtain ⟨w', hrun, hown, hg⟩ := h1.update (Maps.string_keyed Tryz.underlying9) Tryz.underlying180 hn (WideMaps.keyOf_string_mk Tryz.underlying9 hs) (plainElem_bool Tryz.underlying4 true)
  refine ⟨w', hrun, ⟨_, hown, ?_, fun k => ?_⟩, hg⟩
  · obtain ⟨es, rfl⟩ := h2
    exact ⟨_, rfl⟩
  · by_cases hk : k = s.data.toList
    · subst hk
      rw [Maps.atKey_put_same h2 (by simp [WideAt.IsKeyLit])]
      simp
    · rw [Maps.atKey_put_other (by intro e; injection e with e; exact hk e), h3]
      have e : (l ++ [s.data.toList]).contains k = l.contains k := by rw [Bool.eq_iff_iff]; simp [hk]
      rw [e]
end Go.Proofs.YtbbejhhohppdhaaGreatDoor

namespace Go.Proofs.YtbbejhhohppdhaaGreatDoor
open Go.RowKit

/-- A function of a scheme. -/
structure Fn where
  name : ByteArray
  sort : S
  body : T
/-- A function's value, by the slices of its sort and of its body. -/
def Fn.val (f : Fn) (u v : Value) : Value := .agg #[.string f.name, u, .int .i64 f.body.kind, .int .i64 f.body.num, v]
/-- A function's cells. -/
def Fn.cells (f : Fn) (u v : Value) : Array Value := #[.string f.name, u, .int .i64 f.body.kind, .int .i64 f.body.num, v]
/-- The cells of a row of functions, five for each; all that they reach lies below hi. -/
def FnRow (w : World) (hi : Nat) : List Fn → List Value → Prop
  | [], us => us = []
  | f :: r, us => ∃ u v ut, us = .string f.name :: u :: .int .i64 f.body.kind :: .int .i64 f.body.num :: v :: ut ∧ f.sort.In w 0 hi u ∧ f.body.In w (fun b => b < hi) v ∧ f.name.size ≤ maxLen ∧ FnRow w hi r ut
/-- A slice of functions. -/
def FnIn (w : World) (hi : Nat) (l : List Fn) (v : Value) : Prop :=
  ∃ A n c us, v = .slice A n c ∧ l.length = n ∧ n ≤ c ∧ c ≤ 9223372036854775807 ∧ Rd w (fun b => b < hi) A us ∧ FnRow w hi l us
theorem FnRow.keep {w w' : World} {hi : Nat} (hb : ∀ b, b < hi → w'.heap[b]? = w.heap[b]?) : ∀ (l : List Fn) {us : List Value}, FnRow w hi l us → FnRow w' hi l us
  | [], us, h => by simpa [FnRow] using h
  | f :: r, us, h => by
    simp only [FnRow] at h ⊢
    obtain ⟨u, v, ut, h1, h2, h3, h4, h5⟩ := h
    exact ⟨u, v, ut, h1, S.In.keep (fun p _ hp => World.cell?_of_block (hb _ hp)) _ h2, T.In.keep hb _ h3, h4, FnRow.keep hb r h5⟩
theorem FnRow.more {w : World} {hi hi' : Nat} (hb : hi ≤ hi') : ∀ (l : List Fn) {us : List Value}, FnRow w hi l us → FnRow w hi' l us
  | [], us, h => by simpa [FnRow] using h
  | f :: r, us, h => by
    simp only [FnRow] at h ⊢
    obtain ⟨u, v, ut, h1, h2, h3, h4, h5⟩ := h
    exact ⟨u, v, ut, h1, S.In.more (Nat.le_refl _) hb _ h2, T.In.more (fun b h => Nat.lt_of_lt_of_le h hb) _ h3, h4, FnRow.more hb r h5⟩
theorem FnIn.below {w w' : World} {B hi : Nat} {l : List Fn} {v : Value} (h : FnIn w hi l v) (hb : Below B w w') (hB : hi ≤ B) : FnIn w' hi l v := by
  obtain ⟨A, n, c, us, h1, h2, h3, h4, h5, h6⟩ := h
  exact ⟨A, n, c, us, h1, h2, h3, h4, h5.keep (fun b hb' => hb.block b (by omega)), FnRow.keep (fun b hb' => hb.block b (by omega)) l h6⟩
theorem FnIn.more {w : World} {hi hi' : Nat} {l : List Fn} {v : Value} (h : FnIn w hi l v) (hb : hi ≤ hi') : FnIn w hi' l v := by
  obtain ⟨A, n, c, us, h1, h2, h3, h4, h5, h6⟩ := h
  exact ⟨A, n, c, us, h1, h2, h3, h4, h5.more (fun b h => Nat.lt_of_lt_of_le h hb), FnRow.more hb l h6⟩
theorem FnIn.form {w : World} {hi : Nat} {l : List Fn} {v : Value} (h : FnIn w hi l v) : ∃ A n c, v = .slice A n c := by
  obtain ⟨A, n, c, us, h1, _⟩ := h
  exact ⟨A, n, c, h1⟩
/-- The five cells of an element. -/
structure FnEl (w : World) (ad : Addr) (k : Nat) (f : Fn) (u v : Value) : Prop where
  c0 : w.cell? (ad.add (k * 5)) = some (.string f.name)
  c1 : w.cell? ⟨(ad.add (k * 5)).block, (ad.add (k * 5)).off + 1, none⟩ = some u
  c2 : w.cell? ⟨(ad.add (k * 5)).block, (ad.add (k * 5)).off + 2, none⟩ = some (.int .i64 f.body.kind)
  c3 : w.cell? ⟨(ad.add (k * 5)).block, (ad.add (k * 5)).off + 3, none⟩ = some (.int .i64 f.body.num)
  c4 : w.cell? ⟨(ad.add (k * 5)).block, (ad.add (k * 5)).off + 4, none⟩ = some v
theorem FnEl.keep {w w' : World} {ad : Addr} {k : Nat} {f : Fn} {u v : Value} (h : FnEl w ad k f u v) (hb : w'.heap[ad.block]? = w.heap[ad.block]?) : FnEl w' ad k f u v := by
  have hh : ∀ i, w'.cell? ⟨(ad.add (k * 5)).block, (ad.add (k * 5)).off + i, none⟩ = w.cell? ⟨(ad.add (k * 5)).block, (ad.add (k * 5)).off + i, none⟩ := fun i => World.cell?_of_block (by show w'.heap[(ad.add (k * 5)).block]? = _; rw [block_of_add]; exact hb)
  exact ⟨(World.cell?_of_block (by rw [block_of_add]; exact hb)).trans h.c0, (hh 1).trans h.c1, (hh 2).trans h.c2, (hh 3).trans h.c3, (hh 4).trans h.c4⟩
theorem FnRow.length {w : World} {hi : Nat} : ∀ {l : List Fn} {us : List Value}, FnRow w hi l us → us.length = l.length * 5
  | [], us, h => by simp only [FnRow] at h; simp [h]
  | f :: r, us, h => by
    simp only [FnRow] at h
    obtain ⟨u, v, ut, rfl, _, _, _, h5⟩ := h
    have := h5.length
    simp [this]; omega
theorem FnRow.at_ {w : World} {hi : Nat} : ∀ {l : List Fn} {us : List Value}, FnRow w hi l us → ∀ {k : Nat} {f : Fn}, l[k]? = some f →
    ∃ u v, us[k * 5]? = some (.string f.name) ∧ us[k * 5 + 1]? = some u ∧ us[k * 5 + 2]? = some (.int .i64 f.body.kind) ∧ us[k * 5 + 3]? = some (.int .i64 f.body.num) ∧ us[k * 5 + 4]? = some v ∧
      f.sort.In w 0 hi u ∧ f.body.In w (fun b => b < hi) v ∧ f.name.size ≤ maxLen
  | [], us, h, k, f, hx => by simp at hx
  | g :: r, us, h, k, f, hx => by
    simp only [FnRow] at h
    obtain ⟨u, v, ut, rfl, h2, h3, h4, h5⟩ := h
    cases k with
    | zero => simp at hx; subst hx; exact ⟨u, v, rfl, rfl, rfl, rfl, rfl, h2, h3, h4⟩
    | succ k =>
      simp at hx
      obtain ⟨u', v', g0, g1, g2, g3, g4, g5⟩ := h5.at_ hx
      rw [show (k + 1) * 5 = k * 5 + 1 + 1 + 1 + 1 + 1 from by omega]
      exact ⟨u', v', by simpa using g0, by simpa using g1, by simpa using g2, by simpa using g3, by simpa using g4, g5⟩
theorem fn_el {w : World} {hi : Nat} {A : Option Addr} {us : List Value} {l : List Fn} (hr : Rd w (fun b => b < hi) A us) (h : FnRow w hi l us) {k : Nat} {f : Fn} (hx : l[k]? = some f) :
    ∃ ad u v, A = some ad ∧ ad.block < hi ∧ FnEl w ad k f u v ∧ f.sort.In w 0 hi u ∧ f.body.In w (fun b => b < hi) v ∧ f.name.size ≤ maxLen := by
  obtain ⟨u, v, g0, g1, g2, g3, g4, g5⟩ := h.at_ hx
  rcases hr with rfl | ⟨ad, h1, h2, h3⟩
  · simp at g0
  · exact ⟨ad, u, v, h1, h2, ⟨h3 _ _ g0, by rw [← add_one_more ad (k * 5) 0]; exact h3 _ _ g1, by rw [← add_one_more ad (k * 5) 1]; exact h3 _ _ g2, by rw [← add_one_more ad (k * 5) 2]; exact h3 _ _ g3, by rw [← add_one_more ad (k * 5) 3]; exact h3 _ _ g4⟩, g5⟩

/-- A scheme. -/
structure Sc where
  syms : List Sy
  funs : List Fn
/-- A scheme's two cells; all that it reaches lies below hi. -/
structure ScIn (w : World) (hi : Nat) (s : Sc) (v0 v1 : Value) : Prop where
  sy : SyIn w (fun b => b < hi) s.syms v0
  fn : FnIn w hi s.funs v1
theorem SyIn.below {w w' : World} {B hi : Nat} {l : List Sy} {v : Value} (h : SyIn w (fun b => b < hi) l v) (hb : Below B w w') (hB : hi ≤ B) : SyIn w' (fun b => b < hi) l v := by
  obtain ⟨A, n, c, h1, h2, h3, h4, h5, h6⟩ := h
  exact ⟨A, n, c, h1, h2, h3, h4, h5.keep (fun b hb' => hb.block b (by omega)), h6⟩
theorem SyIn.more {w : World} {hi hi' : Nat} {l : List Sy} {v : Value} (h : SyIn w (fun b => b < hi) l v) (hb : hi ≤ hi') : SyIn w (fun b => b < hi') l v := by
  obtain ⟨A, n, c, h1, h2, h3, h4, h5, h6⟩ := h
  exact ⟨A, n, c, h1, h2, h3, h4, h5.more (fun b h => Nat.lt_of_lt_of_le h hb), h6⟩
theorem ScIn.below {w w' : World} {B hi : Nat} {s : Sc} {v0 v1 : Value} (h : ScIn w hi s v0 v1) (hb : Below B w w') (hB : hi ≤ B) : ScIn w' hi s v0 v1 := ⟨h.sy.below hb hB, h.fn.below hb hB⟩
theorem ScIn.more {w : World} {hi hi' : Nat} {s : Sc} {v0 v1 : Value} (h : ScIn w hi s v0 v1) (hb : hi ≤ hi') : ScIn w hi' s v0 v1 := ⟨h.sy.more hb, h.fn.more hb⟩


theorem fn_info : (Tryz.prog.info? 64).map (fun i => (i.zero, i.size, i.bytes)) = some (some (.agg #[.string ⟨#[]⟩, .slice none 0 0, .int .i64 0, .int .i64 0, .slice none 0 0]), 5, 80) := by kernel_rfl
/-- What a value in a box of a function's own is: the box's cells. -/
theorem funName_any (f : Fn) (u v : Value) (hu : ∃ A n c, u = .slice A n c) (hv : ∃ A n c, v = .slice A n c) (w : World) :
    Calls Tryz.prog 69 #[f.val u v] w fun e w' => e = .returned (.string f.name) ∧ Below w.heap.size w w' := by
  obtain ⟨A, n, c, rfl⟩ := hu
  obtain ⟨A', n', c', rfl⟩ := hv
  unfold Fn.val
  go_enter Tryz.func69, Tryz.ntmps69
  go_wp2_with fail
  go_ret
  exact ⟨rfl, (Below.refl _ _).alloc (Nat.le_refl _) _⟩
end Go.Proofs.YtbbejhhohppdhaaGreatDoor

namespace Go.Proofs.YtbbejhhohppdhaaGreatDoor
open Go.RowKit

/-- Names that are names, each once. -/
def diffFrom (seen : List (List UInt8)) : List (List UInt8) → Bool
  | [] => true
  | x :: r => nameB x && (!seen.contains x && diffFrom (seen ++ [x]) r)
theorem diffFrom_split : ∀ (l : List (List UInt8)) (seen : List (List UInt8)) (k : Nat), diffFrom seen l = (diffFrom seen (l.take k) && diffFrom (seen ++ l.take k) (l.drop k))
  | [], seen, k => by simp [diffFrom]
  | x :: r, seen, 0 => by simp [diffFrom]
  | x :: r, seen, k + 1 => by
    have := diffFrom_split r (seen ++ [x]) k
    simp only [diffFrom, List.take_succ_cons, List.drop_succ_cons]
    rw [this]
    simp [Bool.and_assoc]
theorem diff_succ {l : List (List UInt8)} {k : Nat} {x : List UInt8} (hx : l[k]? = some x) (h : diffFrom [] (l.take k) = true) (h1 : nameB x = true) (h2 : (l.take k).contains x = false) : diffFrom [] (l.take (k + 1)) = true := by
  have hlt : k < l.length := (List.getElem?_eq_some_iff.1 hx).1
  have e : l.take (k + 1) = l.take k ++ [x] := by rw [List.take_add_one, hx]; rfl
  have := diffFrom_split (l.take (k + 1)) [] k
  rw [this, List.take_take, Nat.min_eq_left (by omega), h, Bool.true_and, e, List.drop_left' (by simp; omega)]
  simp only [diffFrom, List.nil_append, h1, h2, Bool.not_false, Bool.and_self]
theorem diff_false {l : List (List UInt8)} {k : Nat} {x : List UInt8} (hx : l[k]? = some x) (h1 : nameB x = false ∨ (l.take k).contains x = true) : diffFrom [] l = false := by
  have hlt : k < l.length := (List.getElem?_eq_some_iff.1 hx).1
  rw [diffFrom_split l [] k, List.drop_eq_getElem_cons hlt]
  have hxe : l[k] = x := by rw [List.getElem?_eq_getElem hlt] at hx; exact Option.some.inj hx
  rw [hxe]
  rw [Bool.eq_false_iff]
  intro hh
  simp only [diffFrom, List.nil_append, Bool.and_eq_true, Bool.not_eq_true'] at hh
  rcases h1 with h1 | h1
  · rw [h1] at hh; exact Bool.noConfusion hh.2.1
  · rw [h1] at hh; exact Bool.noConfusion hh.2.2.1
theorem symbolName_any (name : ByteArray) (rank : Int) (w : World) :
    Calls Tryz.prog 170 #[.agg #[.string name, .int .i64 rank]] w fun e w' => e = .returned (.string name) ∧ Below w.heap.size w w' := by
  go_enter Tryz.func170, Tryz.ntmps170
  go_wp2_with fail
  go_ret
  exact ⟨rfl, (Below.refl _ _).alloc (Nat.le_refl _) _⟩
/-- A function's name. -/
def fnm (f : Fn) : List UInt8 := f.name.data.toList

set_option maxRecDepth 100000 in
set_option maxHeartbeats 1600000 in
theorem diffSy_any (l : List Sy) (v : Value) (w : World) (P : Nat → Prop) (hin : SyIn w P l v) (hold : Old P w) :
    Calls Tryz.prog 169 #[v, .func (.func 170) #[] #[]] w fun e w' => e = .returned (.bool (diffFrom [] (l.map nm))) ∧ Below w.heap.size w w' := by
  obtain ⟨A, _, c, rfl, rfl, hnc, hc, hrd, hsz⟩ := hin
  have hmm := @run_makeMap Tryz.prog
  go_enter Tryz.func169, Tryz.ntmps169
  go_wp2_with fail
  go_loopw [12] (fun i wr => ∃ k : Nat, k ≤ l.length ∧ i = .int .i64 k ∧ Hid (diffFrom [] ((l.map nm).take k) = true) ∧ Seen wr w.heap.size k ((l.map nm).take k) ∧ Below w.heap.size w wr) (fun i _ => l.length - (intOf i).toNat)
  case atStart => exact ⟨0, Nat.zero_le _, rfl, Lib.hid (by simp [diffFrom]), by simpa using Seen.made w, (Below.refl _ _).alloc (Nat.le_refl _) _⟩
  case round =>
    obtain ⟨k, hk, rfl, hf, hsn, hbel⟩ := hrel
    clear hmm
    have hzr := hsn.lt
    by_cases hlt : k < l.length
    · have hx : l[k]? = some l[k] := List.getElem?_eq_getElem hlt
      obtain ⟨ad, rfl, hPa, hel⟩ := sy_el hrd hx
      obtain ⟨r0, r1⟩ := hel.keep (hbel.block _ (hold _ hPa))
      have hsx := hsz l[k] (List.getElem_mem hlt)
      generalize l[k] = x at *
      obtain ⟨name, rank⟩ := x
      simp only at r0 r1 hsx
      have hxm : (l.map nm)[k]? = some name.data.toList := by rw [List.getElem?_map, hx]; rfl
      have hok := @diff_succ (l.map nm) k name.data.toList hxm hf.out
      have hno := @diff_false (l.map nm) k name.data.toList hxm
      have hseen : (l.map nm).take (k + 1) = (l.map nm).take k ++ [name.data.toList] := by rw [List.take_add_one, hxm]; rfl
      generalize (l.map nm).take k = seen at *
      have hbx : Below wr.heap.size wr (wr.alloc (.cells #[.string name, .int .i64 rank] 98)) := (Below.refl _ _).alloc (Nat.le_refl _) _
      have hbb := Blk.new wr 98 #[.string name, .int .i64 rank]
      have d0 := hbb.cell 0
      have d1 := hbb.cell 1
      clear hel
      have HNM := Lib.hid (fun W => symbolName_any name rank W)
      have HIS := Lib.hid (fun W => isName_any name W hsx)
      have HL : Hid (∀ W, Below (wr.heap.size + 1) (wr.alloc (.cells #[.string name, .int .i64 rank] 98)) W → Seen W w.heap.size k seen) :=
        Lib.hid (fun W hW => hsn.kept (w' := W) ⟨(hbx.trans (hW.mono (by omega))).os, (hbx.trans (hW.mono (by omega))).tape, (hbx.trans (hW.mono (by omega))).output, (hbx.trans (hW.mono (by omega))).size, fun q hq _ => (hbx.trans (hW.mono (by omega))).block q hq⟩ (row := none) (by simp))
      cases hnm : nameB name.data.toList with
      | false =>
        have HR : Hid (diffFrom [] (l.map nm) = false) := Lib.hid (hno (.inl hnm))
        rw [hnm] at HIS
        clear hx hxm hok hno hseen hnm
        go_wp2_with fail
        refine (HNM.out _).mono ?_
        rintro e w1 ⟨rfl, b1⟩
        simp only [World.size_alloc] at b1
        go_wp2_with fail
        refine (HIS.out _).mono ?_
        rintro e w2 ⟨rfl, b2⟩
        have z1 := b1.size
        simp only [World.size_alloc] at z1
        go_wp2_with fail
        go_ret
        exact ⟨ret_bool HR.out.symm, ((hbel.trans (hbx.mono (by omega))).trans (b1.mono (by omega))).trans (b2.mono (by omega))⟩
      | true =>
        rw [hnm] at HIS
        cases hct : seen.contains name.data.toList with
        | true =>
          have HR : Hid (diffFrom [] (l.map nm) = false) := Lib.hid (hno (.inr hct))
          have HCT := Lib.hid hct
          clear hx hxm hok hno hseen hnm hct
          go_wp2_with fail
          refine (HNM.out _).mono ?_
          rintro e w1 ⟨rfl, b1⟩
          simp only [World.size_alloc] at b1
          go_wp2_with fail
          refine (HIS.out _).mono ?_
          rintro e w2 ⟨rfl, b2⟩
          have z1 := b1.size
          simp only [World.size_alloc] at z1
          have hlook := (HL.out w2 (b1.trans (b2.mono (by omega)))).look name hsx
          rw [HCT.out] at hlook
          go_wp2_with fail
          go_ret
          exact ⟨ret_bool HR.out.symm, ((hbel.trans (hbx.mono (by omega))).trans (b1.mono (by omega))).trans (b2.mono (by omega))⟩
        | false =>
          have HR : Hid (diffFrom [] ((l.map nm).take (k + 1)) = true) := Lib.hid (hok hnm hct)
          have HM := Lib.hid hseen
          have HCT := Lib.hid hct
          clear hx hxm hok hno hseen hnm hct
          go_wp2_with fail
          refine (HNM.out _).mono ?_
          rintro e w1 ⟨rfl, b1⟩
          simp only [World.size_alloc] at b1
          go_wp2_with fail
          refine (HIS.out _).mono ?_
          rintro e w2 ⟨rfl, b2⟩
          have z1 := b1.size
          have z2 := b2.size
          simp only [World.size_alloc] at z1
          have hs2 := HL.out w2 (b1.trans (b2.mono (by omega)))
          have hlook := hs2.look name hsx
          rw [HCT.out] at hlook
          obtain ⟨w3, hput, hsn2, hg2⟩ := hs2.put (by simp only [maxLen]; omega) name hsx
          go_wp2_with fail
          go_roundw
          case rel =>
            refine ⟨k + 1, by omega, by go_num, HR, ?_, ?_⟩
            · rw [HM.out]; exact hsn2
            · exact (((hbel.trans (hbx.mono (by omega))).trans (b1.mono (by omega))).trans (b2.mono (by omega))).grown hg2 (by omega) (fun b hb => by injection hb with hb; omega)
          case measure => simp [intOf]; omega
    · have hll : (l.map nm).take k = l.map nm := List.take_of_length_le (by simp; omega)
      rw [hll] at hf
      clear hll
      go_wp2_with fail
      go_ret
      exact ⟨ret_bool hf.out.symm, hbel⟩

set_option maxRecDepth 100000 in
set_option maxHeartbeats 1600000 in
theorem diffFn_any (l : List Fn) (v : Value) (w : World) (hi : Nat) (hin : FnIn w hi l v) (hhi : hi ≤ w.heap.size) :
    Calls Tryz.prog 90 #[v, .func (.func 69) #[] #[]] w fun e w' => e = .returned (.bool (diffFrom [] (l.map fnm))) ∧ Below w.heap.size w w' := by
  obtain ⟨A, _, c, us, rfl, rfl, hnc, hc, hrd, hrow⟩ := hin
  have hmm := @run_makeMap Tryz.prog
  go_enter Tryz.func90, Tryz.ntmps90
  go_wp2_with fail
  go_loopw [12] (fun i wr => ∃ k : Nat, k ≤ l.length ∧ i = .int .i64 k ∧ Hid (diffFrom [] ((l.map fnm).take k) = true) ∧ Seen wr w.heap.size k ((l.map fnm).take k) ∧ Below w.heap.size w wr) (fun i _ => l.length - (intOf i).toNat)
  case atStart => exact ⟨0, Nat.zero_le _, rfl, Lib.hid (by simp [diffFrom]), by simpa using Seen.made w, (Below.refl _ _).alloc (Nat.le_refl _) _⟩
  case round =>
    obtain ⟨k, hk, rfl, hf, hsn, hbel⟩ := hrel
    clear hmm
    have hzr := hsn.lt
    by_cases hlt : k < l.length
    · have hx : l[k]? = some l[k] := List.getElem?_eq_getElem hlt
      obtain ⟨ad, u, v, rfl, hPa, hel, hsu, hbv, hsx⟩ := fn_el hrd hrow hx
      obtain ⟨r0, r1, r2, r3, r4⟩ := hel.keep (hbel.block _ (by omega))
      obtain ⟨A1, n1, c1, rfl⟩ := hsu.form
      obtain ⟨A2, n2, c2, rfl⟩ := hbv.form
      generalize l[k] = x at *
      obtain ⟨name, sort, body⟩ := x
      simp only at r0 r1 r2 r3 r4 hsx
      have hxm : (l.map fnm)[k]? = some name.data.toList := by rw [List.getElem?_map, hx]; rfl
      have hok := @diff_succ (l.map fnm) k name.data.toList hxm hf.out
      have hno := @diff_false (l.map fnm) k name.data.toList hxm
      have hseen : (l.map fnm).take (k + 1) = (l.map fnm).take k ++ [name.data.toList] := by rw [List.take_add_one, hxm]; rfl
      generalize (l.map fnm).take k = seen at *
      have hbx : Below wr.heap.size wr (wr.alloc (.cells #[.string name, .slice A1 n1 c1, .int .i64 body.kind, .int .i64 body.num, .slice A2 n2 c2] 64)) := (Below.refl _ _).alloc (Nat.le_refl _) _
      have hbb := Blk.new wr 64 #[.string name, .slice A1 n1 c1, .int .i64 body.kind, .int .i64 body.num, .slice A2 n2 c2]
      have d0 := hbb.cell 0
      have d1 := hbb.cell 1
      have d2 := hbb.cell 2
      have d3 := hbb.cell 3
      have d4 := hbb.cell 4
      clear hel hsu hbv
      have HNM := Lib.hid (fun W => funName_any ⟨name, sort, body⟩ (.slice A1 n1 c1) (.slice A2 n2 c2) ⟨_, _, _, rfl⟩ ⟨_, _, _, rfl⟩ W)
      have HIS := Lib.hid (fun W => isName_any name W hsx)
      have HL : Hid (∀ W, Below (wr.heap.size + 1) (wr.alloc (.cells #[.string name, .slice A1 n1 c1, .int .i64 body.kind, .int .i64 body.num, .slice A2 n2 c2] 64)) W → Seen W w.heap.size k seen) :=
        Lib.hid (fun W hW => hsn.kept (w' := W) ⟨(hbx.trans (hW.mono (by omega))).os, (hbx.trans (hW.mono (by omega))).tape, (hbx.trans (hW.mono (by omega))).output, (hbx.trans (hW.mono (by omega))).size, fun q hq _ => (hbx.trans (hW.mono (by omega))).block q hq⟩ (row := none) (by simp))
      cases hnm : nameB name.data.toList with
      | false =>
        have HR : Hid (diffFrom [] (l.map fnm) = false) := Lib.hid (hno (.inl hnm))
        rw [hnm] at HIS
        clear hx hxm hok hno hseen hnm
        go_wp2_with fail
        refine (HNM.out _).mono ?_
        rintro e w1 ⟨rfl, b1⟩
        simp only [World.size_alloc] at b1
        go_wp2_with fail
        refine (HIS.out _).mono ?_
        rintro e w2 ⟨rfl, b2⟩
        have z1 := b1.size
        simp only [World.size_alloc] at z1
        go_wp2_with fail
        go_ret
        exact ⟨ret_bool HR.out.symm, ((hbel.trans (hbx.mono (by omega))).trans (b1.mono (by omega))).trans (b2.mono (by omega))⟩
      | true =>
        rw [hnm] at HIS
        cases hct : seen.contains name.data.toList with
        | true =>
          have HR : Hid (diffFrom [] (l.map fnm) = false) := Lib.hid (hno (.inr hct))
          have HCT := Lib.hid hct
          clear hx hxm hok hno hseen hnm hct
          go_wp2_with fail
          refine (HNM.out _).mono ?_
          rintro e w1 ⟨rfl, b1⟩
          simp only [World.size_alloc] at b1
          go_wp2_with fail
          refine (HIS.out _).mono ?_
          rintro e w2 ⟨rfl, b2⟩
          have z1 := b1.size
          simp only [World.size_alloc] at z1
          have hlook := (HL.out w2 (b1.trans (b2.mono (by omega)))).look name hsx
          rw [HCT.out] at hlook
          go_wp2_with fail
          go_ret
          exact ⟨ret_bool HR.out.symm, ((hbel.trans (hbx.mono (by omega))).trans (b1.mono (by omega))).trans (b2.mono (by omega))⟩
        | false =>
          have HR : Hid (diffFrom [] ((l.map fnm).take (k + 1)) = true) := Lib.hid (hok hnm hct)
          have HM := Lib.hid hseen
          have HCT := Lib.hid hct
          clear hx hxm hok hno hseen hnm hct
          go_wp2_with fail
          refine (HNM.out _).mono ?_
          rintro e w1 ⟨rfl, b1⟩
          simp only [World.size_alloc] at b1
          go_wp2_with fail
          refine (HIS.out _).mono ?_
          rintro e w2 ⟨rfl, b2⟩
          have z1 := b1.size
          have z2 := b2.size
          simp only [World.size_alloc] at z1
          have hs2 := HL.out w2 (b1.trans (b2.mono (by omega)))
          have hlook := hs2.look name hsx
          rw [HCT.out] at hlook
          obtain ⟨w3, hput, hsn2, hg2⟩ := hs2.put (by simp only [maxLen]; omega) name hsx
          go_wp2_with fail
          go_roundw
          case rel =>
            refine ⟨k + 1, by omega, by go_num, HR, ?_, ?_⟩
            · rw [HM.out]; exact hsn2
            · exact (((hbel.trans (hbx.mono (by omega))).trans (b1.mono (by omega))).trans (b2.mono (by omega))).grown hg2 (by omega) (fun b hb => by injection hb with hb; omega)
          case measure => simp [intOf]; omega
    · have hll : (l.map fnm).take k = l.map fnm := List.take_of_length_le (by simp; omega)
      rw [hll] at hf
      clear hll
      go_wp2_with fail
      go_ret
      exact ⟨ret_bool hf.out.symm, hbel⟩
end Go.Proofs.YtbbejhhohppdhaaGreatDoor

namespace Go.Proofs.YtbbejhhohppdhaaGreatDoor
open Go.RowKit

theorem syOk_diff : ∀ (l : List Sy) (seen : List (List UInt8)), syOkFrom seen l = (diffFrom seen (l.map nm) && l.all fun x => rankB x.rank)
  | [], seen => rfl
  | x :: r, seen => by
    simp only [syOkFrom, List.map_cons, diffFrom, List.all_cons, syOk_diff r, nm]
    cases nameB x.name.data.toList <;> cases seen.contains x.name.data.toList <;> cases rankB x.rank <;> simp

theorem wrongRank_any (name : ByteArray) (rank : Int) (w : World) :
    Calls Tryz.prog 172 #[.agg #[.string name, .int .i64 rank]] w fun e w' => e = .returned (.bool (!rankB rank)) ∧ Below w.heap.size w w' := by
  by_cases h0 : rank < 0
  · have HR : Hid (true = !rankB rank) := Lib.hid (by
      have a : ¬ 0 ≤ rank := by omega
      simp [rankB, a])
    have h0' : decide (rank < 0) = true := decide_eq_true h0
    clear h0
    go_enter Tryz.func172, Tryz.ntmps172
    go_wp2_with fail
    go_ret
    exact ⟨ret_bool HR.out, (Below.refl _ _).alloc (Nat.le_refl _) _⟩
  · have HR : Hid (decide (4 < rank) = !rankB rank) := Lib.hid (by
      have a : 0 ≤ rank := by omega
      by_cases h4 : 4 < rank
      · have b : ¬ rank ≤ 4 := by omega
        simp [rankB, h4, b]
      · have b : rank ≤ 4 := by omega
        simp [rankB, h4, a, b])
    have h0' : decide (rank < 0) = false := decide_eq_false h0
    clear h0
    go_enter Tryz.func172, Tryz.ntmps172
    go_wp2_with fail
    go_ret
    exact ⟨ret_bool HR.out, (Below.refl _ _).alloc (Nat.le_refl _) _⟩

def rankA (x : Sy) : Bool := rankB x.rank
theorem rankA_succ {l : List Sy} {k : Nat} {x : Sy} (hx : l[k]? = some x) : (l.take (k + 1)).all rankA = ((l.take k).all rankA && rankB x.rank) := by
  rw [List.take_add_one, hx, List.all_append]; simp [rankA]
theorem rankA_false {l : List Sy} {k : Nat} {x : Sy} (hx : l[k]? = some x) (h : rankB x.rank = false) : l.all rankA = false := by
  rw [Bool.eq_false_iff]
  intro hh
  rw [List.all_eq_true] at hh
  have := hh x (List.mem_of_getElem? hx)
  rw [rankA, h] at this; cases this

set_option maxHeartbeats 800000 in
theorem indexSy_any (l : List Sy) (v : Value) (w : World) (P : Nat → Prop) (hin : SyIn w P l v) (hold : Old P w) :
    Calls Tryz.prog 199 #[v, .func (.func 172) #[] #[]] w fun e w' => ∃ i : Int, e = .returned (.int .i64 i) ∧ decide (0 ≤ i) = (!l.all rankA) ∧ Below w.heap.size w w' := by
  obtain ⟨A, _, c, rfl, rfl, hnc, hc, hrd, hsz⟩ := hin
  go_enter Tryz.func199, Tryz.ntmps199
  go_wp2_with fail
  go_loopw [8] (fun i wr => ∃ k : Nat, k ≤ l.length ∧ i = .int .i64 k ∧ Hid ((l.take k).all rankA = true) ∧ Below w.heap.size w wr) (fun i _ => l.length - (intOf i).toNat)
  case atStart => exact ⟨0, Nat.zero_le _, rfl, Lib.hid (by simp), Below.refl _ _⟩
  case round =>
    obtain ⟨k, hk, rfl, hf, hbel⟩ := hrel
    have hzr := hbel.size
    by_cases hlt : k < l.length
    · have hx : l[k]? = some l[k] := List.getElem?_eq_getElem hlt
      obtain ⟨ad, rfl, hPa, hel⟩ := sy_el hrd hx
      obtain ⟨r0, r1⟩ := hel.keep (hbel.block _ (hold _ hPa))
      have hsucc := rankA_succ hx
      have hfin := @rankA_false l k l[k] hx
      rw [hf.out, Bool.true_and] at hsucc
      generalize l[k] = x at *
      obtain ⟨name, rank⟩ := x
      simp only at r0 r1
      have HC := Lib.hid (fun W => wrongRank_any name rank W)
      cases hok : rankB rank with
      | true =>
        have HS := Lib.hid (hsucc.trans hok)
        rw [hok] at HC
        clear hx hsucc hfin hok hel
        go_wp2_with fail
        refine (HC.out _).mono ?_
        rintro e w1 ⟨rfl, hb1⟩
        go_wp2_with fail
        go_roundw
        case rel => exact ⟨k + 1, by omega, by go_num, HS, hbel.trans (hb1.mono (by omega))⟩
        case measure => simp [intOf]; omega
      | false =>
        have HS := Lib.hid (hfin hok)
        rw [hok] at HC
        clear hx hsucc hfin hok hel
        go_wp2_with fail
        refine (HC.out _).mono ?_
        rintro e w1 ⟨rfl, hb1⟩
        go_wp2_with fail
        go_ret
        exact ⟨(k : Int), rfl, by rw [HS.out]; simp, hbel.trans (hb1.mono (by omega))⟩
    · have hll : l.take k = l := List.take_of_length_le (by omega)
      rw [hll] at hf
      clear hll
      go_wp2_with fail
      go_ret
      exact ⟨-1, rfl, by rw [hf.out]; rfl, hbel⟩

set_option maxHeartbeats 800000 in
theorem containsSy_any (l : List Sy) (v : Value) (w : World) (P : Nat → Prop) (hin : SyIn w P l v) (hold : Old P w) :
    Calls Tryz.prog 171 #[v, .func (.func 172) #[] #[]] w fun e w' => e = .returned (.bool (!l.all rankA)) ∧ Below w.heap.size w w' := by
  have HC := Lib.hid (indexSy_any l v w P hin hold)
  obtain ⟨A, n, c, rfl, _⟩ := hin
  go_enter Tryz.func171, Tryz.ntmps171
  go_wp2_with fail
  refine HC.out.mono ?_
  rintro e w1 ⟨i, rfl, hi1, hb1⟩
  have HI := Lib.hid hi1
  clear hi1
  go_wp2_with fail
  go_ret
  exact ⟨ret_bool HI.out, hb1⟩

set_option maxHeartbeats 800000 in
theorem areSymbols_any (l : List Sy) (v : Value) (w : World) (P : Nat → Prop) (hin : SyIn w P l v) (hold : Old P w) :
    Calls Tryz.prog 134 #[v] w fun e w' => e = .returned (.bool (symsB l)) ∧ Below w.heap.size w w' := by
  have HD := Lib.hid (diffSy_any l v w P hin hold)
  have HC := Lib.hid (fun W (hb : Below w.heap.size w W) => containsSy_any l v W P (hin.old hold hb) (hold.bel hb))
  have hS : symsB l = (decide (l.length ≤ 24) && (diffFrom [] (l.map nm) && l.all rankA)) := by rw [symsB, syOk_diff]; rfl
  obtain ⟨A, _, c, rfl, rfl, hnc, hc, _⟩ := hin
  by_cases h24 : l.length ≤ 24
  · cases hd : diffFrom [] (l.map nm) with
    | false =>
      have HF : Hid (symsB l = false) := Lib.hid (by rw [hS, hd]; simp)
      rw [hd] at HD
      clear hd hS
      go_enter Tryz.func134, Tryz.ntmps134
      go_wp2_with fail
      refine HD.out.mono ?_
      rintro e w1 ⟨rfl, b1⟩
      go_wp2_with fail
      go_ret
      exact ⟨ret_bool HF.out.symm, b1⟩
    | true =>
      have HF : Hid (l.all rankA = symsB l) := Lib.hid (by rw [hS, hd]; simp [h24])
      rw [hd] at HD
      clear hd hS
      go_enter Tryz.func134, Tryz.ntmps134
      go_wp2_with fail
      refine HD.out.mono ?_
      rintro e w1 ⟨rfl, b1⟩
      have z1 := b1.size
      go_wp2_with fail
      refine (HC.out w1 b1).mono ?_
      rintro e w2 ⟨rfl, b2⟩
      go_wp2_with fail
      go_ret
      exact ⟨ret_bool HF.out, b1.trans (b2.mono (by omega))⟩
  · have HF : Hid (symsB l = false) := Lib.hid (by simp [symsB, h24])
    have h24' : 24 < (l.length : Int) := by omega
    clear hS
    go_enter Tryz.func134, Tryz.ntmps134
    go_wp2_with fail
    go_ret
    exact ⟨ret_bool HF.out.symm, Below.refl _ _⟩

theorem nm_eq {a b : ByteArray} (h : a.data.toList = b.data.toList) : a = b := by
  cases a; cases b
  simp only at h
  congr 1
  exact Array.toList_inj.1 h
theorem seen_succ {l : List Sy} {j : Nat} {y : Sy} (hy : l[j]? = some y) {t : List UInt8} (h : ((l.take j).map nm).contains t = false) (hne : nm y ≠ t) : ((l.take (j + 1)).map nm).contains t = false := by
  rw [List.take_add_one, hy, List.map_append]
  rw [Bool.eq_false_iff] at h ⊢
  intro hh
  simp only [List.contains_iff_mem, List.mem_append, Option.toList, List.map_cons, List.map_nil, List.mem_singleton] at hh h
  rcases hh with hh | hh
  · exact h (List.contains_iff_mem.2 hh)
  · exact hne hh.symm
theorem seen_hit {l : List Sy} {j k : Nat} {y : Sy} (hy : l[j]? = some y) (hjk : j < k) {t : List UInt8} (he : nm y = t) : ((l.take k).map nm).contains t = true := by
  rw [List.contains_iff_mem, List.mem_map]
  refine ⟨y, ?_, he⟩
  rw [List.mem_iff_getElem?]
  exact ⟨j, by rw [List.getElem?_take, if_pos hjk, hy]⟩

set_option maxRecDepth 100000 in
set_option maxHeartbeats 1600000 in
theorem refSymbols_any (l : List Sy) (v : Value) (w : World) (P : Nat → Prop) (hin : SyIn w P l v) (hold : Old P w) :
    Calls Tryz.prog 77 #[v] w fun e w' => e = .returned (.bool (symsB l)) ∧ Below w.heap.size w w' := by
  obtain ⟨A, _, c, rfl, rfl, hnc, hc, hrd, hsz⟩ := hin
  by_cases h24 : l.length ≤ 24
  · have HF0 : Hid (symsB l = syOkFrom [] l) := Lib.hid (by simp [symsB, h24])
    go_enter Tryz.func77, Tryz.ntmps77
    go_wp2_with fail
    go_loopw [12] (fun i wr => ∃ k : Nat, k ≤ l.length ∧ i = .int .i64 k ∧ Hid (syOkFrom [] (l.take k) = true) ∧ Below w.heap.size w wr) (fun i _ => l.length - (intOf i).toNat)
    case atStart => exact ⟨0, Nat.zero_le _, rfl, Lib.hid (by simp [syOkFrom]), Below.refl _ _⟩
    case round =>
      obtain ⟨k, hk, rfl, hf, hbel⟩ := hrel
      have hzr := hbel.size
      by_cases hlt : k < l.length
      · have hx : l[k]? = some l[k] := List.getElem?_eq_getElem hlt
        obtain ⟨ad, rfl, hPa, hel⟩ := sy_el hrd hx
        obtain ⟨r0, r1⟩ := hel.keep (hbel.block _ (hold _ hPa))
        have hsx := hsz l[k] (List.getElem_mem hlt)
        have hbx : Below wr.heap.size wr (wr.alloc (.cells #[.string l[k].name, .int .i64 l[k].rank] 98)) := (Below.refl _ _).alloc (Nat.le_refl _) _
        have hbb := Blk.new wr 98 #[.string l[k].name, .int .i64 l[k].rank]
        have hok := @syOk_succ l k l[k] hx hf.out
        have hno := @syOk_false l k l[k] hx
        unfold syOk1 at hok hno
        generalize hxe : l[k] = x at *
        clear hxe
        obtain ⟨name, rank⟩ := x
        have hnmx : nm ⟨name, rank⟩ = name.data.toList := rfl
        rw [hnmx] at hok hno
        simp only at *
        have HN := Lib.hid (refName_any name (wr.alloc (.cells #[.string name, .int .i64 rank] 98)) hsx)
        cases hnm : nameB name.data.toList with
        | false =>
          have HR : Hid (syOkFrom [] l = false) := Lib.hid (hno (by rw [hnm]; rfl))
          rw [hnm] at HN
          clear hx hel hok hno hnm
          go_wp2_with (go_at_call 73; refine HN.out.mono ?_; rintro e w' ⟨rfl, rfl⟩)
          go_ret
          exact ⟨ret_bool (by rw [HF0.out, HR.out]), hbel.trans (hbx.mono (by omega))⟩
        | true =>
          rw [hnm] at HN
          by_cases h0 : 0 ≤ rank
          · by_cases h4 : rank ≤ 4
            · have HOK := Lib.hid (fun (h : ((l.take k).map nm).contains name.data.toList = false) => hok (by rw [hnm, h]; simp [rankB, h0, h4]))
              have HNO := Lib.hid (fun (h : ((l.take k).map nm).contains name.data.toList = true) => hno (by rw [h]; simp))
              clear hx hel hok hno hnm
              go_wp2_with (go_at_call 73; refine HN.out.mono ?_; rintro e w' ⟨rfl, rfl⟩)
              go_loopw [35] (fun i wq => ∃ j : Nat, j ≤ k ∧ i = .int .i64 j ∧ Hid (((l.take j).map nm).contains name.data.toList = false) ∧ Blk wq wr.heap.size 98 #[.string name, .int .i64 rank] ∧ Below w.heap.size w wq) (fun i _ => k - (intOf i).toNat)
              case atStart => exact ⟨0, Nat.zero_le _, rfl, Lib.hid (by simp), hbb, hbel.trans (hbx.mono (by omega))⟩
              case round =>
                obtain ⟨j, hj, rfl, hg, hbq, hbelq⟩ := hrel
                have hzq := hbelq.size
                have hlq := hbq.lt
                have c0 := hbq.cell 0
                by_cases hltj : j < k
                · have hltl : j < l.length := by omega
                  have hy : l[j]? = some l[j] := List.getElem?_eq_getElem hltl
                  obtain ⟨ad2, hAd, hPa2, hel2⟩ := sy_el hrd hy
                  obtain ⟨q0, q1⟩ := hel2.keep (hbelq.block _ (hold _ hPa2))
                  have hAd := Option.some.inj hAd
                  subst hAd
                  have hby : Below wr.heap.size wr (wr.alloc (.cells #[.string l[j].name, .int .i64 l[j].rank] 98)) := (Below.refl _ _).alloc (Nat.le_refl _) _
                  have hsuc := @seen_succ l j l[j] hy name.data.toList hg.out
                  have hhit := @seen_hit l j k l[j] hy hltj name.data.toList
                  generalize l[j] = y at *
                  obtain ⟨name2, rank2⟩ := y
                  have hnmy : nm ⟨name2, rank2⟩ = name2.data.toList := rfl
                  rw [hnmy] at hsuc hhit
                  simp only at *
                  by_cases he : name = name2
                  · subst he
                    have HR : Hid (syOkFrom [] l = false) := Lib.hid (HNO.out (hhit rfl))
                    clear hy hel2 hsuc hhit hnmy hnmx
                    go_wp2_with fail
                    go_ret
                    exact ⟨ret_bool (by rw [HF0.out, HR.out]), hbelq.trans (hby.mono (by omega))⟩
                  · have HS : Hid (((l.take (j + 1)).map nm).contains name.data.toList = false) := Lib.hid (hsuc (fun e => he (nm_eq e.symm)))
                    have e1 : (name.toList == name2.toList) = false := beq_false_of_ne (fun e => he (nm_eq (by rw [← ByteArray.toList_eq, ← ByteArray.toList_eq]; exact e)))
                    clear hy hel2 hsuc hhit hnmy hnmx he
                    go_wp2_with fail
                    go_roundw
                    case rel => exact ⟨j + 1, by omega, by go_num, HS, hbq.alloc _, hbelq.trans (hby.mono (by omega))⟩
                    case measure => simp [intOf]; omega
                · have hjk : j = k := by omega
                  have hgk : ((l.take k).map nm).contains name.data.toList = false := by rw [← hjk]; exact hg.out
                  have HR := Lib.hid (HOK.out hgk)
                  clear hjk hgk hnmx
                  go_wp2_with fail
                  go_roundw
                  case rel => exact ⟨k + 1, by omega, by go_num, HR, hbelq⟩
                  case measure => simp [intOf]; omega
            · have HR : Hid (syOkFrom [] l = false) := Lib.hid (hno (by simp [rankB, h4]))
              have h4' : 4 < rank := by omega
              clear hx hel hok hno hnm
              go_wp2_with (go_at_call 73; refine HN.out.mono ?_; rintro e w' ⟨rfl, rfl⟩)
              go_ret
              exact ⟨ret_bool (by rw [HF0.out, HR.out]), hbel.trans (hbx.mono (by omega))⟩
          · have HR : Hid (syOkFrom [] l = false) := Lib.hid (hno (by simp [rankB, h0]))
            have h0' : rank < 0 := by omega
            clear hx hel hok hno hnm
            go_wp2_with (go_at_call 73; refine HN.out.mono ?_; rintro e w' ⟨rfl, rfl⟩)
            go_ret
            exact ⟨ret_bool (by rw [HF0.out, HR.out]), hbel.trans (hbx.mono (by omega))⟩
      · have hll : l.take k = l := List.take_of_length_le (by omega)
        rw [hll] at hf
        clear hll
        go_wp2_with fail
        go_ret
        exact ⟨ret_bool (by rw [HF0.out, hf.out]), hbel⟩
  · have HF0 : Hid (symsB l = false) := Lib.hid (by simp [symsB, h24])
    have h24' : 24 < (l.length : Int) := by omega
    go_enter Tryz.func77, Tryz.ntmps77
    go_wp2_with fail
    go_ret
    exact ⟨ret_bool HF0.out.symm, Below.refl _ _⟩
end Go.Proofs.YtbbejhhohppdhaaGreatDoor

namespace Go.Proofs.YtbbejhhohppdhaaGreatDoor
open Go.RowKit

theorem errOf_ne (b : Bool) : decide (errOf b = 0) = b := by cases b <;> rfl

set_option maxHeartbeats 400000 in
theorem areSorts1_any (s : S) (v : Value) (w : World) (lo hi : Nat) (hin : s.In w lo hi v) (hhi : hi ≤ w.heap.size) :
    Calls Tryz.prog 174 #[.agg #[v]] w fun e w' => e = .returned (.bool (!s.ok)) ∧ Below w.heap.size w w' := by
  obtain ⟨A, n, c, rfl⟩ := hin.form
  have hw1 : Below w.heap.size w (w.alloc (.cells #[.slice A n c] 62)) := (Below.refl _ _).alloc (Nat.le_refl _) _
  have HC := Lib.hid (check_any s _ _ lo hi (hin.below hw1 hhi) (by simp; omega))
  cases hok : s.ok with
  | true =>
    rw [hok] at HC
    simp only [errOf, if_true] at HC
    clear hok
    go_enter Tryz.func174, Tryz.ntmps174
    go_wp2_with fail
    refine HC.out.mono ?_
    rintro e w1 ⟨rfl, hb1⟩
    simp only [World.size_alloc] at hb1
    go_wp2_with fail
    go_ret
    exact ⟨rfl, hw1.trans (hb1.mono (by omega))⟩
  | false =>
    rw [hok] at HC
    simp only [errOf] at HC
    clear hok
    go_enter Tryz.func174, Tryz.ntmps174
    go_wp2_with fail
    refine HC.out.mono ?_
    rintro e w1 ⟨rfl, hb1⟩
    simp only [World.size_alloc] at hb1
    go_wp2_with fail
    go_ret
    exact ⟨rfl, hw1.trans (hb1.mono (by omega))⟩

theorem allok_take_succ {l : List S} {k : Nat} {x : S} (hx : l[k]? = some x) : (l.take (k + 1)).all S.ok = ((l.take k).all S.ok && x.ok) := by
  rw [List.take_add_one, hx, List.all_append]; simp
theorem allok_false {l : List S} {k : Nat} {x : S} (hx : l[k]? = some x) (h : x.ok = false) : l.all S.ok = false := by
  rw [Bool.eq_false_iff]
  intro hh
  rw [List.all_eq_true] at hh
  have := hh x (List.mem_of_getElem? hx)
  rw [h] at this; cases this

set_option maxHeartbeats 800000 in
theorem indexFunc_any (l : List S) (A : Option Addr) (c : Nat) (w : World) (lo hi : Nat) (hlc : l.length ≤ c) (hc : c ≤ 9223372036854775807) (hall : S.All w lo hi A 0 l) (hhi : hi ≤ w.heap.size) :
    Calls Tryz.prog 200 #[.slice A l.length c, .func (.func 174) #[] #[]] w fun e w' => ∃ i : Int, e = .returned (.int .i64 i) ∧ decide (0 ≤ i) = (!l.all S.ok) ∧ Below w.heap.size w w' := by
  go_enter Tryz.func200, Tryz.ntmps200
  go_wp2_with fail
  go_loopw [8] (fun i wr => ∃ k : Nat, k ≤ l.length ∧ i = .int .i64 k ∧ Hid ((l.take k).all S.ok = true) ∧ Below w.heap.size w wr) (fun i _ => l.length - (intOf i).toNat)
  case atStart => exact ⟨0, Nat.zero_le _, rfl, Lib.hid (by simp), Below.refl _ _⟩
  case round =>
    obtain ⟨k, hk, rfl, hf, hbel⟩ := hrel
    have hzr := hbel.size
    by_cases hlt : k < l.length
    · have hx : l[k]? = some l[k] := List.getElem?_eq_getElem hlt
      obtain ⟨ad, u, rfl, _, hadb, hcell, hinx⟩ := hall.at_ hx
      rw [Nat.zero_add] at hcell
      have hcellr : wr.cell? (ad.add k) = some u := (hbel.cell (by rw [block_of_add]; omega)).trans hcell
      have hsucc := allok_take_succ hx
      have hfin := @allok_false l k l[k] hx
      rw [hf.out, Bool.true_and] at hsucc
      have HC := Lib.hid (areSorts1_any l[k] u wr lo hi (hinx.below hbel hhi) (by omega))
      generalize l[k] = x at *
      obtain ⟨A', n', c', rfl⟩ := hinx.form
      cases hok : x.ok with
      | true =>
        rw [hok] at HC hsucc
        have HS := Lib.hid hsucc
        clear hx hcell hsucc hfin hok
        go_wp2_with fail
        refine HC.out.mono ?_
        rintro e w1 ⟨rfl, hb1⟩
        go_wp2_with fail
        go_roundw
        case rel => exact ⟨k + 1, by omega, by go_num, HS, hbel.trans (hb1.mono (by omega))⟩
        case measure => simp [intOf]; omega
      | false =>
        rw [hok] at HC
        have HS := Lib.hid (hfin hok)
        clear hx hcell hsucc hfin hok
        go_wp2_with fail
        refine HC.out.mono ?_
        rintro e w1 ⟨rfl, hb1⟩
        go_wp2_with fail
        go_ret
        exact ⟨(k : Int), rfl, by rw [HS.out]; simp, hbel.trans (hb1.mono (by omega))⟩
    · have hll : l.take k = l := List.take_of_length_le (by omega)
      rw [hll] at hf
      clear hll
      go_wp2_with fail
      go_ret
      exact ⟨-1, rfl, by rw [hf.out]; rfl, hbel⟩

set_option maxHeartbeats 800000 in
theorem containsFunc_any (l : List S) (v : Value) (w : World) (lo hi : Nat) (hin : (S.mk l).In w lo hi v) (hhi : hi ≤ w.heap.size) :
    Calls Tryz.prog 173 #[v, .func (.func 174) #[] #[]] w fun e w' => e = .returned (.bool (!l.all S.ok)) ∧ Below w.heap.size w w' := by
  simp only [S.In] at hin
  obtain ⟨A, _, c, rfl, rfl, hnc, hc, hall⟩ := hin
  have HC := Lib.hid (indexFunc_any l A c w lo hi hnc hc hall hhi)
  clear hall
  go_enter Tryz.func173, Tryz.ntmps173
  go_wp2_with fail
  refine HC.out.mono ?_
  rintro e w1 ⟨i, rfl, hi1, hb1⟩
  have HI := Lib.hid hi1
  clear hi1
  go_wp2_with fail
  go_ret
  exact ⟨ret_bool HI.out, hb1⟩

/-- Sorts that are all valid, at most m. -/
def sortsB (m : Nat) (l : List S) : Bool := decide (l.length ≤ m) && l.all S.ok
set_option maxHeartbeats 800000 in
theorem areSorts_any (m : Nat) (l : List S) (v : Value) (w : World) (lo hi : Nat) (hin : (S.mk l).In w lo hi v) (hhi : hi ≤ w.heap.size) :
    Calls Tryz.prog 135 #[v, .int .i64 (m : Int)] w fun e w' => e = .returned (.bool (sortsB m l)) ∧ Below w.heap.size w w' := by
  have HC := Lib.hid (containsFunc_any l v w lo hi hin hhi)
  simp only [S.In] at hin
  obtain ⟨A, _, c, rfl, rfl, hnc, hc, hall⟩ := hin
  clear hall
  by_cases hlm : l.length ≤ m
  · have HF : Hid ((!!l.all S.ok) = sortsB m l) := Lib.hid (by simp [sortsB, hlm])
    cases hok : l.all S.ok with
    | true =>
      rw [hok] at HC HF
      clear hok
      go_enter Tryz.func135, Tryz.ntmps135
      go_wp2_with fail
      refine HC.out.mono ?_
      rintro e w1 ⟨rfl, hb1⟩
      go_wp2_with fail
      go_ret
      exact ⟨ret_bool HF.out, hb1⟩
    | false =>
      rw [hok] at HC HF
      clear hok
      go_enter Tryz.func135, Tryz.ntmps135
      go_wp2_with fail
      refine HC.out.mono ?_
      rintro e w1 ⟨rfl, hb1⟩
      go_wp2_with fail
      go_ret
      exact ⟨ret_bool HF.out, hb1⟩
  · have HF : Hid (false = sortsB m l) := Lib.hid (by simp [sortsB, hlm])
    have hlm' : m < l.length := by omega
    go_enter Tryz.func135, Tryz.ntmps135
    go_wp2_with fail
    go_ret
    exact ⟨ret_bool HF.out, Below.refl _ _⟩

/-- A place: its symbols, and the sorts of its functions and of its parameters. -/
structure Pl where
  syms : List Sy
  funs : List S
  params : List S
def Pl.ok (p : Pl) : Bool := symsB p.syms && (sortsB 64 p.funs && sortsB 8 p.params)
/-- A place's three cells. -/
structure PlIn (w : World) (lo hi : Nat) (p : Pl) (v0 v1 v2 : Value) : Prop where
  s : SyIn w (fun b => b < hi) p.syms v0
  f : (S.mk p.funs).In w lo hi v1
  r : (S.mk p.params).In w lo hi v2
theorem SyIn.form {w : World} {P : Nat → Prop} {l : List Sy} {v : Value} (h : SyIn w P l v) : ∃ A n c, v = .slice A n c := by
  obtain ⟨A, n, c, h1, _⟩ := h
  exact ⟨A, n, c, h1⟩
theorem PlIn.below {w w' : World} {lo hi B : Nat} {p : Pl} {v0 v1 v2 : Value} (h : PlIn w lo hi p v0 v1 v2) (hb : Below B w w') (hhi : hi ≤ B) : PlIn w' lo hi p v0 v1 v2 := by
  refine ⟨?_, h.f.below hb hhi, h.r.below hb hhi⟩
  obtain ⟨A, n, c, h1, h2, h3, h4, h5, h6⟩ := h.s
  exact ⟨A, n, c, h1, h2, h3, h4, h5.keep (fun b hb' => hb.block b (by omega)), h6⟩

/-- A place and its box, kept. -/
structure PlKept (ty : Nat) (p : Pl) (v0 v1 v2 : Value) (lo hi B : Nat) (w0 w : World) : Prop where
  b : Blk w B ty #[v0, v1, v2]
  i : PlIn w lo hi p v0 v1 v2
  hi : hi ≤ w.heap.size
  bel : Below B w0 w
theorem PlKept.next {ty : Nat} {p : Pl} {v0 v1 v2 : Value} {lo hi B : Nat} {w0 w w' : World} (h : PlKept ty p v0 v1 v2 lo hi B w0 w) (hb : Below w.heap.size w w') : PlKept ty p v0 v1 v2 lo hi B w0 w' :=
  ⟨h.b.below hb h.b.lt, h.i.below hb h.hi, by have := h.hi; have := hb.size; omega, h.bel.trans (hb.mono (by have := h.b.lt; omega))⟩
theorem PlKept.start {ty : Nat} {p : Pl} {v0 v1 v2 : Value} {lo hi : Nat} {w : World} (h : PlIn w lo hi p v0 v1 v2) (hhi : hi ≤ w.heap.size) : PlKept ty p v0 v1 v2 lo hi w.heap.size w (w.alloc (.cells #[v0, v1, v2] ty)) := by
  have hb : Below w.heap.size w (w.alloc (.cells #[v0, v1, v2] ty)) := (Below.refl _ _).alloc (Nat.le_refl _) _
  exact ⟨Blk.new _ _ _, h.below hb hhi, by simp; omega, hb⟩

def argErr (b : Bool) : Int := if b then 0 else 2
set_option maxHeartbeats 1600000 in
theorem placeCheck_any (p : Pl) (v0 v1 v2 : Value) (w : World) (lo hi : Nat) (hin : PlIn w lo hi p v0 v1 v2) (hhi : hi ≤ w.heap.size) :
    Calls Tryz.prog 93 #[.agg #[v0, v1, v2]] w fun e w' => e = .returned (.int .i64 (argErr p.ok)) ∧ Below w.heap.size w w' := by
  have k0 := PlKept.start (ty := 76) hin hhi
  obtain ⟨A0, n0, c0, rfl⟩ := hin.s.form
  obtain ⟨A1, n1, c1, rfl⟩ := hin.f.form
  obtain ⟨A2, n2, c2, rfl⟩ := hin.r.form
  have HS := Lib.hid (areSymbols_any p.syms _ _ _ k0.i.s (fun b hb => by have := k0.hi; omega))
  cases h1 : symsB p.syms with
  | false =>
    have HF : Hid (p.ok = false) := Lib.hid (by simp [Pl.ok, h1])
    rw [h1] at HS
    clear h1
    go_enter Tryz.func93, Tryz.ntmps93
    go_wp2_with fail
    refine HS.out.mono ?_
    rintro e w1 ⟨rfl, hb1⟩
    have k1 := k0.next hb1
    go_wp2_with fail
    go_ret
    exact ⟨by rw [HF.out]; rfl, k1.bel⟩
  | true =>
    rw [h1] at HS
    have HX1 := Lib.hid h1
    clear h1
    go_enter Tryz.func93, Tryz.ntmps93
    go_wp2_with fail
    refine HS.out.mono ?_
    rintro e w1 ⟨rfl, hb1⟩
    have k1 := k0.next hb1
    clear k0 hb1 HS
    have d0 := k1.b.cell 0
    have d1 := k1.b.cell 1
    have d2 := k1.b.cell 2
    have HT := Lib.hid (areSorts_any 64 p.funs _ _ lo hi k1.i.f k1.hi)
    cases h2 : sortsB 64 p.funs with
    | false =>
      have HF : Hid (p.ok = false) := Lib.hid (by simp [Pl.ok, h2])
      rw [h2] at HT
      clear h2
      go_wp2_with fail
      refine HT.out.mono ?_
      rintro e w2 ⟨rfl, hb2⟩
      have k2 := k1.next hb2
      clear d0 d1 d2
      go_wp2_with fail
      go_ret
      exact ⟨by rw [HF.out]; rfl, k2.bel⟩
    | true =>
      rw [h2] at HT
      have HX2 := Lib.hid h2
      clear h2
      go_wp2_with fail
      refine HT.out.mono ?_
      rintro e w2 ⟨rfl, hb2⟩
      have k2 := k1.next hb2
      clear d0 d1 d2 k1 hb2 HT
      have d0 := k2.b.cell 0
      have d1 := k2.b.cell 1
      have d2 := k2.b.cell 2
      have HU := Lib.hid (areSorts_any 8 p.params _ _ lo hi k2.i.r k2.hi)
      cases h3 : sortsB 8 p.params with
      | false =>
        have HF : Hid (p.ok = false) := Lib.hid (by simp [Pl.ok, h3])
        rw [h3] at HU
        clear h3
        go_wp2_with fail
        refine HU.out.mono ?_
        rintro e w3 ⟨rfl, hb3⟩
        have k3 := k2.next hb3
        clear d0 d1 d2
        go_wp2_with fail
        go_ret
        exact ⟨by rw [HF.out]; rfl, k3.bel⟩
      | true =>
        have HF : Hid (p.ok = true) := Lib.hid (by simp [Pl.ok, h3, HX1.out, HX2.out])
        rw [h3] at HU
        clear h3
        go_wp2_with fail
        refine HU.out.mono ?_
        rintro e w3 ⟨rfl, hb3⟩
        have k3 := k2.next hb3
        clear d0 d1 d2
        go_wp2_with fail
        go_ret
        exact ⟨by rw [HF.out]; rfl, k3.bel⟩
end Go.Proofs.YtbbejhhohppdhaaGreatDoor
