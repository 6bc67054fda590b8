/-
  The reference's reading of schemes: begins, word, number, index.
-/
import Derived.Test.YtbbejhhohppdhaaGreatDoorGB
import Derived.Test.YtbbejhhohppdhaaGreatDoorGL
import Derived.Test.YtbbejhhohppdhaaGreatDoorGK
namespace Go.Proofs.YtbbejhhohppdhaaGreatDoor
open Go.RowKit

set_option maxHeartbeats 400000 in
theorem begins3_any (t p : List UInt8) (a : Nat) (w : World) (ha : a ≤ t.length + 1) (ht : t.length ≤ 65536) (hp : 1 ≤ p.length ∧ p.length ≤ 10) :
    Calls Tryz.prog 37 #[.string ⟨t.toArray⟩, .int .i64 (a : Int), .string ⟨p.toArray⟩] w fun e w' => e = .returned (.bool (strip p (t.drop a)).isSome) ∧ w = w' := by
  by_cases h : a ≤ t.length ∧ p.length ≤ t.length - a
  · have HF := Lib.hid (strip_take p (t.drop a))
    obtain ⟨h1, h2⟩ := h
    go_enter Tryz.func37, Tryz.ntmps37
    go_wp2_with fail
    go_ret
    refine ⟨ret_bool ?_, rfl⟩
    rw [HF.out]
    exact begins_eq t p a
  · have hF := strip_short (p := p) (t := t.drop a) (by rw [List.length_drop]; omega)
    have HF : Hid (false = (strip p (t.drop a)).isSome) := Lib.hid (by rw [hF]; rfl)
    have h3 : ¬ (p.length : Int) ≤ (t.length : Int) - (a : Int) := by omega
    clear hF
    go_enter Tryz.func37, Tryz.ntmps37
    go_wp2_with fail
    go_ret
    exact ⟨ret_bool HF.out, rfl⟩
/-- Where a run ends. -/
theorem run_stop {p : UInt8 → Bool} : ∀ {l : List UInt8} {k : Nat} {c : UInt8}, (l.take k).all p = true → l[k]? = some c → p c = false → (l.takeWhile p).length = k
  | [], k, c, _, h, _ => by simp at h
  | a :: r, 0, c, _, h, hc => by simp at h; subst h; simp [hc]
  | a :: r, k + 1, c, h, hx, hc => by
    simp at hx
    simp only [List.take_succ_cons, List.all_cons, Bool.and_eq_true] at h
    simp [h.1, run_stop h.2 hx hc]
theorem run_end {p : UInt8 → Bool} {l : List UInt8} {k : Nat} (h : (l.take k).all p = true) (hk : l.length ≤ k) : (l.takeWhile p).length = l.length := by
  rw [List.take_of_length_le hk] at h
  clear hk
  induction l with
  | nil => simp
  | cons a r ih =>
    simp only [List.all_cons, Bool.and_eq_true] at h
    simp only [List.takeWhile_cons, h.1, if_true, List.length_cons]
    rw [ih h.2]
theorem run_more {p : UInt8 → Bool} {l : List UInt8} {k : Nat} {c : UInt8} (h : (l.take k).all p = true) (hx : l[k]? = some c) (hc : p c = true) : (l.take (k + 1)).all p = true := by
  rw [List.take_add_one, hx, List.all_append, h]
  simp [hc]
set_option maxRecDepth 100000 in
set_option maxHeartbeats 1600000 in
theorem word3_any (t : List UInt8) (a : Nat) (w : World) (ha : a ≤ t.length) (ht : t.length ≤ 65536) :
    Calls Tryz.prog 72 #[.string ⟨t.toArray⟩, .int .i64 (a : Int)] w fun e w' => e = .returned (.int .i64 ((a + ((t.drop a).takeWhile signB).length : Nat) : Int)) ∧ Below w.heap.size w w' := by
  have hsz : (⟨t.toArray⟩ : ByteArray).size = t.length := rfl
  go_enter Tryz.func72, Tryz.ntmps72
  go_wp2_with fail
  go_loopw [1] (fun i wr => ∃ k : Nat, a + k ≤ t.length ∧ i = .int .i64 ((a + k : Nat) : Int) ∧ Hid (((t.drop a).take k).all signB = true) ∧ Below w.heap.size w wr) (fun i _ => t.length - (Go.RowKit.intOf i).toNat)
  case atStart => exact ⟨0, by omega, by simp, Lib.hid (by simp), Below.refl _ _⟩
  case round =>
    obtain ⟨k, hk, rfl, hf, hbel⟩ := hrel
    by_cases hlt : a + k < t.length
    · have hx := bytes_at (⟨t.toArray⟩ : ByteArray) (a + k) hlt
      have hxd : (t.drop a)[k]? = some ((⟨t.toArray⟩ : ByteArray)[a + k]'hlt) := by rw [List.getElem?_drop]; exact hx
      have HGO := Lib.hid (fun hc => run_more hf.out hxd hc)
      have HST := Lib.hid (fun hc => run_stop hf.out hxd hc)
      clear hx hxd
      have hlt' : ((a + k : Nat) : Int) < (t.length : Int) := by omega
      have hge' : (0 : Int) ≤ ((a + k : Nat) : Int) := by omega
      by_cases a1 : 97 ≤ (((⟨t.toArray⟩ : ByteArray)[a + k]'hlt).toNat : Int)
      · by_cases a2 : (((⟨t.toArray⟩ : ByteArray)[a + k]'hlt).toNat : Int) ≤ 122
        · skip
          have HR : Hid (((t.drop a).take (k + 1)).all signB = true) := Lib.hid (HGO.out (by simp [signB, letterB, a1, a2]))
          have d1 : decide ((97 : Int) ≤ (((⟨t.toArray⟩ : ByteArray)[a + k]'hlt).toNat : Int)) = true := decide_eq_true a1
          have d2 : decide ((((⟨t.toArray⟩ : ByteArray)[a + k]'hlt).toNat : Int) ≤ 122) = true := decide_eq_true a2
          clear HGO HST
          go_wp2_with fail
          go_roundw
          case rel => exact ⟨k + 1, by omega, by go_num, HR, hbel⟩
          case measure => simp [Go.RowKit.intOf]; omega
        · skip
          have HR : Hid (((t.drop a).takeWhile signB).length = k) := Lib.hid (HST.out (by (have b2 : ¬ (((⟨t.toArray⟩ : ByteArray)[a + k]'hlt).toNat : Int) ≤ 57 := (by omega); have c9 : ¬ (((⟨t.toArray⟩ : ByteArray)[a + k]'hlt).toNat : Int) = 95 := (by omega); simp [signB, letterB, digitB, a2, b2, c9])))
          have d1 : decide ((97 : Int) ≤ (((⟨t.toArray⟩ : ByteArray)[a + k]'hlt).toNat : Int)) = true := decide_eq_true a1
          have d2 : decide ((((⟨t.toArray⟩ : ByteArray)[a + k]'hlt).toNat : Int) ≤ 122) = false := decide_eq_false a2
          have d3 : decide ((48 : Int) ≤ (((⟨t.toArray⟩ : ByteArray)[a + k]'hlt).toNat : Int)) = true := decide_eq_true (by omega)
          have d4 : decide ((((⟨t.toArray⟩ : ByteArray)[a + k]'hlt).toNat : Int) ≤ 57) = false := decide_eq_false (by omega)
          have d5 : ((((⟨t.toArray⟩ : ByteArray)[a + k]'hlt).toNat : Int) == 95) = false := by rw [beq_eq_false_iff_ne]; omega
          clear HGO HST
          go_wp2_with fail
          go_ret
          exact ⟨by rw [HR.out] <;> simp, hbel⟩
      · by_cases b1 : 48 ≤ (((⟨t.toArray⟩ : ByteArray)[a + k]'hlt).toNat : Int)
        · by_cases b2 : (((⟨t.toArray⟩ : ByteArray)[a + k]'hlt).toNat : Int) ≤ 57
          · skip
            have HR : Hid (((t.drop a).take (k + 1)).all signB = true) := Lib.hid (HGO.out (by simp [signB, digitB, b1, b2]))
            have d1 : decide ((97 : Int) ≤ (((⟨t.toArray⟩ : ByteArray)[a + k]'hlt).toNat : Int)) = false := decide_eq_false a1
            have d3 : decide ((48 : Int) ≤ (((⟨t.toArray⟩ : ByteArray)[a + k]'hlt).toNat : Int)) = true := decide_eq_true b1
            have d4 : decide ((((⟨t.toArray⟩ : ByteArray)[a + k]'hlt).toNat : Int) ≤ 57) = true := decide_eq_true b2
            clear HGO HST
            go_wp2_with fail
            go_roundw
            case rel => exact ⟨k + 1, by omega, by go_num, HR, hbel⟩
            case measure => simp [Go.RowKit.intOf]; omega
          · by_cases c9 : (((⟨t.toArray⟩ : ByteArray)[a + k]'hlt).toNat : Int) = 95
            · skip
              have HR : Hid (((t.drop a).take (k + 1)).all signB = true) := Lib.hid (HGO.out (by simp [signB, c9]))
              have d1 : decide ((97 : Int) ≤ (((⟨t.toArray⟩ : ByteArray)[a + k]'hlt).toNat : Int)) = false := decide_eq_false a1
              have d3 : decide ((48 : Int) ≤ (((⟨t.toArray⟩ : ByteArray)[a + k]'hlt).toNat : Int)) = true := decide_eq_true b1
              have d4 : decide ((((⟨t.toArray⟩ : ByteArray)[a + k]'hlt).toNat : Int) ≤ 57) = false := decide_eq_false b2
              have d5 : ((((⟨t.toArray⟩ : ByteArray)[a + k]'hlt).toNat : Int) == 95) = true := by rw [beq_iff_eq]; exact c9
              clear c9
              clear HGO HST
              go_wp2_with fail
              go_roundw
              case rel => exact ⟨k + 1, by omega, by go_num, HR, hbel⟩
              case measure => simp [Go.RowKit.intOf]; omega
            · skip
              have HR : Hid (((t.drop a).takeWhile signB).length = k) := Lib.hid (HST.out (by simp [signB, letterB, digitB, a1, b2, c9]))
              have d1 : decide ((97 : Int) ≤ (((⟨t.toArray⟩ : ByteArray)[a + k]'hlt).toNat : Int)) = false := decide_eq_false a1
              have d3 : decide ((48 : Int) ≤ (((⟨t.toArray⟩ : ByteArray)[a + k]'hlt).toNat : Int)) = true := decide_eq_true b1
              have d4 : decide ((((⟨t.toArray⟩ : ByteArray)[a + k]'hlt).toNat : Int) ≤ 57) = false := decide_eq_false b2
              have d5 : ((((⟨t.toArray⟩ : ByteArray)[a + k]'hlt).toNat : Int) == 95) = false := by rw [beq_eq_false_iff_ne]; exact c9
              clear HGO HST
              go_wp2_with fail
              go_ret
              exact ⟨by rw [HR.out] <;> simp, hbel⟩
        · skip
          have HR : Hid (((t.drop a).takeWhile signB).length = k) := Lib.hid (HST.out (by (have c9 : ¬ (((⟨t.toArray⟩ : ByteArray)[a + k]'hlt).toNat : Int) = 95 := (by omega); simp [signB, letterB, digitB, a1, b1, c9])))
          have d1 : decide ((97 : Int) ≤ (((⟨t.toArray⟩ : ByteArray)[a + k]'hlt).toNat : Int)) = false := decide_eq_false a1
          have d3 : decide ((48 : Int) ≤ (((⟨t.toArray⟩ : ByteArray)[a + k]'hlt).toNat : Int)) = false := decide_eq_false b1
          have d5 : ((((⟨t.toArray⟩ : ByteArray)[a + k]'hlt).toNat : Int) == 95) = false := by rw [beq_eq_false_iff_ne]; omega
          clear HGO HST
          go_wp2_with fail
          go_ret
          exact ⟨by rw [HR.out] <;> simp, hbel⟩
    · have hke : (t.drop a).length ≤ k := by rw [List.length_drop]; omega
      have HE : Hid (((t.drop a).takeWhile signB).length = k) := Lib.hid (by rw [run_end hf.out hke, List.length_drop]; omega)
      clear hke
      go_wp2_with fail
      go_ret
      exact ⟨by rw [HE.out]; simp, hbel⟩
theorem foldV_big : ∀ (l : List UInt8) (a : Nat), a * 10 ^ l.length ≤ foldV a l
  | [], a => by simp [foldV]
  | c :: r, a => by
    have h := foldV_big r (a * 10 + (c.toNat - 48))
    have e : foldV a (c :: r) = foldV (a * 10 + (c.toNat - 48)) r := rfl
    rw [e]
    refine Nat.le_trans ?_ h
    rw [List.length_cons, Nat.pow_succ, Nat.mul_comm (10 ^ r.length) 10, ← Nat.mul_assoc]
    exact Nat.mul_le_mul_right _ (Nat.le_add_right _ _)
theorem decV_big {c : UInt8} {r : List UInt8} (hc : digitB c = true) (h : c ≠ 48) : 10 ^ r.length ≤ decV (c :: r) := by
  have h1 := foldV_big r (0 * 10 + (c.toNat - 48))
  have e : decV (c :: r) = foldV (0 * 10 + (c.toNat - 48)) r := rfl
  rw [e]
  refine Nat.le_trans ?_ h1
  have h2 : 49 ≤ c.toNat := by
    have h3 : (48 : Int) ≤ (c.toNat : Int) := by
      simp only [digitB, Bool.and_eq_true, decide_eq_true_eq] at hc
      exact hc.1
    have h4 : c.toNat ≠ 48 := fun e => h (by rw [← UInt8.toNat_inj]; exact e)
    omega
  have : 1 ≤ 0 * 10 + (c.toNat - 48) := by omega
  calc 10 ^ r.length = 1 * 10 ^ r.length := by omega
    _ ≤ (0 * 10 + (c.toNat - 48)) * 10 ^ r.length := Nat.mul_le_mul_right _ this
/-- What number leaves. -/
def NumPost3 (t : List UInt8) (a : Nat) (w : World) (e : Ending) (w' : World) : Prop :=
  (match numP (t.drop a) with
  | some (n, r) => ∃ nx : Nat, e = .returned (.tuple #[.int .i64 (n : Int), .int .i64 (nx : Int), .bool true]) ∧ t.drop nx = r ∧ nx ≤ t.length
  | none => ∃ n nx : Nat, e = .returned (.tuple #[.int .i64 (n : Int), .int .i64 (nx : Int), .bool false]) ∧ nx ≤ t.length) ∧ Below w.heap.size w w'
theorem tw_split {p : UInt8 → Bool} (l : List UInt8) : l.take (l.takeWhile p).length = l.takeWhile p ∧ l.drop (l.takeWhile p).length = l.dropWhile p := by
  have h : l = l.takeWhile p ++ l.dropWhile p := (List.takeWhile_append_dropWhile).symm
  exact ⟨(congrArg (List.take (l.takeWhile p).length) h).trans List.take_left, (congrArg (List.drop (l.takeWhile p).length) h).trans List.drop_left⟩
theorem tw_ge {p : UInt8 → Bool} : ∀ {l : List UInt8} {k : Nat}, (l.take k).all p = true → k ≤ l.length → k ≤ (l.takeWhile p).length
  | _, 0, _, _ => Nat.zero_le _
  | [], k + 1, _, h => by simp at h
  | a :: r, k + 1, h, hk => by
    simp only [List.take_succ_cons, List.all_cons, Bool.and_eq_true] at h
    have := tw_ge h.2 (by simpa using hk)
    simp [h.1, this]
theorem numOk_iff {c : UInt8} {r : List UInt8} : numOk (c :: r) = true ↔ decV (c :: r) ≤ 1000000000 ∧ (r = [] ∨ c ≠ 48) := by
  simp only [numOk, Bool.and_eq_true, decide_eq_true_eq, Bool.or_eq_true, beq_iff_eq, bne_iff_ne, ne_eq, List.cons.injEq]
  constructor
  · rintro ⟨h1, ⟨_, h2⟩ | h2⟩
    · exact ⟨h1, .inl h2⟩
    · exact ⟨h1, .inr h2⟩
  · rintro ⟨h1, h2 | h2⟩
    · by_cases hc : c = 48
      · exact ⟨h1, .inl ⟨hc, h2⟩⟩
      · exact ⟨h1, .inr hc⟩
    · exact ⟨h1, .inr h2⟩
/-- The answer, by what has been read. -/
theorem num_end {l : List UInt8} {k : Nat} (h : (l.take k).all digitB = true) (hl : k ≤ l.length) (hs : k = 11 ∨ (l.takeWhile digitB).length = k) :
    numP l = if 1 ≤ k ∧ decV (l.take k) ≤ 1000000000 ∧ (k = 1 ∨ l[0]? ≠ some 48) then some (decV (l.take k), l.drop k) else none := by
  have hge := tw_ge h hl
  obtain ⟨h1, h2⟩ := tw_split (p := digitB) l
  have hall := takeWhile_all digitB l
  cases l with
  | nil =>
    have : k = 0 := by simpa using hl
    subst this
    rfl
  | cons c r =>
    by_cases hlen : ((c :: r).takeWhile digitB).length = k
    · rw [hlen] at h1 h2
      unfold numP
      rw [← h1, ← h2]
      cases k with
      | zero => simp [numOk]
      | succ k =>
        simp only [List.take_succ_cons, List.getElem?_cons_zero, ne_eq, Option.some.injEq]
        have hk0 : r.take k = [] ↔ k + 1 = 1 := by
          rw [← List.length_eq_zero_iff, List.length_take]
          simp at hl
          omega
        by_cases hc : decV (c :: r.take k) ≤ 1000000000 ∧ (k + 1 = 1 ∨ ¬ c = 48)
        · exact (if_pos (numOk_iff.2 ⟨hc.1, hc.2.imp hk0.2 id⟩)).trans (if_pos ⟨by omega, hc⟩).symm
        · exact (if_neg (fun e => hc ⟨(numOk_iff.1 e).1, (numOk_iff.1 e).2.imp hk0.1 id⟩)).trans (if_neg (fun e => hc e.2)).symm
    · have hk : k = 11 := hs.resolve_right hlen
      subst hk
      have hnone : numP (c :: r) = none := by
        unfold numP
        rw [if_neg]
        intro e
        cases htw : (c :: r).takeWhile digitB with
        | nil => rw [htw] at hge; simp at hge
        | cons d q =>
          rw [htw] at e hge hall
          simp only [List.all_cons, Bool.and_eq_true] at hall
          obtain ⟨g1, g2⟩ := numOk_iff.1 e
          simp at hge
          rcases g2 with rfl | g2
          · simp at hge
          · have g3 := decV_big (r := q) hall.1 g2
            have g4 : 10 ^ 10 ≤ 10 ^ q.length := Nat.pow_le_pow_right (by omega) hge
            omega
      rw [hnone, if_neg]
      rintro ⟨_, g1, g2⟩
      simp only [List.take_succ_cons, List.all_cons, Bool.and_eq_true] at h g1
      rcases g2 with g2 | g2
      · omega
      · have hc : c ≠ 48 := fun e => g2 (by simp [e])
        have g3 := decV_big (r := r.take 10) h.1 hc
        rw [List.length_take, Nat.min_eq_left (by simpa using hl)] at g3
        omega
end Go.Proofs.YtbbejhhohppdhaaGreatDoor
