/-
  The reference number of schemes: its walk.
-/
import Derived.OwnWalk
import Derived.Deep.QuietTactic
import Derived.BigQuiet
import Derived.Test.YtbbejhhohppdhaaGreatDoorSRefRead
namespace Go.Proofs.YtbbejhhohppdhaaGreatDoor
open Go.RowKit

/-- The answer of number, by what has been read. -/
def numAns (l : List UInt8) (k : Nat) : Bool := decide (1 ≤ k) && (decide (decV (l.take k) ≤ 1000000000) && (decide (k = 1) || !decide (l[0]? = some 48)))
theorem NumPost3.mk_ {t : List UInt8} {a k : Nat} {w w' : World} (h : ((t.drop a).take k).all digitB = true) (hl : a + k ≤ t.length) (hs : k = 11 ∨ ((t.drop a).takeWhile digitB).length = k) (hb : Below w.heap.size w w') :
    NumPost3 t a w (.returned (.tuple #[.int .i64 ((decV ((t.drop a).take k) : Nat) : Int), .int .i64 ((a + k : Nat) : Int), .bool (numAns (t.drop a) k)])) w' := by
  have he := num_end h (by rw [List.length_drop]; omega) hs
  refine ⟨?_, hb⟩
  rw [he]
  by_cases hc : 1 ≤ k ∧ decV ((t.drop a).take k) ≤ 1000000000 ∧ (k = 1 ∨ (t.drop a)[0]? ≠ some 48)
  · rw [if_pos hc]
    have hA : numAns (t.drop a) k = true := by
      simp only [numAns, Bool.and_eq_true, Bool.or_eq_true, decide_eq_true_eq, Bool.not_eq_true', decide_eq_false_iff_not]
      exact hc
    exact ⟨a + k, by rw [hA], by rw [List.drop_drop], hl⟩
  · rw [if_neg hc]
    have hA : numAns (t.drop a) k = false := by
      rw [Bool.eq_false_iff]
      intro e
      simp only [numAns, Bool.and_eq_true, Bool.or_eq_true, decide_eq_true_eq, Bool.not_eq_true', decide_eq_false_iff_not] at e
      exact hc e
    exact ⟨_, a + k, by rw [hA], hl⟩
theorem decV_lt : ∀ (l : List UInt8), l.all digitB = true → decV l < 10 ^ l.length := by
  have key : ∀ (l : List UInt8) (a : Nat), l.all digitB = true → foldV a l < (a + 1) * 10 ^ l.length := by
    intro l
    induction l with
    | nil => intro a _; simp [foldV]
    | cons c r ih =>
      intro a h
      simp only [List.all_cons, Bool.and_eq_true] at h
      have h1 := ih (a * 10 + (c.toNat - 48)) h.2
      have hc : c.toNat ≤ 57 := by
        have h3 := h.1
        simp only [digitB, Bool.and_eq_true, decide_eq_true_eq] at h3
        omega
      have e : foldV a (c :: r) = foldV (a * 10 + (c.toNat - 48)) r := rfl
      rw [e, List.length_cons, Nat.pow_succ, Nat.mul_comm (10 ^ r.length) 10, ← Nat.mul_assoc]
      refine Nat.lt_of_lt_of_le h1 (Nat.mul_le_mul_right _ ?_)
      omega
  intro l h
  have := key l 0 h
  simpa [decV] using this

theorem numAns_t {l : List UInt8} {k q : Nat} (hq : q = decV (l.take k)) (h1 : 1 ≤ k) (h2 : q ≤ 1000000000) (h3 : k = 1 ∨ ¬ l[0]? = some 48) : numAns l k = true := by
  subst hq
  simp only [numAns, Bool.and_eq_true, Bool.or_eq_true, decide_eq_true_eq, Bool.not_eq_true', decide_eq_false_iff_not]
  exact ⟨h1, h2, h3⟩
theorem numAns_f {l : List UInt8} {k q : Nat} (hq : q = decV (l.take k)) (h : ¬ 1 ≤ k ∨ ¬ q ≤ 1000000000 ∨ (¬ k = 1 ∧ l[0]? = some 48)) : numAns l k = false := by
  subst hq
  rw [Bool.eq_false_iff]
  simp only [numAns, ne_eq, Bool.and_eq_true, Bool.or_eq_true, decide_eq_true_eq, Bool.not_eq_true', decide_eq_false_iff_not]
  rintro ⟨g1, g2, g3⟩
  rcases h with h | h | ⟨h, h'⟩
  · exact h g1
  · exact h g2
  · rcases g3 with g3 | g3
    · exact h g3
    · exact g3 h'
theorem drop_zero_at (t : List UInt8) (a : Nat) : (t.drop a)[0]? = t[a]? := by rw [List.getElem?_drop]; rfl

set_option maxRecDepth 100000 in
set_option maxHeartbeats 3200000 in
theorem number3_any (t : List UInt8) (a : Nat) (w : World) (ha : a ≤ t.length) (ht : t.length ≤ 65536) :
    Calls Tryz.prog 74 #[.string ⟨t.toArray⟩, .int .i64 (a : Int)] w (NumPost3 t a w) := by
  have hsz : (⟨t.toArray⟩ : ByteArray).size = t.length := rfl
  go_enter Tryz.func74, Tryz.ntmps74
  go_wp2_with fail
  go_loopw [1, 7] (fun i n wr => ∃ m : Nat, a ≤ m ∧ m ≤ t.length ∧ m ≤ a + 11 ∧ i = .int .i64 (m : Int) ∧ (∃ q : Nat, n = .int .i64 (q : Int) ∧ Hid (q = decV ((t.drop a).take (m - a))) ∧ q < 100000000000) ∧ Hid (((t.drop a).take (m - a)).all digitB = true) ∧ Below w.heap.size w wr) (fun i _ _ => t.length - (Go.RowKit.intOf i).toNat)
  case atStart => exact ⟨a, Nat.le_refl _, ha, by omega, rfl, ⟨0, rfl, Lib.hid (by simp [decV, foldV]), by omega⟩, Lib.hid (by simp), Below.refl _ _⟩
  case round =>
    obtain ⟨m, ham, hml, hm11, rfl, ⟨q, rfl, hq, hqb⟩, hf, hbel⟩ := hrel
    by_cases hlt : m < t.length
    · have hx := bytes_at (⟨t.toArray⟩ : ByteArray) m hlt
      have hxd : (t.drop a)[m - a]? = some ((⟨t.toArray⟩ : ByteArray)[m]'hlt) := by
        rw [List.getElem?_drop, show a + (m - a) = m by omega]; exact hx
      have hlt' : (m : Int) < (t.length : Int) := by omega
      have hge0 : (0 : Int) ≤ (m : Int) := by omega
      by_cases b1 : 48 ≤ (((⟨t.toArray⟩ : ByteArray)[m]'hlt).toNat : Int)
      · have d1 : decide ((48 : Int) ≤ (((⟨t.toArray⟩ : ByteArray)[m]'hlt).toNat : Int)) = true := decide_eq_true b1
        by_cases b2 : (((⟨t.toArray⟩ : ByteArray)[m]'hlt).toNat : Int) ≤ 57
        · have d2 : decide ((((⟨t.toArray⟩ : ByteArray)[m]'hlt).toNat : Int) ≤ 57) = true := decide_eq_true b2
          by_cases hk2 : m < a + 11
          · have hmore := run_more hf.out hxd (by simp [digitB, b1, b2])
            have hms : m - a + 1 = m + 1 - a := by omega
            have hds : decV ((t.drop a).take (m - a + 1)) = decV ((t.drop a).take (m - a)) * 10 + (((⟨t.toArray⟩ : ByteArray)[m]'hlt).toNat - 48) := by rw [List.take_add_one, hxd]; exact decV_snoc _ _
            have hbd := decV_lt _ hmore
            have hlen1 : ((t.drop a).take (m - a + 1)).length = m - a + 1 := by rw [List.length_take, List.length_drop]; omega
            rw [hlen1] at hbd
            have hbd2 : decV ((t.drop a).take (m - a + 1)) < 100000000000 := Nat.lt_of_lt_of_le hbd (Nat.pow_le_pow_right (by omega) (by omega : m - a + 1 ≤ 11))
            rw [hds, ← hq.out] at hbd2
            have HQ : Hid (q * 10 + (((⟨t.toArray⟩ : ByteArray)[m]'hlt).toNat - 48) = decV ((t.drop a).take (m + 1 - a))) := Lib.hid (by rw [← hms, hds, ← hq.out])
            rw [hms] at hmore
            have HM := Lib.hid hmore
            have m8 : decide ((m : Int) - (a : Int) < 11) = true := decide_eq_true (by omega)
            clear hx hxd hmore hds hbd hlen1 hms
            go_wp2_with fail
            go_roundw
            case rel => exact ⟨m + 1, by omega, by omega, by omega, by go_num, ⟨q * 10 + (((⟨t.toArray⟩ : ByteArray)[m]'hlt).toNat - 48), by congr 1; omega, HQ, by omega⟩, HM, hbel⟩
            case measure => simp [Go.RowKit.intOf]; omega
          · have m8 : decide ((m : Int) - (a : Int) < 11) = false := decide_eq_false (by omega)
            clear hx hxd
            have hpost := fun W' (hb : Below w.heap.size w W') => NumPost3.mk_ (w := w) (w' := W') (k := m - a) hf.out (by omega) (.inl (by omega)) hb
            have hma : a + (m - a) = m := by omega
            simp only [hma, ← hq.out] at hpost
            clear hma
            by_cases e1 : a < m
            · have m1 : decide ((a : Int) < (m : Int)) = true := decide_eq_true (by omega)
              have m1i : (a : Int) < (m : Int) := by omega
              have e1' : 1 ≤ m - a := by omega
              have hl0 : a < t.length := by omega
              have hl1 : (a : Int) < (t.length : Int) := by omega
              have hl2 : (0 : Int) ≤ (a : Int) := by omega
              by_cases e2 : q ≤ 1000000000
              · have m3 : decide ((q : Int) ≤ 1000000000) = true := decide_eq_true (by omega)
                have m3i : (q : Int) ≤ 1000000000 := by omega
                by_cases e3 : m = a + 1
                · have m4 : ((m : Int) == (a : Int) + 1) = true := by rw [beq_iff_eq]; omega
                  have e3' : m - a = 1 := by omega
                  have hA : numAns (t.drop a) (m - a) = true := numAns_t hq.out e1' e2 (.inl e3')
                  simp only [hA] at hpost
                  have HP := Lib.hid hpost
                  have HBL := Lib.hid hbel
                  clear hpost hA hq hf hbel e1 e2 e3 e3' e1'
                  go_wp2_with fail
                  go_quiet (fail)
                  go_wp2_with fail
                  go_ret3
                  exact HP.out _ (below_drewN HBL.out _)
                · have m4 : ((m : Int) == (a : Int) + 1) = false := by rw [beq_eq_false_iff_ne]; omega
                  have e3' : ¬ m - a = 1 := by omega
                  have hfirst : t[a]? = some ((⟨t.toArray⟩ : ByteArray)[a]'hl0) := bytes_at (⟨t.toArray⟩ : ByteArray) a hl0
                  by_cases e4 : (((⟨t.toArray⟩ : ByteArray)[a]'hl0).toNat : Int) = 48
                  · have m6 : ((((⟨t.toArray⟩ : ByteArray)[a]'hl0).toNat : Int) != 48) = false := by simp [e4]
                    have h48 : t[a]? = some 48 := by
                      rw [hfirst]
                      refine congrArg some ?_
                      rw [← UInt8.toNat_inj]
                      show _ = 48
                      omega
                    have hA : numAns (t.drop a) (m - a) = false := numAns_f hq.out (.inr (.inr ⟨e3', by rw [drop_zero_at]; exact h48⟩))
                    simp only [hA] at hpost
                    have HP := Lib.hid hpost
                    have HBL := Lib.hid hbel
                    clear hpost hA hq hf hbel hfirst e1 e2 e3 e4 h48 e3' e1'
                    go_wp2_with fail
                    go_quiet (fail)
                    go_wp2_with fail
                    go_ret3
                    exact HP.out _ (below_drewN HBL.out _)
                  · have m6 : ((((⟨t.toArray⟩ : ByteArray)[a]'hl0).toNat : Int) != 48) = true := by simpa using e4
                    have h48 : ¬ t[a]? = some 48 := by
                      rw [hfirst]
                      intro e
                      refine e4 ?_
                      rw [Option.some.inj e]
                      rfl
                    have hA : numAns (t.drop a) (m - a) = true := numAns_t hq.out e1' e2 (.inr (by rw [drop_zero_at]; exact h48))
                    simp only [hA] at hpost
                    have HP := Lib.hid hpost
                    have HBL := Lib.hid hbel
                    clear hpost hA hq hf hbel hfirst e1 e2 e3 e4 h48 e3' e1'
                    go_wp2_with fail
                    go_quiet (fail)
                    go_wp2_with fail
                    go_ret3
                    exact HP.out _ (below_drewN HBL.out _)
              · have m3 : decide ((q : Int) ≤ 1000000000) = false := decide_eq_false (by omega)
                have hA : numAns (t.drop a) (m - a) = false := numAns_f hq.out (.inr (.inl e2))
                simp only [hA] at hpost
                have HP := Lib.hid hpost
                have HBL := Lib.hid hbel
                clear hpost hA hq hf hbel e1 e2 e1'
                go_wp2_with fail
                go_quiet (fail)
                go_wp2_with fail
                go_ret3
                exact HP.out _ (below_drewN HBL.out _)
            · omega
        · have d2 : decide ((((⟨t.toArray⟩ : ByteArray)[m]'hlt).toNat : Int) ≤ 57) = false := decide_eq_false b2
          have hst := run_stop hf.out hxd (by simp [digitB, b2])
          clear hx hxd
          have hpost := fun W' (hb : Below w.heap.size w W') => NumPost3.mk_ (w := w) (w' := W') (k := m - a) hf.out (by omega) (.inr hst) hb
          have hma : a + (m - a) = m := by omega
          simp only [hma, ← hq.out] at hpost
          clear hma
          by_cases e1 : a < m
          · have m1 : decide ((a : Int) < (m : Int)) = true := decide_eq_true (by omega)
            have m1i : (a : Int) < (m : Int) := by omega
            have e1' : 1 ≤ m - a := by omega
            have hl0 : a < t.length := by omega
            have hl1 : (a : Int) < (t.length : Int) := by omega
            have hl2 : (0 : Int) ≤ (a : Int) := by omega
            by_cases e2 : q ≤ 1000000000
            · have m3 : decide ((q : Int) ≤ 1000000000) = true := decide_eq_true (by omega)
              have m3i : (q : Int) ≤ 1000000000 := by omega
              by_cases e3 : m = a + 1
              · have m4 : ((m : Int) == (a : Int) + 1) = true := by rw [beq_iff_eq]; omega
                have e3' : m - a = 1 := by omega
                have hA : numAns (t.drop a) (m - a) = true := numAns_t hq.out e1' e2 (.inl e3')
                simp only [hA] at hpost
                have HP := Lib.hid hpost
                have HBL := Lib.hid hbel
                clear hst hpost hA hq hf hbel e1 e2 e3 e3' e1'
                go_wp2_with fail
                go_quiet (fail)
                go_wp2_with fail
                go_ret3
                exact HP.out _ (below_drewN HBL.out _)
              · have m4 : ((m : Int) == (a : Int) + 1) = false := by rw [beq_eq_false_iff_ne]; omega
                have e3' : ¬ m - a = 1 := by omega
                have hfirst : t[a]? = some ((⟨t.toArray⟩ : ByteArray)[a]'hl0) := bytes_at (⟨t.toArray⟩ : ByteArray) a hl0
                by_cases e4 : (((⟨t.toArray⟩ : ByteArray)[a]'hl0).toNat : Int) = 48
                · have m6 : ((((⟨t.toArray⟩ : ByteArray)[a]'hl0).toNat : Int) != 48) = false := by simp [e4]
                  have h48 : t[a]? = some 48 := by
                    rw [hfirst]
                    refine congrArg some ?_
                    rw [← UInt8.toNat_inj]
                    show _ = 48
                    omega
                  have hA : numAns (t.drop a) (m - a) = false := numAns_f hq.out (.inr (.inr ⟨e3', by rw [drop_zero_at]; exact h48⟩))
                  simp only [hA] at hpost
                  have HP := Lib.hid hpost
                  have HBL := Lib.hid hbel
                  clear hst hpost hA hq hf hbel hfirst e1 e2 e3 e4 h48 e3' e1'
                  go_wp2_with fail
                  go_quiet (fail)
                  go_wp2_with fail
                  go_ret3
                  exact HP.out _ (below_drewN HBL.out _)
                · have m6 : ((((⟨t.toArray⟩ : ByteArray)[a]'hl0).toNat : Int) != 48) = true := by simpa using e4
                  have h48 : ¬ t[a]? = some 48 := by
                    rw [hfirst]
                    intro e
                    refine e4 ?_
                    rw [Option.some.inj e]
                    rfl
                  have hA : numAns (t.drop a) (m - a) = true := numAns_t hq.out e1' e2 (.inr (by rw [drop_zero_at]; exact h48))
                  simp only [hA] at hpost
                  have HP := Lib.hid hpost
                  have HBL := Lib.hid hbel
                  clear hst hpost hA hq hf hbel hfirst e1 e2 e3 e4 h48 e3' e1'
                  go_wp2_with fail
                  go_quiet (fail)
                  go_wp2_with fail
                  go_ret3
                  exact HP.out _ (below_drewN HBL.out _)
            · have m3 : decide ((q : Int) ≤ 1000000000) = false := decide_eq_false (by omega)
              have hA : numAns (t.drop a) (m - a) = false := numAns_f hq.out (.inr (.inl e2))
              simp only [hA] at hpost
              have HP := Lib.hid hpost
              have HBL := Lib.hid hbel
              clear hst hpost hA hq hf hbel e1 e2 e1'
              go_wp2_with fail
              go_quiet (fail)
              go_wp2_with fail
              go_ret3
              exact HP.out _ (below_drewN HBL.out _)
          · have hmeq : m = a := by omega
            subst hmeq
            have m1 : decide ((m : Int) < (m : Int)) = false := decide_eq_false (by omega)
            have hA : numAns (t.drop m) (m - m) = false := numAns_f hq.out (.inl (by omega))
            simp only [hA] at hpost
            have HP := Lib.hid hpost
            have HBL := Lib.hid hbel
            clear hst hpost hA hq hf hbel e1
            go_wp2_with fail
            go_quiet (fail)
            go_wp2_with fail
            go_ret3
            exact HP.out _ (below_drewN HBL.out _)
      · have d1 : decide ((48 : Int) ≤ (((⟨t.toArray⟩ : ByteArray)[m]'hlt).toNat : Int)) = false := decide_eq_false b1
        have hst := run_stop hf.out hxd (by simp [digitB, b1])
        clear hx hxd
        have hpost := fun W' (hb : Below w.heap.size w W') => NumPost3.mk_ (w := w) (w' := W') (k := m - a) hf.out (by omega) (.inr hst) hb
        have hma : a + (m - a) = m := by omega
        simp only [hma, ← hq.out] at hpost
        clear hma
        by_cases e1 : a < m
        · have m1 : decide ((a : Int) < (m : Int)) = true := decide_eq_true (by omega)
          have m1i : (a : Int) < (m : Int) := by omega
          have e1' : 1 ≤ m - a := by omega
          have hl0 : a < t.length := by omega
          have hl1 : (a : Int) < (t.length : Int) := by omega
          have hl2 : (0 : Int) ≤ (a : Int) := by omega
          by_cases e2 : q ≤ 1000000000
          · have m3 : decide ((q : Int) ≤ 1000000000) = true := decide_eq_true (by omega)
            have m3i : (q : Int) ≤ 1000000000 := by omega
            by_cases e3 : m = a + 1
            · have m4 : ((m : Int) == (a : Int) + 1) = true := by rw [beq_iff_eq]; omega
              have e3' : m - a = 1 := by omega
              have hA : numAns (t.drop a) (m - a) = true := numAns_t hq.out e1' e2 (.inl e3')
              simp only [hA] at hpost
              have HP := Lib.hid hpost
              have HBL := Lib.hid hbel
              clear hst hpost hA hq hf hbel e1 e2 e3 e3' e1'
              go_wp2_with fail
              go_quiet (fail)
              go_wp2_with fail
              go_ret3
              exact HP.out _ (below_drewN HBL.out _)
            · have m4 : ((m : Int) == (a : Int) + 1) = false := by rw [beq_eq_false_iff_ne]; omega
              have e3' : ¬ m - a = 1 := by omega
              have hfirst : t[a]? = some ((⟨t.toArray⟩ : ByteArray)[a]'hl0) := bytes_at (⟨t.toArray⟩ : ByteArray) a hl0
              by_cases e4 : (((⟨t.toArray⟩ : ByteArray)[a]'hl0).toNat : Int) = 48
              · have m6 : ((((⟨t.toArray⟩ : ByteArray)[a]'hl0).toNat : Int) != 48) = false := by simp [e4]
                have h48 : t[a]? = some 48 := by
                  rw [hfirst]
                  refine congrArg some ?_
                  rw [← UInt8.toNat_inj]
                  show _ = 48
                  omega
                have hA : numAns (t.drop a) (m - a) = false := numAns_f hq.out (.inr (.inr ⟨e3', by rw [drop_zero_at]; exact h48⟩))
                simp only [hA] at hpost
                have HP := Lib.hid hpost
                have HBL := Lib.hid hbel
                clear hst hpost hA hq hf hbel hfirst e1 e2 e3 e4 h48 e3' e1'
                go_wp2_with fail
                go_quiet (fail)
                go_wp2_with fail
                go_ret3
                exact HP.out _ (below_drewN HBL.out _)
              · have m6 : ((((⟨t.toArray⟩ : ByteArray)[a]'hl0).toNat : Int) != 48) = true := by simpa using e4
                have h48 : ¬ t[a]? = some 48 := by
                  rw [hfirst]
                  intro e
                  refine e4 ?_
                  rw [Option.some.inj e]
                  rfl
                have hA : numAns (t.drop a) (m - a) = true := numAns_t hq.out e1' e2 (.inr (by rw [drop_zero_at]; exact h48))
                simp only [hA] at hpost
                have HP := Lib.hid hpost
                have HBL := Lib.hid hbel
                clear hst hpost hA hq hf hbel hfirst e1 e2 e3 e4 h48 e3' e1'
                go_wp2_with fail
                go_quiet (fail)
                go_wp2_with fail
                go_ret3
                exact HP.out _ (below_drewN HBL.out _)
          · have m3 : decide ((q : Int) ≤ 1000000000) = false := decide_eq_false (by omega)
            have hA : numAns (t.drop a) (m - a) = false := numAns_f hq.out (.inr (.inl e2))
            simp only [hA] at hpost
            have HP := Lib.hid hpost
            have HBL := Lib.hid hbel
            clear hst hpost hA hq hf hbel e1 e2 e1'
            go_wp2_with fail
            go_quiet (fail)
            go_wp2_with fail
            go_ret3
            exact HP.out _ (below_drewN HBL.out _)
        · have hmeq : m = a := by omega
          subst hmeq
          have m1 : decide ((m : Int) < (m : Int)) = false := decide_eq_false (by omega)
          have hA : numAns (t.drop m) (m - m) = false := numAns_f hq.out (.inl (by omega))
          simp only [hA] at hpost
          have HP := Lib.hid hpost
          have HBL := Lib.hid hbel
          clear hst hpost hA hq hf hbel e1
          go_wp2_with fail
          go_quiet (fail)
          go_wp2_with fail
          go_ret3
          exact HP.out _ (below_drewN HBL.out _)
    · have hge : decide ((m : Int) < (t.length : Int)) = false := decide_eq_false (by omega)
      have hst : ((t.drop a).takeWhile digitB).length = m - a := by
        rw [run_end hf.out (by rw [List.length_drop]; omega), List.length_drop]; omega
      have hpost := fun W' (hb : Below w.heap.size w W') => NumPost3.mk_ (w := w) (w' := W') (k := m - a) hf.out (by omega) (.inr hst) hb
      have hma : a + (m - a) = m := by omega
      simp only [hma, ← hq.out] at hpost
      clear hma
      by_cases e1 : a < m
      · have m1 : decide ((a : Int) < (m : Int)) = true := decide_eq_true (by omega)
        have m1i : (a : Int) < (m : Int) := by omega
        have e1' : 1 ≤ m - a := by omega
        have hl0 : a < t.length := by omega
        have hl1 : (a : Int) < (t.length : Int) := by omega
        have hl2 : (0 : Int) ≤ (a : Int) := by omega
        by_cases e2 : q ≤ 1000000000
        · have m3 : decide ((q : Int) ≤ 1000000000) = true := decide_eq_true (by omega)
          have m3i : (q : Int) ≤ 1000000000 := by omega
          by_cases e3 : m = a + 1
          · have m4 : ((m : Int) == (a : Int) + 1) = true := by rw [beq_iff_eq]; omega
            have e3' : m - a = 1 := by omega
            have hA : numAns (t.drop a) (m - a) = true := numAns_t hq.out e1' e2 (.inl e3')
            simp only [hA] at hpost
            have HP := Lib.hid hpost
            have HBL := Lib.hid hbel
            clear hst hpost hA hq hf hbel e1 e2 e3 e3' e1'
            go_wp2_with fail
            go_quiet (fail)
            go_wp2_with fail
            go_ret3
            exact HP.out _ (below_drewN HBL.out _)
          · have m4 : ((m : Int) == (a : Int) + 1) = false := by rw [beq_eq_false_iff_ne]; omega
            have e3' : ¬ m - a = 1 := by omega
            have hfirst : t[a]? = some ((⟨t.toArray⟩ : ByteArray)[a]'hl0) := bytes_at (⟨t.toArray⟩ : ByteArray) a hl0
            by_cases e4 : (((⟨t.toArray⟩ : ByteArray)[a]'hl0).toNat : Int) = 48
            · have m6 : ((((⟨t.toArray⟩ : ByteArray)[a]'hl0).toNat : Int) != 48) = false := by simp [e4]
              have h48 : t[a]? = some 48 := by
                rw [hfirst]
                refine congrArg some ?_
                rw [← UInt8.toNat_inj]
                show _ = 48
                omega
              have hA : numAns (t.drop a) (m - a) = false := numAns_f hq.out (.inr (.inr ⟨e3', by rw [drop_zero_at]; exact h48⟩))
              simp only [hA] at hpost
              have HP := Lib.hid hpost
              have HBL := Lib.hid hbel
              clear hst hpost hA hq hf hbel hfirst e1 e2 e3 e4 h48 e3' e1'
              go_wp2_with fail
              go_quiet (fail)
              go_wp2_with fail
              go_ret3
              exact HP.out _ (below_drewN HBL.out _)
            · have m6 : ((((⟨t.toArray⟩ : ByteArray)[a]'hl0).toNat : Int) != 48) = true := by simpa using e4
              have h48 : ¬ t[a]? = some 48 := by
                rw [hfirst]
                intro e
                refine e4 ?_
                rw [Option.some.inj e]
                rfl
              have hA : numAns (t.drop a) (m - a) = true := numAns_t hq.out e1' e2 (.inr (by rw [drop_zero_at]; exact h48))
              simp only [hA] at hpost
              have HP := Lib.hid hpost
              have HBL := Lib.hid hbel
              clear hst hpost hA hq hf hbel hfirst e1 e2 e3 e4 h48 e3' e1'
              go_wp2_with fail
              go_quiet (fail)
              go_wp2_with fail
              go_ret3
              exact HP.out _ (below_drewN HBL.out _)
        · have m3 : decide ((q : Int) ≤ 1000000000) = false := decide_eq_false (by omega)
          have hA : numAns (t.drop a) (m - a) = false := numAns_f hq.out (.inr (.inl e2))
          simp only [hA] at hpost
          have HP := Lib.hid hpost
          have HBL := Lib.hid hbel
          clear hst hpost hA hq hf hbel e1 e2 e1'
          go_wp2_with fail
          go_quiet (fail)
          go_wp2_with fail
          go_ret3
          exact HP.out _ (below_drewN HBL.out _)
      · have hmeq : m = a := by omega
        subst hmeq
        have m1 : decide ((m : Int) < (m : Int)) = false := decide_eq_false (by omega)
        have hA : numAns (t.drop m) (m - m) = false := numAns_f hq.out (.inl (by omega))
        simp only [hA] at hpost
        have HP := Lib.hid hpost
        have HBL := Lib.hid hbel
        clear hst hpost hA hq hf hbel e1
        go_wp2_with fail
        go_quiet (fail)
        go_wp2_with fail
        go_ret3
        exact HP.out _ (below_drewN HBL.out _)
end Go.Proofs.YtbbejhhohppdhaaGreatDoor
