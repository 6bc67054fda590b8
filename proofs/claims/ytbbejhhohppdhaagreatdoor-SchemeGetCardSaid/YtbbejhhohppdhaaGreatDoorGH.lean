/-
  scan.Text: run, Name, Number, Until: what they return, or that they panic.
  scan.Text: Number and Until: what they return, or that they panic.
  Heads of terms, read: scheme.number, reader.head.
  Reading the string of a term: plain functions on lists of bytes.
  scheme.reader.arg.
  scheme.reader.term.
  scan.All at the reader of terms.
-/
import Derived.Test.YtbbejhhohppdhaaGreatDoorGB
import Derived.Test.YtbbejhhohppdhaaGreatDoorGD
import Derived.BigQuiet
import Derived.Test.YtbbejhhohppdhaaGreatDoorNums
import Derived.Test.YtbbejhhohppdhaaGreatDoorGC
namespace Go.Proofs.YtbbejhhohppdhaaGreatDoor
open Go.RowKit Go.Shelf

/-- What the package variables hold that the library's functions read here. -/
structure GV (w : World) : Prop where
  m : ∃ m, w.cell? ⟨0, 0, none⟩ = some (.int .i64 m)
  sy : ∃ te pe, w.cell? ⟨2, 0, none⟩ = some (.iface te pe)
  ra : ∃ te pe, w.cell? ⟨3, 0, none⟩ = some (.iface te pe)
theorem GV.keep {w w' : World} (h : GV w) (hb : ∀ b, b < 8 → w'.heap[b]? = w.heap[b]?) : GV w' := by
  obtain ⟨⟨m, h1⟩, ⟨t1, p1, h2⟩, ⟨t2, p2, h3⟩⟩ := h
  exact ⟨⟨m, (World.cell?_of_block (hb _ (by decide))).trans h1⟩, ⟨t1, p1, (World.cell?_of_block (hb _ (by decide))).trans h2⟩, ⟨t2, p2, (World.cell?_of_block (hb _ (by decide))).trans h3⟩⟩
theorem GV.below {w w' : World} {B : Nat} (h : GV w) (hb : Below B w w') (hB : 8 ≤ B) : GV w' := h.keep (fun b h8 => hb.block b (by omega))
theorem GV.saves {w w' : World} {M : Nat → Prop} (h : GV w) (hs : Saves M w w') (hw : 8 ≤ w.heap.size) (hM : ∀ b, b < 8 → ¬ M b) : GV w' := h.keep (fun b h8 => hs.block b (by omega) (hM b h8))

theorem takeWhile_len (p : UInt8 → Bool) (t : List UInt8) : (t.takeWhile p).length + (t.dropWhile p).length = t.length := by
  have := congrArg List.length (List.takeWhile_append_dropWhile (p := p) (l := t))
  rw [List.length_append] at this
  exact this
theorem takeWhile_take (p : UInt8 → Bool) (t : List UInt8) : t.take (t.length - (t.dropWhile p).length) = t.takeWhile p := by
  have h1 := takeWhile_len p t
  have h2 : t.takeWhile p ++ t.dropWhile p = t := List.takeWhile_append_dropWhile
  have h3 : t.length - (t.dropWhile p).length = (t.takeWhile p).length := by omega
  rw [h3]
  calc t.take (t.takeWhile p).length = (t.takeWhile p ++ t.dropWhile p).take (t.takeWhile p).length := by rw [h2]
    _ = t.takeWhile p := List.take_left' rfl

theorem bytes_take (t : List UInt8) (n : Nat) (_ : n ≤ t.length) : (⟨t.toArray⟩ : ByteArray).extract 0 n = ⟨(t.take n).toArray⟩ := by
  apply ByteArray.ext
  simp [ByteArray.data_extract]

set_option maxHeartbeats 800000 in
theorem run_any (p : UInt8 → Bool) (kind : ByteArray) (t : List UInt8) (b : Nat) (w : World) (hb : Blk w b 161 #[.string ⟨t.toArray⟩]) (hL : t.length ≤ 9223372036854775807)
    (hT : ∀ W, Calls Tryz.prog 166 #[.string ⟨t.toArray⟩, .string kind] W fun e w' => e = .returned (.string ⟨(t.dropWhile p).toArray⟩) ∧ Below W.heap.size W w') :
    Calls Tryz.prog 150 #[.pointer (some ⟨b, 0, none⟩), .string kind] w fun e w' => e = .returned (.string ⟨(t.takeWhile p).toArray⟩) ∧ Blk w' b 161 #[.string ⟨(t.dropWhile p).toArray⟩] ∧ Saves (fun k => k = b) w w' := by
  have HT := Lib.hid hT
  have hc := hb.cell 0
  simp at hc
  have h1 := takeWhile_len p t
  have h2 : Hid (t.take (t.length - (t.dropWhile p).length) = t.takeWhile p) := Lib.hid (takeWhile_take p t)
  generalize t.takeWhile p = tk at *
  generalize t.dropWhile p = dr at *
  go_enter Tryz.func150, Tryz.ntmps150
  go_wp2_with fail
  refine (HT.out w).mono ?_
  rintro e w1 ⟨rfl, b1⟩
  have hb1 := hb.below b1 hb.lt
  have hc1 := hb1.cell 0
  have hf1 := hb1.frozen 0
  simp at hc1
  go_wp2_with fail
  go_quiet (fail)
  go_wp2_with fail
  go_ret
  have hs : Saves (fun k => k = b) w (w1.drewN nq) := (Saves.of_below b1).trans (Saves.of_below (below_drewN (Below.refl _ _) nq))
  refine ⟨?_, (hb1.drewN nq).set_ 0 _, hs.setCell (p := ⟨b, 0, none⟩) (.inl rfl) _⟩
  rw [bytes_take t _ (by omega), h2.out]
  rfl

/-- Names. -/
def nameP (t : List UInt8) : Option (List UInt8 × List UInt8) := if nameB (t.takeWhile signB) = true then some (t.takeWhile signB, t.dropWhile signB) else none
theorem nameP_le {t s r : List UInt8} (h : nameP t = some (s, r)) : r.length < t.length ∧ s.length ≤ 24 := by
  rw [nameP] at h
  split at h
  · rename_i hn
    have h1 := takeWhile_len signB t
    simp only [Option.some.injEq, Prod.mk.injEq] at h
    obtain ⟨rfl, rfl⟩ := h
    simp only [nameB, Bool.and_eq_true, decide_eq_true_eq] at hn
    omega
  · cases h

set_option maxHeartbeats 800000 in
theorem name_yes {t s r : List UInt8} (h : nameP t = some (s, r)) (b : Nat) (w : World) (hb : Blk w b 161 #[.string ⟨t.toArray⟩]) (hL : t.length ≤ 65536) :
    Calls Tryz.prog 109 #[.pointer (some ⟨b, 0, none⟩)] w fun e w' => e = .returned (.string ⟨s.toArray⟩) ∧ Blk w' b 161 #[.string ⟨r.toArray⟩] ∧ Saves (fun k => k = b) w w' := by
  have HR := Lib.hid (run_any signB nameBytes t b w hb (by omega) (fun W => trimName_any ⟨t.toArray⟩ W))
  have hlen := takeWhile_len signB t
  rw [nameP] at h
  split at h
  · rename_i hn
    simp only [Option.some.injEq, Prod.mk.injEq] at h
    obtain ⟨rfl, rfl⟩ := h
    have HN := Lib.hid (fun W => isName_any ⟨(t.takeWhile signB).toArray⟩ W (by simp [ByteArray.size, maxLen]; omega))
    simp only [hn] at HN
    unfold nameBytes at HR
    generalize t.takeWhile signB = s at *
    generalize t.dropWhile signB = r at *
    clear hn
    go_enter Tryz.func109, Tryz.ntmps109
    go_wp2_with fail
    refine HR.out.mono ?_
    rintro e w1 ⟨rfl, b1, s1⟩
    go_wp2_with fail
    refine (HN.out w1).mono ?_
    rintro e w2 ⟨rfl, b2⟩
    go_wp2_with fail
    refine (must_yes b w2).mono ?_
    rintro e w3 ⟨rfl, rfl⟩
    go_wp2_with fail
    go_ret
    exact ⟨rfl, b1.below b2 b1.lt, s1.trans (Saves.of_below b2)⟩
  · cases h
set_option maxHeartbeats 800000 in
theorem name_no {t : List UInt8} (h : nameP t = none) (b : Nat) (w : World) (hb : Blk w b 161 #[.string ⟨t.toArray⟩]) (hL : t.length ≤ 65536) :
    Calls Tryz.prog 109 #[.pointer (some ⟨b, 0, none⟩)] w fun e w' => e = pan ∧ Saves (fun k => k = b) w w' := by
  have HR := Lib.hid (run_any signB nameBytes t b w hb (by omega) (fun W => trimName_any ⟨t.toArray⟩ W))
  have hlen := takeWhile_len signB t
  rw [nameP] at h
  split at h
  · cases h
  · rename_i hn
    have hn' : nameB (t.takeWhile signB) = false := by simpa using hn
    have HN := Lib.hid (fun W => isName_any ⟨(t.takeWhile signB).toArray⟩ W (by simp [ByteArray.size, maxLen]; omega))
    simp only [hn'] at HN
    unfold nameBytes at HR
    generalize t.takeWhile signB = s at *
    generalize t.dropWhile signB = r at *
    clear hn hn' h
    go_enter Tryz.func109, Tryz.ntmps109
    go_wp2_with fail
    refine HR.out.mono ?_
    rintro e w1 ⟨rfl, b1, s1⟩
    go_wp2_with fail
    refine (HN.out w1).mono ?_
    rintro e w2 ⟨rfl, b2⟩
    go_wp2_with fail
    refine (must_no b w2).mono ?_
    rintro e w3 ⟨rfl, rfl⟩
    exact ⟨rfl, rfl, s1.trans (Saves.of_below b2)⟩
end Go.Proofs.YtbbejhhohppdhaaGreatDoor

namespace Go.Proofs.YtbbejhhohppdhaaGreatDoor
open Go.RowKit Go.Shelf

def foldV (a : Nat) (l : List UInt8) : Nat := l.foldl (fun a c => a * 10 + (c.toNat - 48)) a
theorem foldV_ge : ∀ (l : List UInt8) (a : Nat), a ≤ foldV a l
  | [], a => Nat.le_refl _
  | c :: r, a => by
    have := foldV_ge r (a * 10 + (c.toNat - 48))
    simp only [foldV, List.foldl_cons] at this ⊢
    omega
theorem parse_digits : ∀ (l : List UInt8) (a : Nat), l.all digitB = true → a < 18446744073709551616 →
    Lib.parseUint10 a l = .ok (foldV a l) ∨ (Lib.parseUint10 a l = .range ∧ 18446744073709551616 ≤ foldV a l)
  | [], a, _, _ => .inl rfl
  | c :: r, a, h, ha => by
    simp only [List.all_cons, Bool.and_eq_true, digitB, decide_eq_true_eq] at h
    have hc : 48 ≤ c.toNat ∧ c.toNat ≤ 57 := by omega
    have hge := foldV_ge r (a * 10 + (c.toNat - 48))
    have hf : foldV a (c :: r) = foldV (a * 10 + (c.toNat - 48)) r := rfl
    rw [Lib.parseUint10, if_pos hc, hf]
    split
    · exact .inr ⟨rfl, by omega⟩
    · split
      · exact .inr ⟨rfl, by omega⟩
      · exact parse_digits r _ (by simpa [digitB] using h.2) (by omega)
/-- The number of decimal digits. -/
def decV (l : List UInt8) : Nat := foldV 0 l
theorem atoi_digits {l : List UInt8} (hl : l ≠ []) (h : l.all digitB = true) : Lib.atoiAll l = .ok (decV l : Int) ∨ (Lib.atoiAll l = .range ∧ 9223372036854775808 ≤ decV l) := by
  cases l with
  | nil => exact absurd rfl hl
  | cons c r =>
    have h0 := h
    simp only [List.all_cons, Bool.and_eq_true, digitB, decide_eq_true_eq] at h
    have h2 : ¬ c.toNat = 45 := by omega
    have hA : Lib.atoiAll (c :: r) = match Lib.parseUint10 0 (c :: r) with
      | .syntax => .syntax
      | .range => .range
      | .ok u => if 9223372036854775808 ≤ u then .range else .ok (u : Int) := by
      have h3 : ¬ c.toNat = 43 := by omega
      simp only [Lib.atoiAll, Lib.parseMag, h2, h3, or_self, if_false, reduceCtorEq, not_false_eq_true, true_and, false_and]
      cases Lib.parseUint10 0 (c :: r) <;> rfl
    rw [hA]
    rcases parse_digits (c :: r) 0 h0 (by omega) with hp | ⟨hp, hq⟩
    · rw [hp]
      simp only
      split
      · rename_i hh
        exact .inr ⟨rfl, hh⟩
      · exact .inl rfl
    · rw [hp]
      exact .inr ⟨rfl, by show 9223372036854775808 ≤ foldV 0 (c :: r); omega⟩
/-- Digits without a leading zero, of at most 10^9. -/
def numOk : List UInt8 → Bool
  | [] => false
  | c :: r => decide (decV (c :: r) ≤ 1000000000) && ((c :: r) == [48] || c != 48)
def numP (t : List UInt8) : Option (Nat × List UInt8) := if numOk (t.takeWhile digitB) = true then some (decV (t.takeWhile digitB), t.dropWhile digitB) else none
def digits : ByteArray := ⟨#[48, 49, 50, 51, 52, 53, 54, 55, 56, 57]⟩
theorem digits_fin : ∀ n : Fin 256, digits.data.toList.contains (UInt8.ofNat n.val) = digitB (UInt8.ofNat n.val) := by decide +kernel
theorem digits_sign (c : UInt8) : digits.data.toList.contains c = digitB c := by
  have := digits_fin ⟨c.toNat, UInt8.toNat_lt c⟩
  simpa using this
theorem trimDigits_any (s : ByteArray) (w : World) :
    Calls Tryz.prog 166 #[.string s, .string digits] w fun e w' => e = .returned (.string ⟨(s.data.toList.dropWhile digitB).toArray⟩) ∧ Below w.heap.size w w' := by
  have hcon := Any.strings_TrimLeft_laid Tryz.lays161 (by kernel_rfl) s digits w (by decide) (ascii_of_all (by decide))
  have : Lib.trimLeftS s.data.toList digits.data.toList = s.data.toList.dropWhile digitB := by
    unfold Lib.trimLeftS
    congr 1
    funext c
    exact digits_sign c
  rw [this] at hcon
  exact hcon
theorem bytesWorld_below (w : World) (e : TypeId) (s : ByteArray) : Below w.heap.size w (Lib.bytesWorld w e s) :=
  ⟨rfl, rfl, rfl, by rw [Lib.bytesWorld_size]; omega, fun j hj => Lib.bytesWorld_at_old w e s j hj⟩
theorem atoi_below {w w' : World} (h : w' = w ∨ ∃ t, w' = Lib.bytesWorld w 5 t) : Below w.heap.size w w' := by
  rcases h with rfl | ⟨t, rfl⟩
  · exact Below.refl _ _
  · exact bytesWorld_below _ _ _
theorem all_takeWhile (p : UInt8 → Bool) : ∀ l : List UInt8, (l.takeWhile p).all p = true
  | [] => rfl
  | c :: r => by
    rw [List.takeWhile_cons]
    split
    · rename_i h
      simp only [List.all_cons, Bool.and_eq_true]
      exact ⟨h, all_takeWhile p r⟩
    · rfl

set_option maxHeartbeats 1600000 in
theorem number_any (t : List UInt8) (b : Nat) (w : World) (hg : GV w) (hb8 : 8 ≤ b) (hb : Blk w b 161 #[.string ⟨t.toArray⟩]) (hL : t.length ≤ 65536) :
    Calls Tryz.prog 111 #[.pointer (some ⟨b, 0, none⟩)] w fun e w' => match numP t with
      | some (n, r) => e = .returned (.int .i64 (n : Int)) ∧ Blk w' b 161 #[.string ⟨r.toArray⟩] ∧ Saves (fun k => k = b) w w'
      | none => e = pan ∧ Saves (fun k => k = b) w w' := by
  have HR := Lib.hid (run_any digitB digits t b w hb (by omega) (fun W => trimDigits_any ⟨t.toArray⟩ W))
  have hlen := takeWhile_len digitB t
  have hall := all_takeWhile digitB t
  unfold numP
  have hbl := hb.lt
  unfold digits at HR
  generalize t.takeWhile digitB = s at *
  generalize t.dropWhile digitB = r at *
  cases s with
  | nil =>
    have hP : numOk [] = false := rfl
    rw [hP]
    simp only [Bool.false_eq_true, if_false]
    go_enter Tryz.func111, Tryz.ntmps111
    go_wp2_with fail
    refine HR.out.mono ?_
    rintro e w1 ⟨rfl, b1, s1⟩
    have g1 := hg.saves s1 (by omega) (fun k hk e => by omega)
    obtain ⟨te, pe, hv⟩ := g1.sy
    go_wp2_with fail
    refine (Tryz.strconv_Atoi_syntax ⟨#[]⟩ (by decide) rfl _ w1 hv (.inr ⟨_, _, rfl⟩)).mono ?_
    rintro e w2 ⟨N, rfl, _, _, b2⟩
    go_wp2_with fail
    refine (must_no b w2).mono ?_
    rintro e w3 ⟨rfl, rfl⟩
    exact ⟨rfl, rfl, s1.trans (Saves.of_below b2)⟩
  | cons c q =>
    have hsz : (⟨(c :: q).toArray⟩ : ByteArray).size ≤ 65536 := by simp [ByteArray.size]; simp at hlen; omega
    rcases atoi_digits (l := c :: q) (by simp) hall with ha | ⟨ha, hq⟩
    · have HA := Lib.hid (fun W => Tryz.strconv_Atoi_ok ⟨(c :: q).toArray⟩ (by omega) _ ha W)
      generalize hdv : decV (c :: q) = dv at *
      by_cases hv : dv ≤ 1000000000
      · have hle : decide ((dv : Int) ≤ 1000000000) = true := decide_eq_true (by omega)
        cases h48 : ((c :: q) == [48]) with
        | true =>
          have hP : numOk (c :: q) = true := by simp only [numOk, hdv, decide_eq_true hv, h48, Bool.true_or, Bool.and_self]
          rw [hP]
          simp only [if_true]
          clear ha hdv hP
          go_enter Tryz.func111, Tryz.ntmps111
          go_wp2_with fail
          refine HR.out.mono ?_
          rintro e w1 ⟨rfl, b1, s1⟩
          go_wp2_with fail
          refine (HA.out w1).mono ?_
          rintro e w2 ⟨rfl, hw⟩
          have b2 := atoi_below hw
          clear hw
          go_wp2_with fail
          refine (must_yes b w2).mono ?_
          rintro e w3 ⟨rfl, rfl⟩
          go_wp2_with fail
          go_ret
          exact ⟨rfl, b1.below b2 b1.lt, s1.trans (Saves.of_below b2)⟩
        | false =>
          by_cases hc : c = 48
          · have hP : numOk (c :: q) = false := by
              have h5 : (c != 48) = false := by simp [hc]
              simp only [numOk, h48, h5, Bool.or_false, Bool.and_false]
            rw [hP]
            simp only [Bool.false_eq_true, if_false]
            have hci : ((c.toNat : Int) != 48) = false := by rw [hc] <;> rfl
            clear ha hdv hP hc
            go_enter Tryz.func111, Tryz.ntmps111
            go_wp2_with fail
            refine HR.out.mono ?_
            rintro e w1 ⟨rfl, b1, s1⟩
            go_wp2_with fail
            refine (HA.out w1).mono ?_
            rintro e w2 ⟨rfl, hw⟩
            have b2 := atoi_below hw
            clear hw
            go_wp2_with fail
            change Calls Tryz.prog _ #[.pointer (some ⟨b, 0, none⟩), .bool ((c.toNat : Int) != 48)] w2 _
            rw [hci]
            refine (must_no b w2).mono ?_
            rintro e w3 ⟨rfl, rfl⟩
            exact ⟨rfl, rfl, s1.trans (Saves.of_below b2)⟩
          · have hP : numOk (c :: q) = true := by
              have : (c != 48) = true := by simpa using hc
              simp only [numOk, hdv, decide_eq_true hv, this, Bool.or_true, Bool.and_self]
            rw [hP]
            simp only [if_true]
            have hci : ((c.toNat : Int) != 48) = true := by
              rw [bne_iff_ne]
              intro e
              exact hc (UInt8.toNat_inj.1 (by show c.toNat = 48; omega))
            clear ha hdv hP hc
            go_enter Tryz.func111, Tryz.ntmps111
            go_wp2_with fail
            refine HR.out.mono ?_
            rintro e w1 ⟨rfl, b1, s1⟩
            go_wp2_with fail
            refine (HA.out w1).mono ?_
            rintro e w2 ⟨rfl, hw⟩
            have b2 := atoi_below hw
            clear hw
            go_wp2_with fail
            change Calls Tryz.prog _ #[.pointer (some ⟨b, 0, none⟩), .bool ((c.toNat : Int) != 48)] w2 _
            rw [hci]
            refine (must_yes b w2).mono ?_
            rintro e w3 ⟨rfl, rfl⟩
            go_wp2_with fail
            go_ret
            exact ⟨rfl, b1.below b2 b1.lt, s1.trans (Saves.of_below b2)⟩
      · have hle : decide ((dv : Int) ≤ 1000000000) = false := decide_eq_false (by omega)
        have hP : numOk (c :: q) = false := by simp only [numOk, hdv, decide_eq_false hv, Bool.false_and]
        rw [hP]
        simp only [Bool.false_eq_true, if_false]
        clear ha hdv hP
        go_enter Tryz.func111, Tryz.ntmps111
        go_wp2_with fail
        refine HR.out.mono ?_
        rintro e w1 ⟨rfl, b1, s1⟩
        go_wp2_with fail
        refine (HA.out w1).mono ?_
        rintro e w2 ⟨rfl, hw⟩
        have b2 := atoi_below hw
        clear hw
        go_wp2_with fail
        refine (must_no b w2).mono ?_
        rintro e w3 ⟨rfl, rfl⟩
        exact ⟨rfl, rfl, s1.trans (Saves.of_below b2)⟩
    · have hP : numOk (c :: q) = false := by
        have : ¬ decV (c :: q) ≤ 1000000000 := by omega
        simp only [numOk, decide_eq_false this, Bool.false_and]
      rw [hP]
      simp only [Bool.false_eq_true, if_false]
      go_enter Tryz.func111, Tryz.ntmps111
      go_wp2_with fail
      refine HR.out.mono ?_
      rintro e w1 ⟨rfl, b1, s1⟩
      have g1 := hg.saves s1 (by omega) (fun k hk e => by omega)
      obtain ⟨te, pe, hv⟩ := g1.ra
      go_wp2_with fail
      refine (Tryz.strconv_Atoi_range ⟨(c :: q).toArray⟩ (by omega) ha _ w1 hv (.inr ⟨_, _, rfl⟩)).mono ?_
      rintro e w2 ⟨N, rfl, _, _, b2⟩
      go_wp2_with fail
      refine (must_no b w2).mono ?_
      rintro e w3 ⟨rfl, rfl⟩
      exact ⟨rfl, rfl, s1.trans (Saves.of_below b2)⟩

/-- What is ahead of a word, and behind it. -/
def cutP (p t : List UInt8) : Option (List UInt8 × List UInt8) := if (Lib.cut t p).2.2 = true then some ((Lib.cut t p).1, (Lib.cut t p).2.1) else none
set_option maxHeartbeats 800000 in
theorem until_any (p t : List UInt8) (b : Nat) (w : World) (hg : GV w) (hb : Blk w b 161 #[.string ⟨t.toArray⟩]) (hL : t.length ≤ 65536) :
    Calls Tryz.prog 65 #[.pointer (some ⟨b, 0, none⟩), .string ⟨p.toArray⟩] w fun e w' => match cutP p t with
      | some (s, r) => e = .returned (.string ⟨s.toArray⟩) ∧ Blk w' b 161 #[.string ⟨r.toArray⟩] ∧ Saves (fun k => k = b) w w'
      | none => e = pan ∧ Saves (fun k => k = b) w w' := by
  obtain ⟨m, hm⟩ := hg.m
  have HC := Lib.hid (Tryz.strings_Cut ⟨t.toArray⟩ ⟨p.toArray⟩ m w (by simp [ByteArray.size]; omega) hm)
  unfold cutP
  have e1 : (⟨t.toArray⟩ : ByteArray).data.toList = t := rfl
  have e2 : (⟨p.toArray⟩ : ByteArray).data.toList = p := rfl
  rw [e1, e2] at HC
  generalize Lib.cut t p = c at *
  obtain ⟨s, r, f⟩ := c
  simp only at HC ⊢
  have hc := hb.cell 0
  have hf := hb.frozen 0
  simp at hc
  cases f with
  | true =>
    simp only [if_true]
    go_enter Tryz.func65, Tryz.ntmps65
    go_wp2_with fail
    refine HC.out.mono ?_
    rintro e w1 ⟨rfl, n, rfl⟩
    go_wp2_with fail
    refine (must_yes b _).mono ?_
    rintro e w3 ⟨rfl, rfl⟩
    have hb1 := hb.drewN n
    have hc1 := hb1.cell 0
    have hf1 := hb1.frozen 0
    simp at hc1
    go_wp2_with fail
    go_ret
    have hs : Saves (fun k => k = b) w (w.drewN n) := Saves.of_below (below_drewN (Below.refl _ _) n)
    exact ⟨rfl, hb1.set_ 0 _, hs.setCell (p := ⟨b, 0, none⟩) (.inl rfl) _⟩
  | false =>
    simp only [Bool.false_eq_true, if_false]
    go_enter Tryz.func65, Tryz.ntmps65
    go_wp2_with fail
    refine HC.out.mono ?_
    rintro e w1 ⟨rfl, n, rfl⟩
    go_wp2_with fail
    refine (must_no b _).mono ?_
    rintro e w3 ⟨rfl, rfl⟩
    exact ⟨rfl, rfl, Saves.of_below (below_drewN (Below.refl _ _) n)⟩
end Go.Proofs.YtbbejhhohppdhaaGreatDoor

namespace Go.Proofs.YtbbejhhohppdhaaGreatDoor
open Go.RowKit Go.Shelf

/-- A name that has a number. -/
def numK (f : List UInt8 → Option Nat) (t : List UInt8) : Option (Nat × List UInt8) := match nameP t with
  | some (s, r) => (match f s with | some n => some (n, r) | none => none)
  | none => none
theorem numK_le {f : List UInt8 → Option Nat} {t r : List UInt8} {n : Nat} (h : numK f t = some (n, r)) : r.length < t.length := by
  rw [numK] at h
  split at h
  · rename_i s q hq
    have := (nameP_le hq).1
    split at h
    · cases h; exact this
    · cases h
  · cases h
theorem numP_le {t r : List UInt8} {n : Nat} (h : numP t = some (n, r)) : r.length < t.length := by
  rw [numP] at h
  split at h
  · rename_i hn
    cases h
    have h1 := takeWhile_len digitB t
    have h2 : (t.takeWhile digitB).length ≠ 0 := fun e => by
      rw [List.eq_nil_of_length_eq_zero e] at hn; cases hn
    omega
  · cases h
/-- A head, by the numbers of symbols and of functions. -/
def headP (f g : List UInt8 → Option Nat) (t : List UInt8) : Option ((Int × Int) × List UInt8) := match strip [36] t with
  | some r => (match numP r with | some (n, q) => some ((0, (n : Int)), q) | none => none)
  | none => (match strip [35] t with
    | some r => (match numK f r with | some (n, q) => some ((2, (n : Int)), q) | none => none)
    | none => (match numK g t with | some (n, q) => some ((1, (n : Int)), q) | none => none))
theorem headP_le {f g : List UInt8 → Option Nat} {t r : List UInt8} {h : Int × Int} (hh : headP f g t = some (h, r)) : r.length < t.length := by
  rw [headP] at hh
  split at hh
  · rename_i q hq
    have := strip_len hq
    split at hh
    · rename_i n q2 hn
      have := numP_le hn
      cases hh
      simp at *; omega
    · cases hh
  · split at hh
    · rename_i q hq
      have := strip_len hq
      split at hh
      · rename_i n q2 hn
        have := numK_le hn
        cases hh
        simp at *; omega
      · cases hh
    · split at hh
      · rename_i n q2 hn
        have := numK_le hn
        cases hh
        exact this
      · cases hh

/-- What the readers of terms find in memory. -/
structure RdCtx (b rb m1 m2 n1 n2 : Nat) (ws : Bool) (f g : List UInt8 → Option Nat) (w : World) : Prop where
  rd : Blk w rb 54 #[.map (some m1), .map (some m2), .bool ws]
  ms : MapN w m1 n1 f
  mf : MapN w m2 n2 g
  gv : GV w
  h8 : 8 ≤ b
  hb : b < w.heap.size
  nr : rb ≠ b
  d1 : m1 ≠ b
  d2 : m2 ≠ b
theorem RdCtx.next {b rb m1 m2 n1 n2 : Nat} {ws : Bool} {f g : List UInt8 → Option Nat} {w w' : World} (h : RdCtx b rb m1 m2 n1 n2 ws f g w) (hs : Saves (fun k => k = b) w w') : RdCtx b rb m1 m2 n1 n2 ws f g w' :=
  ⟨h.rd.saves hs h.nr, h.ms.same (hs.block _ h.ms.lt h.d1), h.mf.same (hs.block _ h.mf.lt h.d2), h.gv.saves hs (by have := h.h8; have := h.hb; omega) (fun k hk e => by have := h.h8; omega), h.h8, Nat.lt_of_lt_of_le h.hb hs.size, h.nr, h.d1, h.d2⟩

set_option maxRecDepth 100000 in
set_option maxHeartbeats 800000 in
theorem numK_any (f : List UInt8 → Option Nat) (m n : Nat) (t : List UInt8) (b : Nat) (w : World) (hm : MapN w m n f) (hmb : m ≠ b) (hb : Blk w b 161 #[.string ⟨t.toArray⟩]) (hL : t.length ≤ 65536) (hf : ∀ s i, f s = some i → i ≤ 1000000) :
    Calls Tryz.prog 157 #[.pointer (some ⟨b, 0, none⟩), .map (some m)] w fun e w' => match numK f t with
      | some (i, r) => e = .returned (.int .i64 (i : Int)) ∧ Blk w' b 161 #[.string ⟨r.toArray⟩] ∧ Saves (fun k => k = b) w w'
      | none => e = pan ∧ Saves (fun k => k = b) w w' := by
  have hml := hm.lt
  cases hn : nameP t with
  | none =>
    have HN := Lib.hid (name_no hn b w hb hL)
    have hk : numK f t = none := by rw [numK, hn]
    rw [hk]
    simp only
    clear hn hk
    go_enter Tryz.func157, Tryz.ntmps157
    go_wp2_with fail
    refine HN.out.mono ?_
    rintro e w1 ⟨rfl, s1⟩
    exact ⟨rfl, rfl, s1⟩
  | some y =>
    obtain ⟨s, r⟩ := y
    have HN := Lib.hid (name_yes hn b w hb hL)
    have hsl := (nameP_le hn).2
    have HL := Lib.hid (fun W (hW : MapN W m n f) => hW.look ⟨s.toArray⟩ (by simp [ByteArray.size, maxLen]; omega))
    have e1 : (⟨s.toArray⟩ : ByteArray).data.toList = s := rfl
    rw [e1] at HL
    cases hfs : f s with
    | none =>
      have hk : numK f t = none := by rw [numK, hn]; simp [hfs]
      rw [hk]
      simp only
      rw [hfs] at HL
      simp only [Option.getD_none, Option.isSome_none] at HL
      clear hn hk hfs
      go_enter Tryz.func157, Tryz.ntmps157
      go_wp2_with fail
      refine HN.out.mono ?_
      rintro e w1 ⟨rfl, b1, s1⟩
      have hlook := HL.out w1 (hm.same (s1.block _ hml hmb))
      go_wp2_with fail
      refine (must_no b w1).mono ?_
      rintro e w2 ⟨rfl, rfl⟩
      exact ⟨rfl, rfl, s1⟩
    | some i =>
      have hk : numK f t = some (i, r) := by rw [numK, hn]; simp [hfs]
      rw [hk]
      simp only
      rw [hfs] at HL
      simp only [Option.getD_some, Option.isSome_some] at HL
      have hi := hf s i hfs
      clear hn hk hfs
      go_enter Tryz.func157, Tryz.ntmps157
      go_wp2_with fail
      refine HN.out.mono ?_
      rintro e w1 ⟨rfl, b1, s1⟩
      have hlook := HL.out w1 (hm.same (s1.block _ hml hmb))
      go_wp2_with fail
      refine (must_yes b w1).mono ?_
      rintro e w2 ⟨rfl, rfl⟩
      go_wp2_with fail
      go_ret
      exact ⟨rfl, b1, s1⟩

theorem headRd_results {tmps : Array Value} {w : World} {a : Nat} {x y z : Value} (h2 : tmps.getD 4 undef = .pointer (some ⟨a, 0, none⟩))
    (ha : Blk w a 34 #[x, y, z]) : (results Tryz.f117 tmps).run Tryz.prog w = .ok (.agg #[x, y, z]) w := by
  have h0 := ha.cell 0
  have h1 := ha.cell 1
  have h3 := ha.cell 2
  simp at h0 h1 h3
  have h2' : tmps[4]?.getD undef = .pointer (some ⟨a, 0, none⟩) := by simpa using h2
  simp [results, Tryz.results117, go_sem, h2', h0, h1, h3]

theorem head_end {w w2 : World} {b : Nat} {q : List UInt8} {k n : Int} (r2 : Blk w2 w.heap.size 34 #[.int .i64 0, .int .i64 0, .slice none 0 0]) (b2 : Blk w2 b 161 #[.string ⟨q.toArray⟩]) (hs : Saves (fun k => k = b) w w2) (hne : b ≠ w.heap.size) :
    Blk (((w2.setCell ⟨w.heap.size, 0, none⟩ (.int .i64 k)).setCell ⟨w.heap.size, 1, none⟩ (.int .i64 n)).setCell ⟨w.heap.size, 2, none⟩ (.slice none 0 0)) w.heap.size 34 #[.int .i64 k, .int .i64 n, .slice none 0 0] ∧
      Blk (((w2.setCell ⟨w.heap.size, 0, none⟩ (.int .i64 k)).setCell ⟨w.heap.size, 1, none⟩ (.int .i64 n)).setCell ⟨w.heap.size, 2, none⟩ (.slice none 0 0)) b 161 #[.string ⟨q.toArray⟩] ∧
      Saves (fun k => k = b) w (((w2.setCell ⟨w.heap.size, 0, none⟩ (.int .i64 k)).setCell ⟨w.heap.size, 1, none⟩ (.int .i64 n)).setCell ⟨w.heap.size, 2, none⟩ (.slice none 0 0)) :=
  ⟨(((r2.set_ 0 _).set_ 1 _).set_ 2 _).eq_ rfl, ((b2.far (p := ⟨w.heap.size, 0, none⟩) hne _).far (p := ⟨w.heap.size, 1, none⟩) hne _).far (p := ⟨w.heap.size, 2, none⟩) hne _,
    ((hs.setCell (p := ⟨w.heap.size, 0, none⟩) (.inr (Nat.le_refl _)) _).setCell (p := ⟨w.heap.size, 1, none⟩) (.inr (Nat.le_refl _)) _).setCell (p := ⟨w.heap.size, 2, none⟩) (.inr (Nat.le_refl _)) _⟩

/-- What head leaves. -/
def HeadPost (f g : List UInt8 → Option Nat) (t : List UInt8) (b : Nat) (w : World) (e : Ending) (w' : World) : Prop := match headP f g t with
  | some (h, r) => e = .returned (.agg #[.int .i64 h.1, .int .i64 h.2, .slice none 0 0]) ∧ Blk w' b 161 #[.string ⟨r.toArray⟩] ∧ Saves (fun k => k = b) w w'
  | none => e = pan ∧ Saves (fun k => k = b) w w'

set_option maxRecDepth 100000 in
set_option maxHeartbeats 1600000 in
theorem head_any' {b rb m1 m2 n1 n2 : Nat} {ws : Bool} {f g : List UInt8 → Option Nat} (hfb : ∀ s i, f s = some i → i ≤ 1000000) (hgb : ∀ s i, g s = some i → i ≤ 1000000) (t : List UInt8) (w : World) (hc : RdCtx b rb m1 m2 n1 n2 ws f g w) (hb : Blk w b 161 #[.string ⟨t.toArray⟩]) (hL : t.length ≤ 65536) :
    Calls Tryz.prog 117 #[.pointer (some ⟨rb, 0, none⟩), .pointer (some ⟨b, 0, none⟩)] w (HeadPost f g t b w) := by
  have hbw := hb.lt
  have s0 : Saves (fun k => k = b) w (w.alloc (.cells #[.int .i64 0, .int .i64 0, .slice none 0 0] 34)) := (Saves.refl _ _).alloc _
  have b0 : Blk (w.alloc (.cells #[.int .i64 0, .int .i64 0, .slice none 0 0] 34)) b 161 #[.string ⟨t.toArray⟩] := hb.alloc _
  have r0 := Blk.new w 34 #[.int .i64 0, .int .i64 0, .slice none 0 0]
  have hgr : ¬ w.heap.size = b := by omega
  have c0 := hc.next s0
  unfold HeadPost
  cases h1 : strip [36] t with
  | some q =>
    have l1 := strip_len h1
    simp at l1
    have H1 := Lib.hid (skip_yes h1 b _ b0)
    have HN := Lib.hid (fun W hgv hbl => number_any q b W hgv hc.h8 hbl (by omega))
    have hP : headP f g t = match numP q with | some (n, q2) => some ((0, (n : Int)), q2) | none => none := by rw [headP, h1]
    rw [hP]
    cases hn : numP q with
    | none =>
      simp only [hn] at HN
      simp only
      clear h1 hP hn
      go_enter Tryz.func117, Tryz.ntmps117
      go_wp2_with fail
      refine H1.out.mono ?_
      rintro e w1 ⟨rfl, b1, s1⟩
      have c1 := c0.next s1
      go_wp2_with fail
      refine (HN.out w1 c1.gv b1).mono ?_
      rintro e w2 ⟨rfl, s2⟩
      exact ⟨rfl, rfl, (s0.trans s1).trans s2⟩
    | some y =>
      obtain ⟨n, q2⟩ := y
      simp only [hn] at HN
      simp only
      clear h1 hP hn
      go_enter Tryz.func117, Tryz.ntmps117
      go_wp2_with fail
      refine H1.out.mono ?_
      rintro e w1 ⟨rfl, b1, s1⟩
      have c1 := c0.next s1
      go_wp2_with fail
      refine (HN.out w1 c1.gv b1).mono ?_
      rintro e w2 ⟨rfl, b2, s2⟩
      have r2 := (r0.saves s1 hgr).saves s2 hgr
      have x0 := r2.cell 0
      have x1 := r2.cell 1
      have x2 := r2.cell 2
      have y0 := r2.frozen 0
      have y1 := r2.frozen 1
      have y2 := r2.frozen 2
      simp at x0 x1 x2
      go_wp2_with fail
      obtain ⟨z1, z2, z3⟩ := head_end (k := 0) (n := (n : Int)) r2 b2 ((s0.trans s1).trans s2) (by omega)
      exact bodyPost_ret (headRd_results rfl z1) rfl ⟨rfl, z2, z3⟩
  | none =>
    have H1 := Lib.hid (skip_no h1 b _ b0)
    cases h2 : strip [35] t with
    | some q =>
      have l2 := strip_len h2
      simp at l2
      have H2 := Lib.hid (fun W => skip_yes h2 b W)
      have HN := Lib.hid (fun W hm hbl => numK_any f m1 n1 q b W hm hc.d1 hbl (by omega) hfb)
      have hP : headP f g t = match numK f q with | some (n, q2) => some ((2, (n : Int)), q2) | none => none := by rw [headP, h1, h2]
      rw [hP]
      cases hn : numK f q with
      | none =>
        simp only [hn] at HN
        simp only
        clear h1 h2 hP hn
        go_enter Tryz.func117, Tryz.ntmps117
        go_wp2_with fail
        refine H1.out.mono ?_
        rintro e w1 ⟨rfl, b1, s1⟩
        have c1 := c0.next s1
        go_wp2_with fail
        refine (H2.out w1 b1).mono ?_
        rintro e w2 ⟨rfl, b2, s2⟩
        have c2 := c1.next s2
        have k0 := c2.rd.cell 0
        simp at k0
        go_wp2_with fail
        refine (HN.out w2 c2.ms b2).mono ?_
        rintro e w3 ⟨rfl, s3⟩
        exact ⟨rfl, rfl, ((s0.trans s1).trans s2).trans s3⟩
      | some y =>
        obtain ⟨n, q2⟩ := y
        simp only [hn] at HN
        simp only
        clear h1 h2 hP hn
        go_enter Tryz.func117, Tryz.ntmps117
        go_wp2_with fail
        refine H1.out.mono ?_
        rintro e w1 ⟨rfl, b1, s1⟩
        have c1 := c0.next s1
        go_wp2_with fail
        refine (H2.out w1 b1).mono ?_
        rintro e w2 ⟨rfl, b2, s2⟩
        have c2 := c1.next s2
        have k0 := c2.rd.cell 0
        simp at k0
        go_wp2_with fail
        refine (HN.out w2 c2.ms b2).mono ?_
        rintro e w3 ⟨rfl, b3, s3⟩
        have r3 := ((r0.saves s1 hgr).saves s2 hgr).saves s3 hgr
        have x0 := r3.cell 0
        have x1 := r3.cell 1
        have x2 := r3.cell 2
        have y0 := r3.frozen 0
        have y1 := r3.frozen 1
        have y2 := r3.frozen 2
        simp at x0 x1 x2
        go_wp2_with fail
        obtain ⟨z1, z2, z3⟩ := head_end (k := 2) (n := (n : Int)) r3 b3 (((s0.trans s1).trans s2).trans s3) (by omega)
        exact bodyPost_ret (headRd_results rfl z1) rfl ⟨rfl, z2, z3⟩
    | none =>
      have H2 := Lib.hid (fun W => skip_no h2 b W)
      have HN := Lib.hid (fun W hm hbl => numK_any g m2 n2 t b W hm hc.d2 hbl hL hgb)
      have hP : headP f g t = match numK g t with | some (n, q2) => some ((1, (n : Int)), q2) | none => none := by rw [headP, h1, h2]
      rw [hP]
      cases hn : numK g t with
      | none =>
        simp only [hn] at HN
        simp only
        clear h1 h2 hP hn
        go_enter Tryz.func117, Tryz.ntmps117
        go_wp2_with fail
        refine H1.out.mono ?_
        rintro e w1 ⟨rfl, b1, s1⟩
        have c1 := c0.next s1
        go_wp2_with fail
        refine (H2.out w1 b1).mono ?_
        rintro e w2 ⟨rfl, b2, s2⟩
        have c2 := c1.next s2
        have k1 := c2.rd.cell 1
        simp at k1
        go_wp2_with fail
        refine (HN.out w2 c2.mf b2).mono ?_
        rintro e w3 ⟨rfl, s3⟩
        exact ⟨rfl, rfl, ((s0.trans s1).trans s2).trans s3⟩
      | some y =>
        obtain ⟨n, q2⟩ := y
        simp only [hn] at HN
        simp only
        clear h1 h2 hP hn
        go_enter Tryz.func117, Tryz.ntmps117
        go_wp2_with fail
        refine H1.out.mono ?_
        rintro e w1 ⟨rfl, b1, s1⟩
        have c1 := c0.next s1
        go_wp2_with fail
        refine (H2.out w1 b1).mono ?_
        rintro e w2 ⟨rfl, b2, s2⟩
        have c2 := c1.next s2
        have k1 := c2.rd.cell 1
        simp at k1
        go_wp2_with fail
        refine (HN.out w2 c2.mf b2).mono ?_
        rintro e w3 ⟨rfl, b3, s3⟩
        have r3 := ((r0.saves s1 hgr).saves s2 hgr).saves s3 hgr
        have x0 := r3.cell 0
        have x1 := r3.cell 1
        have x2 := r3.cell 2
        have y0 := r3.frozen 0
        have y1 := r3.frozen 1
        have y2 := r3.frozen 2
        simp at x0 x1 x2
        go_wp2_with fail
        obtain ⟨z1, z2, z3⟩ := head_end (k := 1) (n := (n : Int)) r3 b3 (((s0.trans s1).trans s2).trans s3) (by omega)
        exact bodyPost_ret (headRd_results rfl z1) rfl ⟨rfl, z2, z3⟩
end Go.Proofs.YtbbejhhohppdhaaGreatDoor

namespace Go.Proofs.YtbbejhhohppdhaaGreatDoor
open Go.RowKit

/-- An argument; rec reads a term. -/
def argW (f g : List UInt8 → Option Nat) (rec : List UInt8 → Option (T × List UInt8)) (t : List UInt8) : Option (T × List UInt8) := match strip [40] t with
  | none => (match headP f g t with | some (h, q) => some (.mk h.1 h.2 [], q) | none => none)
  | some r => (match rec r with
    | some (x, q) => if x.args.isEmpty then none else (match strip [41] q with | some z => some (x, z) | none => none)
    | none => none)
/-- A term; rec reads its arguments. -/
def termW (f g : List UInt8 → Option Nat) (rec : List UInt8 → Option (List T × List UInt8)) (t : List UInt8) : Option (T × List UInt8) := match headP f g t with
  | some (h, q) => (match rec q with | some (l, z) => some (.mk h.1 h.2 l, z) | none => none)
  | none => none
/-- acc: the arguments that have been read. -/
def argsF (f g : List UInt8 → Option Nat) : Nat → List T → List UInt8 → Option (List T × List UInt8)
  | 0, _, _ => none
  | n + 1, acc, t => match strip [32] t with
    | none => some (acc, t)
    | some r => (match argW f g (termW f g (argsF f g n [])) r with
      | some (x, q) => argsF f g n (acc ++ [x]) q
      | none => none)
theorem argsF_succ (f g : List UInt8 → Option Nat) (n : Nat) (acc : List T) (t : List UInt8) : argsF f g (n + 1) acc t = match strip [32] t with
    | none => some (acc, t)
    | some r => (match argW f g (termW f g (argsF f g n [])) r with
      | some (x, q) => argsF f g n (acc ++ [x]) q
      | none => none) := rfl
theorem argW_le {f g : List UInt8 → Option Nat} {rec : List UInt8 → Option (T × List UInt8)} (hr : ∀ t x q, rec t = some (x, q) → q.length < t.length) {t q : List UInt8} {x : T} (h : argW f g rec t = some (x, q)) : q.length < t.length := by
  rw [argW] at h
  split at h
  · split at h
    · rename_i y z hh
      cases h
      exact headP_le hh
    · cases h
  · rename_i r hs
    have l1 := strip_len hs
    split at h
    · rename_i y z hy
      have l2 := hr _ _ _ hy
      split at h
      · cases h
      · split at h
        · rename_i z2 hz
          have l3 := strip_len hz
          cases h
          simp at l1 l3; omega
        · cases h
    · cases h
theorem termW_le {f g : List UInt8 → Option Nat} {rec : List UInt8 → Option (List T × List UInt8)} (hr : ∀ t l q, rec t = some (l, q) → q.length ≤ t.length) {t q : List UInt8} {x : T} (h : termW f g rec t = some (x, q)) : q.length < t.length := by
  rw [termW] at h
  split at h
  · rename_i y z hh
    have l1 := headP_le hh
    split at h
    · rename_i l z2 hl
      have l2 := hr _ _ _ hl
      cases h
      omega
    · cases h
  · cases h
theorem argsF_le {f g : List UInt8 → Option Nat} : ∀ (n : Nat) (acc : List T) (t : List UInt8) (l : List T) (q : List UInt8), argsF f g n acc t = some (l, q) → q.length ≤ t.length := by
  intro n
  induction n with
  | zero => intro acc t l q h; simp [argsF] at h
  | succ n ih =>
    intro acc t l q h
    rw [argsF_succ] at h
    split at h
    · cases h; exact Nat.le_refl _
    · rename_i r hs
      have l1 := strip_len hs
      split at h
      · rename_i x z hx
        have l2 := argW_le (fun t x q h => termW_le (ih []) h) hx
        have l3 := ih _ _ _ _ h
        simp at l1; omega
      · cases h
theorem termW_congr {f g : List UInt8 → Option Nat} {rec rec' : List UInt8 → Option (List T × List UInt8)} {t : List UInt8} (h : ∀ q, q.length < t.length → rec q = rec' q) : termW f g rec t = termW f g rec' t := by
  rw [termW, termW]
  cases hh : headP f g t with
  | none => rfl
  | some y =>
    obtain ⟨y, q⟩ := y
    simp only [h q (headP_le hh)]
theorem argW_congr {f g : List UInt8 → Option Nat} {rec rec' : List UInt8 → Option (T × List UInt8)} {t : List UInt8} (h : ∀ q, q.length < t.length → rec q = rec' q) : argW f g rec t = argW f g rec' t := by
  rw [argW, argW]
  cases hs : strip [40] t with
  | none => rfl
  | some r =>
    have l1 := strip_len hs
    simp at l1
    simp only [h r (by omega)]
theorem argsF_stable {f g : List UInt8 → Option Nat} : ∀ (n m : Nat) (acc : List T) (t : List UInt8), t.length < n → t.length < m → argsF f g n acc t = argsF f g m acc t := by
  intro n
  induction n with
  | zero => intro m acc t h; omega
  | succ n ih =>
    intro m acc t hn hm
    cases m with
    | zero => omega
    | succ m =>
      rw [argsF_succ, argsF_succ]
      cases hs : strip [32] t with
      | none => rfl
      | some r =>
        have l1 := strip_len hs
        simp at l1
        have he : argW f g (termW f g (argsF f g n [])) r = argW f g (termW f g (argsF f g m [])) r :=
          argW_congr (fun q hq => termW_congr (fun q2 hq2 => ih m [] q2 (by omega) (by omega)))
        simp only [he]
        cases hx : argW f g (termW f g (argsF f g m [])) r with
        | none => rfl
        | some y =>
          obtain ⟨x, q⟩ := y
          have l2 := argW_le (fun t x q h => termW_le (argsF_le m []) h) hx
          exact ih m _ _ (by omega) (by omega)
/-- The arguments of a term, behind those of acc. -/
def argsP (f g : List UInt8 → Option Nat) (acc : List T) (t : List UInt8) : Option (List T × List UInt8) := argsF f g (t.length + 1) acc t
/-- A term. -/
def termP (f g : List UInt8 → Option Nat) : List UInt8 → Option (T × List UInt8) := termW f g (argsP f g [])
/-- An argument. -/
def argP (f g : List UInt8 → Option Nat) : List UInt8 → Option (T × List UInt8) := argW f g (termP f g)
theorem argsP_le {f g : List UInt8 → Option Nat} {acc l : List T} {t q : List UInt8} (h : argsP f g acc t = some (l, q)) : q.length ≤ t.length := argsF_le _ _ _ _ _ h
theorem termP_le {f g : List UInt8 → Option Nat} {x : T} {t q : List UInt8} (h : termP f g t = some (x, q)) : q.length < t.length := termW_le (fun _ _ _ h => argsP_le h) h
theorem argP_le {f g : List UInt8 → Option Nat} {x : T} {t q : List UInt8} (h : argP f g t = some (x, q)) : q.length < t.length := argW_le (fun _ _ _ h => termP_le h) h
theorem argsP_eq (f g : List UInt8 → Option Nat) (acc : List T) (t : List UInt8) : argsP f g acc t = match strip [32] t with
    | none => some (acc, t)
    | some r => (match argP f g r with
      | some (x, q) => argsP f g (acc ++ [x]) q
      | none => none) := by
  rw [argsP, argsF_succ]
  cases hs : strip [32] t with
  | none => rfl
  | some r =>
    have l1 := strip_len hs
    simp at l1
    have he : argW f g (termW f g (argsF f g t.length [])) r = argP f g r :=
      argW_congr (fun q hq => termW_congr (fun q2 hq2 => argsF_stable _ _ _ _ (by omega) (by omega)))
    simp only [he]
    cases hx : argP f g r with
    | none => rfl
    | some y =>
      obtain ⟨x, q⟩ := y
      have l2 := argP_le hx
      exact argsF_stable _ _ _ _ (by omega) (by omega)
theorem termP_eq (f g : List UInt8 → Option Nat) (t : List UInt8) : termP f g t = match headP f g t with
  | some (h, q) => (match argsP f g [] q with | some (l, z) => some (.mk h.1 h.2 l, z) | none => none)
  | none => none := rfl
theorem argP_eq (f g : List UInt8 → Option Nat) (t : List UInt8) : argP f g t = match strip [40] t with
  | none => (match headP f g t with | some (h, q) => some (.mk h.1 h.2 [], q) | none => none)
  | some r => (match termP f g r with
    | some (x, q) => if x.args.isEmpty then none else (match strip [41] q with | some z => some (x, z) | none => none)
    | none => none) := rfl
end Go.Proofs.YtbbejhhohppdhaaGreatDoor

namespace Go.Proofs.YtbbejhhohppdhaaGreatDoor
open Go.RowKit Go.Shelf

/-- What term leaves. -/
def TermPost (f g : List UInt8 → Option Nat) (t : List UInt8) (b : Nat) (w : World) (e : Ending) (w' : World) : Prop := match termP f g t with
  | some (x, r) => ∃ v us, e = .returned (.agg #[.int .i64 x.kind, .int .i64 x.num, v]) ∧ Mk w.heap.size w' x.args v us ∧ Blk w' b 161 #[.string ⟨r.toArray⟩] ∧ Saves (fun k => k = b) w w'
  | none => e = pan ∧ Saves (fun k => k = b) w w'
/-- What arg leaves. -/
def ArgPost (f g : List UInt8 → Option Nat) (t : List UInt8) (b : Nat) (w : World) (e : Ending) (w' : World) : Prop := match argP f g t with
  | some (x, r) => ∃ v us, e = .returned (.agg #[.int .i64 x.kind, .int .i64 x.num, v]) ∧ Mk w.heap.size w' x.args v us ∧ Blk w' b 161 #[.string ⟨r.toArray⟩] ∧ Saves (fun k => k = b) w w'
  | none => e = pan ∧ Saves (fun k => k = b) w w'
theorem TermPost.none_ {f g : List UInt8 → Option Nat} {t : List UInt8} {b : Nat} {w w' : World} (h : termP f g t = none) (hs : Saves (fun k => k = b) w w') : TermPost f g t b w pan w' := by
  rw [TermPost, h]; exact ⟨rfl, hs⟩
theorem TermPost.some_ {f g : List UInt8 → Option Nat} {t r : List UInt8} {x : T} {b : Nat} {w w' : World} {v : Value} {us : List Value} (h : termP f g t = some (x, r)) (h1 : Mk w.heap.size w' x.args v us)
    (h4 : Blk w' b 161 #[.string ⟨r.toArray⟩]) (hs : Saves (fun k => k = b) w w') : TermPost f g t b w (.returned (.agg #[.int .i64 x.kind, .int .i64 x.num, v])) w' := by
  rw [TermPost, h]; exact ⟨v, us, rfl, h1, h4, hs⟩
theorem ArgPost.none_ {f g : List UInt8 → Option Nat} {t : List UInt8} {b : Nat} {w w' : World} (h : argP f g t = none) (hs : Saves (fun k => k = b) w w') : ArgPost f g t b w pan w' := by
  rw [ArgPost, h]; exact ⟨rfl, hs⟩
theorem ArgPost.some_ {f g : List UInt8 → Option Nat} {t r : List UInt8} {x : T} {b : Nat} {w w' : World} {v : Value} {us : List Value} (h : argP f g t = some (x, r)) (h1 : Mk w.heap.size w' x.args v us)
    (h4 : Blk w' b 161 #[.string ⟨r.toArray⟩]) (hs : Saves (fun k => k = b) w w') : ArgPost f g t b w (.returned (.agg #[.int .i64 x.kind, .int .i64 x.num, v])) w' := by
  rw [ArgPost, h]; exact ⟨v, us, rfl, h1, h4, hs⟩

theorem argRd_results {tmps : Array Value} {w : World} {a : Nat} {x y z : Value} (h2 : tmps.getD 4 undef = .pointer (some ⟨a, 0, none⟩))
    (ha : Blk w a 34 #[x, y, z]) : (results Tryz.f118 tmps).run Tryz.prog w = .ok (.agg #[x, y, z]) w := by
  have h0 := ha.cell 0
  have h1 := ha.cell 1
  have h3 := ha.cell 2
  simp at h0 h1 h3
  have h2' : tmps[4]?.getD undef = .pointer (some ⟨a, 0, none⟩) := by simpa using h2
  simp [results, Tryz.results118, go_sem, h2', h0, h1, h3]

/-- The three cells of a result, written. -/
theorem res_end {w w2 : World} {b gr : Nat} {q : List UInt8} {k n v x0 x1 x2 : Value} (hgr : w.heap.size ≤ gr) (r2 : Blk w2 gr 34 #[x0, x1, x2]) (b2 : Blk w2 b 161 #[.string ⟨q.toArray⟩]) (hs : Saves (fun k => k = b) w w2) (hne : b ≠ gr) :
    Blk (((w2.setCell ⟨gr, 0, none⟩ k).setCell ⟨gr, 1, none⟩ n).setCell ⟨gr, 2, none⟩ v) gr 34 #[k, n, v] ∧
      Blk (((w2.setCell ⟨gr, 0, none⟩ k).setCell ⟨gr, 1, none⟩ n).setCell ⟨gr, 2, none⟩ v) b 161 #[.string ⟨q.toArray⟩] ∧
      Saves (fun k => k = b) w (((w2.setCell ⟨gr, 0, none⟩ k).setCell ⟨gr, 1, none⟩ n).setCell ⟨gr, 2, none⟩ v) :=
  ⟨(((r2.set_ 0 _).set_ 1 _).set_ 2 _).eq_ rfl, ((b2.far (p := ⟨gr, 0, none⟩) hne _).far (p := ⟨gr, 1, none⟩) hne _).far (p := ⟨gr, 2, none⟩) hne _,
    ((hs.setCell (p := ⟨gr, 0, none⟩) (.inr hgr) _).setCell (p := ⟨gr, 1, none⟩) (.inr hgr) _).setCell (p := ⟨gr, 2, none⟩) (.inr hgr) _⟩
theorem Mk.end_ {B gr : Nat} {w2 : World} {l : List T} {v : Value} {us : List Value} (h : Mk B w2 l v us) (hg : gr < B) (x0 x1 x2 : Value) : Mk B (((w2.setCell ⟨gr, 0, none⟩ x0).setCell ⟨gr, 1, none⟩ x1).setCell ⟨gr, 2, none⟩ x2) l v us :=
  ((h.put hg x0).put hg x1).put hg x2
/-- Kept where only block b, below them, has changed. -/
theorem Mk.saves {B b : Nat} {w w' : World} {l : List T} {v : Value} {us : List Value} (h : Mk B w l v us) (hb : b < B) (hs : Saves (fun k => k = b) w w') : Mk B w' l v us :=
  h.keep hs.size (fun k hk hl => hs.block k hl (by omega))

set_option maxRecDepth 100000 in
set_option maxHeartbeats 1600000 in
theorem argRd_any {b rb m1 m2 n1 n2 : Nat} {ws : Bool} {f g : List UInt8 → Option Nat} (hfb : ∀ s i, f s = some i → i ≤ 1000000) (hgb : ∀ s i, g s = some i → i ≤ 1000000) {K : Nat}
    (ih : ∀ (t : List UInt8) (w : World), t.length < K → t.length ≤ 65536 → RdCtx b rb m1 m2 n1 n2 ws f g w → Blk w b 161 #[.string ⟨t.toArray⟩] → Calls Tryz.prog 71 #[.pointer (some ⟨rb, 0, none⟩), .pointer (some ⟨b, 0, none⟩)] w (TermPost f g t b w))
    (t : List UInt8) (w : World) (hK : t.length ≤ K) (hL : t.length ≤ 65536) (hc : RdCtx b rb m1 m2 n1 n2 ws f g w) (hb : Blk w b 161 #[.string ⟨t.toArray⟩]) :
    Calls Tryz.prog 118 #[.pointer (some ⟨rb, 0, none⟩), .pointer (some ⟨b, 0, none⟩)] w (ArgPost f g t b w) := by
  have hbw := hb.lt
  have s0 : Saves (fun k => k = b) w (w.alloc (.cells #[.int .i64 0, .int .i64 0, .slice none 0 0] 34)) := (Saves.refl _ _).alloc _
  have b0 : Blk (w.alloc (.cells #[.int .i64 0, .int .i64 0, .slice none 0 0] 34)) b 161 #[.string ⟨t.toArray⟩] := hb.alloc _
  have r0 := Blk.new w 34 #[.int .i64 0, .int .i64 0, .slice none 0 0]
  have hgr : ¬ w.heap.size = b := by omega
  have c0 := hc.next s0
  have hz0 : (w.alloc (.cells #[.int .i64 0, .int .i64 0, .slice none 0 0] 34)).heap.size = w.heap.size + 1 := by simp
  have hA := argP_eq f g t
  cases h1 : strip [40] t with
  | none =>
    have H1 := Lib.hid (skip_no h1 b _ b0)
    have HH := Lib.hid (fun W (hc' : RdCtx b rb m1 m2 n1 n2 ws f g W) hbl => head_any' hfb hgb t W hc' hbl hL)
    rw [h1] at hA
    cases hh : headP f g t with
    | none =>
      have HQ : Hid (∀ W e w', HeadPost f g t b W e w' → e = pan ∧ Saves (fun k => k = b) W w') := Lib.hid (fun W e w' h => by rw [HeadPost, hh] at h; exact h)
      have HP : Hid (argP f g t = none) := Lib.hid (by rw [hA]; simp [hh])
      clear h1 hh hA ih
      go_enter Tryz.func118, Tryz.ntmps118
      go_wp2_with fail
      refine H1.out.mono ?_
      rintro e w1 ⟨rfl, b1, s1⟩
      have c1 := c0.next s1
      go_wp2_with fail
      refine (HH.out w1 c1 b1).mono ?_
      intro e w2 h2
      obtain ⟨rfl, s2⟩ := HQ.out _ _ _ h2
      exact ⟨rfl, ArgPost.none_ HP.out ((s0.trans s1).trans s2)⟩
    | some y =>
      obtain ⟨y, q⟩ := y
      have HQ : Hid (∀ W e w', HeadPost f g t b W e w' → e = .returned (.agg #[.int .i64 y.1, .int .i64 y.2, .slice none 0 0]) ∧ Blk w' b 161 #[.string ⟨q.toArray⟩] ∧ Saves (fun k => k = b) W w') := Lib.hid (fun W e w' h => by rw [HeadPost, hh] at h; exact h)
      have HP : Hid (argP f g t = some (.mk y.1 y.2 [], q)) := Lib.hid (by rw [hA]; simp [hh])
      clear h1 hh hA ih
      go_enter Tryz.func118, Tryz.ntmps118
      go_wp2_with fail
      refine H1.out.mono ?_
      rintro e w1 ⟨rfl, b1, s1⟩
      have c1 := c0.next s1
      go_wp2_with fail
      refine (HH.out w1 c1 b1).mono ?_
      intro e w2 h2
      obtain ⟨rfl, b2, s2⟩ := HQ.out _ _ _ h2
      have r2 := (r0.saves s1 hgr).saves s2 hgr
      have x0 := r2.cell 0
      have x1 := r2.cell 1
      have x2 := r2.cell 2
      have y0 := r2.frozen 0
      have y1 := r2.frozen 1
      have y2 := r2.frozen 2
      simp at x0 x1 x2
      go_wp2_with fail
      obtain ⟨z1, z2, z3⟩ := res_end (k := .int .i64 y.1) (n := .int .i64 y.2) (v := .slice none 0 0) (Nat.le_refl _) r2 b2 ((s0.trans s1).trans s2) (by omega)
      exact bodyPost_ret (argRd_results rfl z1) rfl (ArgPost.some_ (x := .mk y.1 y.2 []) HP.out (Mk.nil _ _) z2 z3)
  | some r =>
    have l1 := strip_len h1
    simp at l1
    have H1 := Lib.hid (skip_yes h1 b _ b0)
    have HT := Lib.hid (fun W hc' hbl => ih r W (by omega) (by omega) hc' hbl)
    rw [h1] at hA
    clear ih
    cases ht : termP f g r with
    | none =>
      have HQ : Hid (∀ W e w', TermPost f g r b W e w' → e = pan ∧ Saves (fun k => k = b) W w') := Lib.hid (fun W e w' h => by rw [TermPost, ht] at h; exact h)
      have HP : Hid (argP f g t = none) := Lib.hid (by rw [hA]; simp [ht])
      clear h1 ht hA
      go_enter Tryz.func118, Tryz.ntmps118
      go_wp2_with fail
      refine H1.out.mono ?_
      rintro e w1 ⟨rfl, b1, s1⟩
      have c1 := c0.next s1
      go_wp2_with fail
      refine (HT.out w1 c1 b1).mono ?_
      intro e w2 h2
      obtain ⟨rfl, s2⟩ := HQ.out _ _ _ h2
      exact ⟨rfl, ArgPost.none_ HP.out ((s0.trans s1).trans s2)⟩
    | some y =>
      obtain ⟨x, q⟩ := y
      have HQ : Hid (∀ W e w', TermPost f g r b W e w' → ∃ v us, e = .returned (.agg #[.int .i64 x.kind, .int .i64 x.num, v]) ∧ Mk W.heap.size w' x.args v us ∧ Blk w' b 161 #[.string ⟨q.toArray⟩] ∧ Saves (fun k => k = b) W w') :=
        Lib.hid (fun W e w' h => by rw [TermPost, ht] at h; exact h)
      by_cases hx : x.args = []
      · have HP : Hid (argP f g t = none) := Lib.hid (by rw [hA]; simp [ht, hx])
        have HX := Lib.hid hx
        clear h1 ht hA hx
        go_enter Tryz.func118, Tryz.ntmps118
        go_wp2_with fail
        refine H1.out.mono ?_
        rintro e w1 ⟨rfl, b1, s1⟩
        have c1 := c0.next s1
        go_wp2_with fail
        refine (HT.out w1 c1 b1).mono ?_
        intro e w2 h2
        obtain ⟨v, us, rfl, g1, g2, g3⟩ := HQ.out _ _ _ h2
        obtain ⟨A, c, rfl⟩ := g1.form
        have hx0 : x.args.length = 0 := by rw [HX.out] <;> rfl
        go_wp2_with fail
        refine (must_no b _).mono ?_
        rintro e w3 ⟨rfl, rfl⟩
        exact ⟨rfl, ArgPost.none_ HP.out (((s0.trans s1).trans g3).alloc _)⟩
      · have hx' : x.args.isEmpty = false := by simpa using hx
        have hxl : 0 < x.args.length := List.length_pos_iff.2 hx
        have HXL := Lib.hid hxl
        cases h3 : strip [41] q with
        | none =>
          have HP : Hid (argP f g t = none) := Lib.hid (by rw [hA]; simp [ht, hx', h3])
          have H3 := Lib.hid (fun W => word_no h3 b W)
          clear h1 ht hA hx hx' h3 hxl
          go_enter Tryz.func118, Tryz.ntmps118
          go_wp2_with fail
          refine H1.out.mono ?_
          rintro e w1 ⟨rfl, b1, s1⟩
          have c1 := c0.next s1
          go_wp2_with fail
          refine (HT.out w1 c1 b1).mono ?_
          intro e w2 h2
          obtain ⟨v, us, rfl, g1, g2, g3⟩ := HQ.out _ _ _ h2
          obtain ⟨A, c, rfl⟩ := g1.form
          have hgt : decide (0 < x.args.length) = true := decide_eq_true HXL.out
          have b3 := g2.alloc (.cells #[.int .i64 x.kind, .int .i64 x.num, .slice A x.args.length c] 34)
          have H4 := Lib.hid (H3.out _ b3)
          go_wp2_with fail
          refine (must_yes b _).mono ?_
          rintro e w3 ⟨rfl, rfl⟩
          go_wp2_with fail
          refine H4.out.mono ?_
          rintro e w3 ⟨rfl, s4⟩
          exact ⟨rfl, ArgPost.none_ HP.out ((((s0.trans s1).trans g3).alloc _).trans s4)⟩
        | some z =>
          have HP : Hid (argP f g t = some (x, z)) := Lib.hid (by rw [hA]; simp [ht, hx', h3])
          have H3 := Lib.hid (fun W => word_yes h3 b W)
          clear h1 ht hA hx hx' h3 hxl
          go_enter Tryz.func118, Tryz.ntmps118
          go_wp2_with fail
          refine H1.out.mono ?_
          rintro e w1 ⟨rfl, b1, s1⟩
          have c1 := c0.next s1
          go_wp2_with fail
          refine (HT.out w1 c1 b1).mono ?_
          intro e w2 h2
          obtain ⟨v, us, rfl, g1, g2, g3⟩ := HQ.out _ _ _ h2
          obtain ⟨A, c, rfl⟩ := g1.form
          have hgt : decide (0 < x.args.length) = true := decide_eq_true HXL.out
          have hz1 := s1.size
          have hz2 := g3.size
          have b3 := g2.alloc (.cells #[.int .i64 x.kind, .int .i64 x.num, .slice A x.args.length c] 34)
          have q3 := ((r0.saves s1 hgr).saves g3 hgr).alloc (.cells #[.int .i64 x.kind, .int .i64 x.num, .slice A x.args.length c] 34)
          have p3 := Blk.new w2 34 #[.int .i64 x.kind, .int .i64 x.num, .slice A x.args.length c]
          have m3 := g1.below ((Below.refl _ _).alloc (Nat.le_refl _) (.cells #[.int .i64 x.kind, .int .i64 x.num, .slice A x.args.length c] 34))
          have H4 := Lib.hid (H3.out _ b3)
          go_wp2_with fail
          refine (must_yes b _).mono ?_
          rintro e w4 ⟨rfl, rfl⟩
          go_wp2_with fail
          refine H4.out.mono ?_
          rintro e w4 ⟨rfl, b4, s4⟩
          have q4 := q3.saves s4 hgr
          have p4 := p3.saves s4 (by have := g2.lt; omega)
          have m4 := m3.saves (by omega) s4
          have x0 := q4.cell 0
          have x1 := q4.cell 1
          have x2 := q4.cell 2
          have y0 := q4.frozen 0
          have y1 := q4.frozen 1
          have y2 := q4.frozen 2
          have u0 := p4.cell 0
          have u1 := p4.cell 1
          have u2 := p4.cell 2
          simp at x0 x1 x2 u0 u1 u2
          go_wp2_with fail
          obtain ⟨z1, z2, z3⟩ := res_end (k := .int .i64 x.kind) (n := .int .i64 x.num) (v := .slice A x.args.length c) (Nat.le_refl _) q4 b4 ((((s0.trans s1).trans g3).alloc _).trans s4) (by omega)
          exact bodyPost_ret (argRd_results rfl z1) rfl (ArgPost.some_ HP.out ((m4.end_ (gr := w.heap.size) (by omega) _ _ _).less (by omega)) z2 z3)
end Go.Proofs.YtbbejhhohppdhaaGreatDoor

namespace Go.Proofs.YtbbejhhohppdhaaGreatDoor
open Go.RowKit Go.Shelf

theorem termRd_results {tmps : Array Value} {w : World} {a : Nat} {x y z : Value} (h2 : tmps.getD 4 undef = .pointer (some ⟨a, 0, none⟩))
    (ha : Blk w a 34 #[x, y, z]) : (results Tryz.f71 tmps).run Tryz.prog w = .ok (.agg #[x, y, z]) w := by
  have h0 := ha.cell 0
  have h1 := ha.cell 1
  have h3 := ha.cell 2
  simp at h0 h1 h3
  have h2' : tmps[4]?.getD undef = .pointer (some ⟨a, 0, none⟩) := by simpa using h2
  simp [results, Tryz.results71, go_sem, h2', h0, h1, h3]

theorem ArgPost.cases_ {f g : List UInt8 → Option Nat} {r : List UInt8} {b : Nat} {W w' : World} {e : Ending} (h : ArgPost f g r b W e w') :
    (argP f g r = none ∧ e = pan ∧ Saves (fun k => k = b) W w') ∨
    (∃ x q v us, argP f g r = some (x, q) ∧ e = .returned (.agg #[.int .i64 x.kind, .int .i64 x.num, v]) ∧ Mk W.heap.size w' x.args v us ∧ Blk w' b 161 #[.string ⟨q.toArray⟩] ∧ Saves (fun k => k = b) W w') := by
  rw [ArgPost] at h
  cases ha : argP f g r with
  | none => rw [ha] at h; exact .inl ⟨rfl, h⟩
  | some y =>
    obtain ⟨x, q⟩ := y
    rw [ha] at h
    obtain ⟨v, us, h⟩ := h
    exact .inr ⟨x, q, v, us, rfl, h⟩

/-- The loop's relation: the reader has t' left, the arguments acc have been read. -/
structure RdT (f g : List UInt8 → Option Nat) (t0 : List UInt8) (b gr : Nat) (kd nm : Int) (w : World) (acc : List T) (t' : List UInt8) (cv : Value) (us : List Value) (wr : World) : Prop where
  lst : Mk (gr + 1) wr acc cv us
  box : Blk wr gr 34 #[.int .i64 kd, .int .i64 nm, cv]
  res : Blk wr w.heap.size 34 #[.int .i64 0, .int .i64 0, .slice none 0 0]
  text : Blk wr b 161 #[.string ⟨t'.toArray⟩]
  same : argsP f g [] t0 = argsP f g acc t'
  len : acc.length + t'.length ≤ t0.length
  sav : Saves (fun k => k = b) w wr
  far : w.heap.size < gr
  hb : b < w.heap.size

theorem RdT.next {f g : List UInt8 → Option Nat} {t0 : List UInt8} {b gr : Nat} {kd nm : Int} {w wr w1 w2 : World} {acc : List T} {t' q : List UInt8} {cv : Value} {us : List Value} {y : T} {u : Value} {us1 : List Value} {o1 : Obj} {gg cap : Nat}
    (hr : RdT f g t0 b gr kd nm w acc t' cv us wr) (hm1 : Mk wr.heap.size w1 y.args u us1) (hs1 : Saves (fun k => k = b) wr w1) (hb1 : Blk w1 b 161 #[.string ⟨q.toArray⟩])
    (hq : argsP f g [] t0 = argsP f g (acc ++ [y]) q) (hl : q.length < t'.length)
    (hown2 : w2.ownsRow (gr + 1) 34 3 (.slice (some ⟨gg, 0, none⟩) (acc.length + 1) cap) (acc.length + 1) (us ++ [.int .i64 y.kind, .int .i64 y.num, u])) (hgrow : (w1.alloc o1).grownBy w2 cv.ownBlock)
    (hat : cv.ownBlock = some gg ∨ gg = w1.heap.size + 1) :
    RdT f g t0 b gr kd nm w (acc ++ [y]) q (.slice (some ⟨gg, 0, none⟩) (acc.length + 1) cap) (us ++ [.int .i64 y.kind, .int .i64 y.num, u]) (w2.setCell ⟨gr, 2, none⟩ (.slice (some ⟨gg, 0, none⟩) (acc.length + 1) cap)) := by
  have hgrl : gr < wr.heap.size := hr.box.lt
  have hfar := hr.far
  have hbl := hr.hb
  have hcv : ∀ b, cv.ownBlock = some b → gr + 1 ≤ b ∧ b < wr.heap.size := fun b hb => hr.lst.lt hb
  have hz1 := hs1.size
  have hz2 := hgrow.size
  simp only [World.size_alloc] at hz2
  have hk1 : ∀ k, gr + 1 ≤ k → k < wr.heap.size → w1.heap[k]? = wr.heap[k]? := fun k hk hk2 => hs1.block k hk2 (by omega)
  have hkb : ∀ k, k < w1.heap.size → cv.ownBlock ≠ some k → w2.heap[k]? = w1.heap[k]? := fun k hk hne => by
    rw [hgrow.block k (by simp; omega) (fun e => hne e.symm), Below.heap_alloc _ _ _ hk]
  have hsg : Saves (fun k => k = b ∨ (gr + 1 ≤ k ∧ k < wr.heap.size)) wr w2 :=
    ⟨hgrow.os.trans hs1.os, hgrow.tape.trans hs1.tape, hgrow.output.trans hs1.output, by omega,
      fun k hk hne => (hkb k (by omega) (fun e => hne (.inr (hcv k e)))).trans (hs1.block k hk (fun e => hne (.inl e)))⟩
  have hb2 : Blk w2 b 161 #[.string ⟨q.toArray⟩] := (hkb b hb1.lt (fun e => by have := hcv b e; omega)).trans hb1
  have hx2 : Blk w2 gr 34 #[.int .i64 kd, .int .i64 nm, cv] := hr.box.saves hsg (by omega)
  have hr2 : Blk w2 w.heap.size 34 #[.int .i64 0, .int .i64 0, .slice none 0 0] := hr.res.saves hsg (by omega)
  refine ⟨?_, hx2.set_ 2 _, hr2.far (by simp; omega) _, hb2.far (by simp; omega) _, hq, ?_, ?_, hfar, hbl⟩
  · refine Mk.put ?_ (by omega) _
    have hpush := hr.lst.less (B' := gr + 1) (Nat.le_refl _)
    have hm := hpush.keep (w' := w1) hz1 (fun k hk hk2 => hk1 k hk hk2)
    have hcv1 : ∀ k, cv.ownBlock = some k → k < wr.heap.size := fun k e => (hcv k e).2
    refine ⟨by rw [List.length_append]; exact hown2, ?_⟩
    refine T.NRow.snoc ?_ ?_
    · refine (hm1.nterm.keep (fun k hk => hkb k hk.2 (fun e => by have := hcv1 k e; have := hk.1; omega)) _).more (fun k hk => ⟨by have := hk.1; omega, by have := hk.2; omega, fun e => ?_⟩) _
      have e' : gg = k := by simpa [Value.ownBlock] using e
      rcases hat with ha | ha
      · have := hcv1 gg ha; have := hk.1; omega
      · have := hk.2; omega
    · refine (hr.lst.nrow.keep (w' := w2) (fun k hk => (hkb k (by have := hk.2.1; omega) hk.2.2).trans (hk1 k hk.1 hk.2.1)) acc).more (fun k hk => ⟨hk.1, by have := hk.2.1; omega, fun e => ?_⟩) acc
      have e' : gg = k := by simpa [Value.ownBlock] using e
      rcases hat with ha | ha
      · exact hk.2.2 (by rw [ha, e'])
      · have := hk.2.1; omega
  · have := hr.len
    simp only [List.length_append, List.length_cons, List.length_nil]; omega
  · have hs2 : Saves (fun k => k = b) w w2 := by
      have hz0 := hr.sav.size
      refine ⟨hsg.os.trans hr.sav.os, hsg.tape.trans hr.sav.tape, hsg.output.trans hr.sav.output, by omega, fun k hk hne => ?_⟩
      exact (hkb k (by omega) (fun e => by have := hcv k e; omega)).trans ((hs1.block k (by omega) hne).trans (hr.sav.block k hk hne))
    exact hs2.setCell (p := ⟨gr, 2, none⟩) (.inr (by show w.heap.size ≤ gr; omega)) _

set_option maxRecDepth 100000 in
set_option maxHeartbeats 3200000 in
theorem termRd_any {b rb m1 m2 n1 n2 : Nat} {ws : Bool} {f g : List UInt8 → Option Nat} (hfb : ∀ s i, f s = some i → i ≤ 1000000) (hgb : ∀ s i, g s = some i → i ≤ 1000000) (K : Nat) :
    ∀ (t : List UInt8) (w : World), t.length < K → t.length ≤ 65536 → RdCtx b rb m1 m2 n1 n2 ws f g w → Blk w b 161 #[.string ⟨t.toArray⟩] →
      Calls Tryz.prog 71 #[.pointer (some ⟨rb, 0, none⟩), .pointer (some ⟨b, 0, none⟩)] w (TermPost f g t b w) := by
  induction K with
  | zero => intro t w h; omega
  | succ K ih =>
    intro t w hK hL hc hb
    have hbw := hb.lt
    obtain ⟨i0, hi0, hz0, hz1, hz2⟩ := info_parts term_info
    have HA := Lib.hid (fun r W (h1 : r.length ≤ K) (h2 : r.length ≤ 65536) hc' hb' => argRd_any hfb hgb ih r W h1 h2 hc' hb')
    have s0 : Saves (fun k => k = b) w (w.alloc (.cells #[.int .i64 0, .int .i64 0, .slice none 0 0] 34)) := (Saves.refl _ _).alloc _
    have b0 : Blk (w.alloc (.cells #[.int .i64 0, .int .i64 0, .slice none 0 0] 34)) b 161 #[.string ⟨t.toArray⟩] := hb.alloc _
    have r0 := Blk.new w 34 #[.int .i64 0, .int .i64 0, .slice none 0 0]
    have hgr : ¬ w.heap.size = b := by omega
    have c0 := hc.next s0
    have hz00 : (w.alloc (.cells #[.int .i64 0, .int .i64 0, .slice none 0 0] 34)).heap.size = w.heap.size + 1 := by simp
    have HH := Lib.hid (head_any' hfb hgb t _ c0 b0 hL)
    have hT := termP_eq f g t
    clear ih
    cases hh : headP f g t with
    | none =>
      have HQ : Hid (∀ W e w', HeadPost f g t b W e w' → e = pan ∧ Saves (fun k => k = b) W w') := Lib.hid (fun W e w' h => by rw [HeadPost, hh] at h; exact h)
      have HP : Hid (termP f g t = none) := Lib.hid (by rw [hT]; simp [hh])
      clear hh hT
      go_enter Tryz.func71, Tryz.ntmps71
      go_wp2_with fail
      refine HH.out.mono ?_
      intro e w2 h2
      obtain ⟨rfl, s2⟩ := HQ.out _ _ _ h2
      exact ⟨rfl, TermPost.none_ HP.out (s0.trans s2)⟩
    | some y =>
      obtain ⟨⟨kd, nm⟩, t0⟩ := y
      have hl0 := headP_le hh
      have HQ : Hid (∀ W e w', HeadPost f g t b W e w' → e = .returned (.agg #[.int .i64 kd, .int .i64 nm, .slice none 0 0]) ∧ Blk w' b 161 #[.string ⟨t0.toArray⟩] ∧ Saves (fun k => k = b) W w') := Lib.hid (fun W e w' h => by rw [HeadPost, hh] at h; exact h)
      have hT2 : termP f g t = match argsP f g [] t0 with | some (l, z) => some (.mk kd nm l, z) | none => none := by rw [hT, hh] <;> rfl
      have HT := Lib.hid hT2
      clear hh hT hT2
      go_enter Tryz.func71, Tryz.ntmps71
      go_wp2_with fail
      refine HH.out.mono ?_
      intro e w1 h2
      obtain ⟨rfl, b1, s1⟩ := HQ.out _ _ _ h2
      have hzs1 := s1.size
      have r1 := r0.saves s1 hgr
      have hstart : RdT f g t0 b w1.heap.size kd nm w [] t0 (.slice none 0 0) [] (w1.alloc (.cells #[.int .i64 kd, .int .i64 nm, .slice none 0 0] 34)) :=
        ⟨Mk.nil _ _, Blk.new w1 _ _, r1.alloc _, b1.alloc _, rfl, by simp, (s0.trans s1).alloc _, by omega, hbw⟩
      have HS := Lib.hid hstart
      clear hstart
      go_wp2_with fail
      go_loopw [] (fun wr => ∃ acc t' cv us, RdT f g t0 b w1.heap.size kd nm w acc t' cv us wr) (fun wr => leftIn (wr.cell? ⟨b, 0, none⟩))
      case atStart => exact ⟨_, _, _, _, HS.out⟩
      case round =>
        obtain ⟨acc, t', cv, us, hr⟩ := hrel
        have hlen := hr.len
        have hE := argsP_eq f g acc t'
        rw [← hr.same] at hE
        have hszr := hr.sav.size
        have hbl := hr.box.lt
        have hfar := hr.far
        have hcr := hc.next hr.sav
        cases hst : strip [32] t' with
        | none =>
          have H3 := Lib.hid (skip_no hst b wr hr.text)
          rw [hst] at hE
          have hN : termP f g t = some (.mk kd nm acc, t') := by rw [HT.out, hE]
          have HN := Lib.hid hN
          clear hE hN hst
          go_wp2_with fail
          refine H3.out.mono ?_
          rintro e w2 ⟨rfl, b3, s3⟩
          have x2 := hr.box.saves s3 (by omega)
          have e2 := hr.res.saves s3 (by omega)
          have l2 := hr.lst.saves (by omega) s3
          obtain ⟨A3, c3, rfl⟩ := l2.form
          have d0 := x2.cell 0
          have d1 := x2.cell 1
          have d2 := x2.cell 2
          have f0 := e2.frozen 0
          have f1 := e2.frozen 1
          have f2 := e2.frozen 2
          have g0 := e2.cell 0
          have g1 := e2.cell 1
          have g2 := e2.cell 2
          simp at d0 d1 d2 g0 g1 g2
          go_wp2_with fail
          obtain ⟨z1, z2, z3⟩ := res_end (k := .int .i64 kd) (n := .int .i64 nm) (v := .slice A3 acc.length c3) (Nat.le_refl _) e2 b3 (hr.sav.trans s3) (by omega)
          exact bodyPost_ret (termRd_results rfl z1) rfl (TermPost.some_ (x := .mk kd nm acc) HN.out ((l2.end_ (gr := w.heap.size) (by omega) _ _ _).less (by omega)) z2 z3)
        | some r =>
          have lr := strip_len hst
          simp at lr
          have H3 := Lib.hid (skip_yes hst b wr hr.text)
          rw [hst] at hE
          have HC := Lib.hid (fun W hc' hb' => HA.out r W (by omega) (by omega) hc' hb')
          have HN : Hid (argP f g r = none → termP f g t = none) := Lib.hid (fun ha => by rw [HT.out, hE]; simp [ha])
          have HY : Hid (∀ x q, argP f g r = some (x, q) → argsP f g [] t0 = argsP f g (acc ++ [x]) q) := Lib.hid (fun x q ha => by rw [hE]; simp [ha])
          have HR := Lib.hid hr
          have hacc : acc.length ≤ 65536 := by omega
          clear hE hst hr
          go_wp2_with fail
          refine H3.out.mono ?_
          rintro e w2 ⟨rfl, b3, s3⟩
          have hr2 : RdT f g t0 b w1.heap.size kd nm w acc t' cv us wr := HR.out
          have hz3 := s3.size
          have x2 := hr2.box.saves s3 (by omega)
          have e2 := hr2.res.saves s3 (by omega)
          have d2 := x2.cell 2
          simp at d2
          have l2 := hr2.lst.saves (by omega) s3
          have cr2 := hcr.next s3
          have SW : Saves (fun k => k = b) w w2 := hr2.sav.trans s3
          have hk2 : ∀ k, cv.ownBlock = some k → w1.heap.size + 1 ≤ k ∧ k < w2.heap.size := fun k hk => l2.lt hk
          go_wp2_with fail
          go_region_law
            (first
              | (go_simp; go_at_call 118; refine (HC.out _ (by exact cr2.next (Saves.refl _ _).drew) (by exact b3)).mono ?_; intro e w3 h4; rcases h4.cases_ with ⟨hn, rfl, s4⟩ | ⟨x, q, v1, us1, ha, rfl, hm1, hb1, hs1⟩
                 · exact ⟨rfl, TermPost.none_ (HN.out hn) (SW.drew.trans s4)⟩
                 have HAQ := Lib.hid ha
                 clear ha
                 have hone : v1.oneCell' = true := by obtain ⟨A1, c1, rfl⟩ := hm1.form; rfl
                 have hwz : w2.heap.size ≤ w3.heap.size := hs1.size
                 have hss : Saves (fun k => k = b) w2 w3 := ((Saves.refl _ _).drew).trans hs1
                 have hown1 : w3.ownsRow (w1.heap.size + 1) 34 3 cv acc.length us := (l2.saves (by omega) hss).own
                 have hblk1 : Blk w3 w1.heap.size 34 #[.int .i64 kd, .int .i64 nm, cv] := x2.saves hss (by omega)
                 have p1 := hblk1.cell 2
                 have p2 : (w3.alloc (.cells #[.int .i64 x.kind, .int .i64 x.num, v1] 34)).cell? ⟨w1.heap.size, 2, none⟩ = some cv := (hblk1.alloc _).cell 2
                 simp at p1)
              | (refine step_append_lies _ (by rfl) _ _ _ (by rfl) (w1.heap.size + 1) 34 i0 _ 3 40 Tryz.underlying32 hi0 hz0 hz1 hz2 rfl (by omega) cv _ us (by rfl) (by exact (hown1.alloc _))
                  ⟨w3.heap.size, 0, none⟩ 1 1 [.int .i64 x.kind, .int .i64 x.num, v1] (by rfl) (by rfl) (by exact World.news_of_block (cs := #[.int .i64 x.kind, .int .i64 x.num, v1]) (t := 34) (fr := (0, 0)) (heap_alloc_new w3 _)) (by exact hones _ _ _ hone) (by omega) (by simp only [maxLen]; omega) (by omega) (by simp; omega) (w3.heap.size + 1) (by simp) ?_; intro gg cap w4 hown2 hgrow hat hlt2
                 have hblk2 : Blk w4 w1.heap.size 34 #[.int .i64 kd, .int .i64 nm, cv] := (hgrow.block _ (by simp; omega) (fun e => by have := (hk2 _ e.symm).1; omega)).trans (hblk1.alloc _)
                 have q1 := hblk2.cell 2
                 have q2 := hblk2.frozen 2
                 simp at q1))
          all_goals
            go_wp2_with fail
            go_roundw
            case rel => exact ⟨_, q, _, _, hr2.next (hm1.less hz3) (s3.trans hss) hb1 (HY.out _ _ HAQ.out) (by have := argP_le HAQ.out; omega) hown2 hgrow hat⟩
            case measure =>
              have hbt4 : Blk (w4.setCell ⟨w1.heap.size, 2, none⟩ (.slice (some ⟨gg, 0, none⟩) (acc.length + 1) cap)) b 161 #[.string ⟨q.toArray⟩] :=
                (hr2.next (hm1.less hz3) (s3.trans hss) hb1 (HY.out _ _ HAQ.out) (by have := argP_le HAQ.out; omega) hown2 hgrow hat).text
              have hq := hbt4.cell 0
              have ht := hr2.text.cell 0
              simp only [List.getElem?_toArray, List.getElem?_cons_zero] at hq ht
              rw [hq, ht]
              have := argP_le HAQ.out
              show q.toArray.size < t'.toArray.size
              simp
              omega
end Go.Proofs.YtbbejhhohppdhaaGreatDoor

namespace Go.Proofs.YtbbejhhohppdhaaGreatDoor
open Go.RowKit Go.Shelf

/-- What the reader holds in memory, whatever text it reads. -/
structure RdBase (rb m1 m2 n1 n2 : Nat) (ws : Bool) (f g : List UInt8 → Option Nat) (w : World) : Prop where
  rd : Blk w rb 54 #[.map (some m1), .map (some m2), .bool ws]
  ms : MapN w m1 n1 f
  mf : MapN w m2 n2 g
  gv : GV w
  h8 : 8 ≤ w.heap.size
theorem RdBase.below {rb m1 m2 n1 n2 : Nat} {ws : Bool} {f g : List UInt8 → Option Nat} {w w' : World} (h : RdBase rb m1 m2 n1 n2 ws f g w) (hb : Below w.heap.size w w') : RdBase rb m1 m2 n1 n2 ws f g w' :=
  ⟨h.rd.below hb h.rd.lt, h.ms.same (hb.block _ h.ms.lt), h.mf.same (hb.block _ h.mf.lt), h.gv.saves (Saves.of_below hb) h.h8 (fun _ _ e => e), Nat.le_trans h.h8 hb.size⟩
theorem RdBase.ctx {b rb m1 m2 n1 n2 : Nat} {ws : Bool} {f g : List UInt8 → Option Nat} {w w' : World} (h : RdBase rb m1 m2 n1 n2 ws f g w) (hb : Below w.heap.size w w') (h1 : w.heap.size ≤ b) (h2 : b < w'.heap.size) : RdCtx b rb m1 m2 n1 n2 ws f g w' :=
  have h' := h.below hb
  have l1 := h.rd.lt
  have l2 := h.ms.lt
  have l3 := h.mf.lt
  ⟨h'.rd, h'.ms, h'.mf, h'.gv, by have := h.h8; omega, h2, by omega, by omega, by omega⟩

/-- The term whose string a list of bytes is. -/
def wholeT (f g : List UInt8 → Option Nat) (t : List UInt8) : Option T := match termP f g t with
  | some (x, []) => some x
  | _ => none
theorem wholeT_none {f g : List UInt8 → Option Nat} {t : List UInt8} (h : termP f g t = none) : wholeT f g t = none := by rw [wholeT, h]
theorem wholeT_rest {f g : List UInt8 → Option Nat} {t r : List UInt8} {x : T} (h : termP f g t = some (x, r)) (hr : r ≠ []) : wholeT f g t = none := by
  rw [wholeT, h]
  cases r with
  | nil => exact absurd rfl hr
  | cons a r => rfl
theorem wholeT_some {f g : List UInt8 → Option Nat} {t : List UInt8} {x : T} (h : termP f g t = some (x, [])) : wholeT f g t = some x := by rw [wholeT, h]
/-- What All leaves. -/
def AllTPost (f g : List UInt8 → Option Nat) (t : List UInt8) (w : World) (e : Ending) (w' : World) : Prop :=
  match wholeT f g t with
  | some x => ∃ v us, e = .returned (.agg #[.int .i64 x.kind, .int .i64 x.num, v]) ∧ Mk w.heap.size w' x.args v us ∧ Below w.heap.size w w'
  | none => e = pan ∧ Below w.heap.size w w'
theorem AllTPost.none_ {f g : List UInt8 → Option Nat} {t : List UInt8} {w w' : World} (h : wholeT f g t = none) (hb : Below w.heap.size w w') : AllTPost f g t w pan w' := by
  rw [AllTPost, h]; exact ⟨rfl, hb⟩
theorem AllTPost.some_ {f g : List UInt8 → Option Nat} {t : List UInt8} {x : T} {w w' : World} {v : Value} {us : List Value} (h : wholeT f g t = some x) (h1 : Mk w.heap.size w' x.args v us) (hb : Below w.heap.size w w') :
    AllTPost f g t w (.returned (.agg #[.int .i64 x.kind, .int .i64 x.num, v])) w' := by
  rw [AllTPost, h]; exact ⟨v, us, rfl, h1, hb⟩
theorem AllTPost.cases_ {f g : List UInt8 → Option Nat} {t : List UInt8} {w w' : World} {e : Ending} (h : AllTPost f g t w e w') :
    (wholeT f g t = none ∧ e = pan ∧ Below w.heap.size w w') ∨
    (∃ x v us, wholeT f g t = some x ∧ e = .returned (.agg #[.int .i64 x.kind, .int .i64 x.num, v]) ∧ Mk w.heap.size w' x.args v us ∧ Below w.heap.size w w') := by
  rw [AllTPost] at h
  cases ha : wholeT f g t with
  | none => rw [ha] at h; exact .inl ⟨rfl, h⟩
  | some x => rw [ha] at h; obtain ⟨v, us, h⟩ := h; exact .inr ⟨x, v, us, rfl, h⟩

theorem allT_results {tmps : Array Value} {w : World} {a : Nat} {x y z : Value} (h2 : tmps.getD 4 undef = .pointer (some ⟨a, 0, none⟩))
    (ha : Blk w a 34 #[x, y, z]) : (results Tryz.f70 tmps).run Tryz.prog w = .ok (.agg #[x, y, z]) w := by
  have h0 := ha.cell 0
  have h1 := ha.cell 1
  have h3 := ha.cell 2
  simp at h0 h1 h3
  have h2' : tmps[4]?.getD undef = .pointer (some ⟨a, 0, none⟩) := by simpa using h2
  simp [results, Tryz.results70, go_sem, h2', h0, h1, h3]

set_option maxRecDepth 100000 in
set_option maxHeartbeats 1600000 in
theorem allTerm_any {rb m1 m2 n1 n2 : Nat} {ws : Bool} {f g : List UInt8 → Option Nat} (hfb : ∀ s i, f s = some i → i ≤ 1000000) (hgb : ∀ s i, g s = some i → i ≤ 1000000) (t : List UInt8) (w : World) (hL : t.length ≤ 65536)
    (hc : RdBase rb m1 m2 n1 n2 ws f g w) :
    Calls Tryz.prog 70 #[.string ⟨t.toArray⟩, .func (.func 71) #[.pointer (some ⟨rb, 0, none⟩)] #[]] w (AllTPost f g t w) := by
  have hr3 : Blk ((w.alloc (.cells #[.int .i64 0, .int .i64 0, .slice none 0 0] 34)).alloc (.cells #[.string ⟨t.toArray⟩] 161)) w.heap.size 34 #[.int .i64 0, .int .i64 0, .slice none 0 0] := (Blk.new _ _ _).alloc _
  have hw3 : Below w.heap.size w ((w.alloc (.cells #[.int .i64 0, .int .i64 0, .slice none 0 0] 34)).alloc (.cells #[.string ⟨t.toArray⟩] 161)) :=
    ((Below.refl _ _).alloc (Nat.le_refl _) _).alloc (by simp) _
  have hb3 : Blk ((w.alloc (.cells #[.int .i64 0, .int .i64 0, .slice none 0 0] 34)).alloc (.cells #[.string ⟨t.toArray⟩] 161)) (w.heap.size + 1) 161 #[.string ⟨t.toArray⟩] := by
    have := Blk.new (w.alloc (.cells #[.int .i64 0, .int .i64 0, .slice none 0 0] 34)) 161 #[.string ⟨t.toArray⟩]
    simpa using this
  have HS := Lib.hid (termRd_any hfb hgb (t.length + 1) t _ (by omega) hL (hc.ctx hw3 (Nat.le_succ _) hb3.lt) hb3)
  cases hp : termP f g t with
  | none =>
    have HQ : Hid (∀ W e w', TermPost f g t (w.heap.size + 1) W e w' → e = pan ∧ Saves (fun k => k = w.heap.size + 1) W w') := Lib.hid (fun W e w' h => by rw [TermPost, hp] at h; exact h)
    have HN := Lib.hid (wholeT_none hp)
    clear hp
    go_enter Tryz.func70, Tryz.ntmps70
    go_wp2_with fail
    refine HS.out.mono ?_
    intro e w1 h1
    obtain ⟨rfl, s1⟩ := HQ.out _ _ _ h1
    have hb1 := s1.below (B := w.heap.size) (by simp; omega) (fun k hk => by omega)
    exact ⟨rfl, AllTPost.none_ HN.out (hw3.trans hb1)⟩
  | some y =>
    obtain ⟨x, r⟩ := y
    have HQ : Hid (∀ W e w', TermPost f g t (w.heap.size + 1) W e w' → ∃ v us, e = .returned (.agg #[.int .i64 x.kind, .int .i64 x.num, v]) ∧ Mk W.heap.size w' x.args v us ∧ Blk w' (w.heap.size + 1) 161 #[.string ⟨r.toArray⟩] ∧ Saves (fun k => k = w.heap.size + 1) W w') :=
      Lib.hid (fun W e w' h => by rw [TermPost, hp] at h; exact h)
    by_cases hr : r = []
    · subst hr
      have HN := Lib.hid (wholeT_some hp)
      clear hp
      go_enter Tryz.func70, Tryz.ntmps70
      go_wp2_with fail
      refine HS.out.mono ?_
      intro e w1 h1
      obtain ⟨v, us, rfl, g1, g4, s1⟩ := HQ.out _ _ _ h1
      obtain ⟨A, c, rfl⟩ := g1.form
      have hb1 := s1.below (B := w.heap.size) (by simp; omega) (fun k hk => by omega)
      have hr1 := (hr3.saves s1 (by omega)).alloc (.cells #[.int .i64 x.kind, .int .i64 x.num, .slice A x.args.length c] 34)
      have hz1 := s1.size
      simp only [World.size_alloc] at hz1 g1
      have g5 := g1.below ((Below.refl _ _).alloc (Nat.le_refl _) (.cells #[.int .i64 x.kind, .int .i64 x.num, .slice A x.args.length c] 34))
      have g4' := g4.alloc (.cells #[.int .i64 x.kind, .int .i64 x.num, .slice A x.args.length c] 34)
      have x0 := hr1.cell 0
      have x1 := hr1.cell 1
      have x2 := hr1.cell 2
      have y0 := hr1.frozen 0
      have y1 := hr1.frozen 1
      have y2 := hr1.frozen 2
      have c3 := g4'.cell 0
      have xb := Blk.new w1 34 #[.int .i64 x.kind, .int .i64 x.num, .slice A x.args.length c]
      have u0 := xb.cell 0
      have u1 := xb.cell 1
      have u2 := xb.cell 2
      simp at x0 x1 x2 u0 u1 u2 c3
      go_wp2_with fail
      refine (must_yes _ _).mono ?_
      rintro e w2 ⟨rfl, rfl⟩
      go_wp2_with fail
      refine bodyPost_ret (allT_results rfl ((((hr1.set_ 0 _).set_ 1 _).set_ 2 _).eq_ rfl)) rfl ?_
      exact AllTPost.some_ HN.out ((g5.end_ (gr := w.heap.size) (by omega) _ _ _).less (by omega)) (((((hw3.trans hb1).alloc (by omega) _).setCell (p := ⟨w.heap.size, 0, none⟩) (Nat.le_refl _) _).setCell (p := ⟨w.heap.size, 1, none⟩) (Nat.le_refl _) _).setCell (p := ⟨w.heap.size, 2, none⟩) (Nat.le_refl _) _)
    · have hre : r.isEmpty = false := by simpa using hr
      have HN := Lib.hid (wholeT_rest hp hr)
      have HR := Lib.hid hr
      clear hr hp
      go_enter Tryz.func70, Tryz.ntmps70
      go_wp2_with fail
      refine HS.out.mono ?_
      intro e w1 h1
      obtain ⟨v, us, rfl, g1, g4, s1⟩ := HQ.out _ _ _ h1
      obtain ⟨A, c, rfl⟩ := g1.form
      have hb1 := s1.below (B := w.heap.size) (by simp; omega) (fun k hk => by omega)
      have hz1 := s1.size
      simp only [World.size_alloc] at hz1
      have g4' := g4.alloc (.cells #[.int .i64 x.kind, .int .i64 x.num, .slice A x.args.length c] 34)
      have c3 := g4'.cell 0
      simp at c3
      go_wp2_with fail
      refine (must_no _ _).mono ?_
      rintro e w2 ⟨rfl, rfl⟩
      exact ⟨rfl, AllTPost.none_ HN.out ((hw3.trans hb1).alloc (by omega) _)⟩
end Go.Proofs.YtbbejhhohppdhaaGreatDoor
