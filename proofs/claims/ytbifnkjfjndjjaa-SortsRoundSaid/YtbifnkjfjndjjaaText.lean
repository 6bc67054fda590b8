/-
  The string of a sort: sorts.write, sorts.writeArg, sorts.Put.
-/
import Derived.Test.YtbifnkjfjndjjaaBuild
import Derived.Test.YtbifnkjfjndjjaaOrd
namespace Go.Proofs.Ytbifnkjfjndjjaa
open Go.RowKit

mutual
/-- The string of a sort. -/
def S.text : S → List UInt8
  | .mk l => S.textL l ++ [111]
def S.textL : List S → List UInt8
  | [] => []
  | s :: r => (if s.args.isEmpty then [111] else 40 :: (s.text ++ [41])) ++ ([32, 62, 32] ++ S.textL r)
end
def S.argText (s : S) : List UInt8 := if s.args.isEmpty then [111] else 40 :: (s.text ++ [41])
theorem S.textL_append (l m : List S) : S.textL (l ++ m) = S.textL l ++ S.textL m := by
  induction l with
  | nil => simp [S.textL]
  | cons x r ih => simp [S.textL, ih]
theorem S.textL_take_succ (l : List S) (k : Nat) (x : S) (h : l[k]? = some x) : S.textL (l.take (k + 1)) = S.textL (l.take k) ++ x.argText ++ [32, 62, 32] := by
  rw [List.take_add_one, h, S.textL_append]
  simp [S.textL, S.argText]
mutual
theorem S.text_length : ∀ s : S, s.text.length + 5 ≤ 6 * s.count
  | .mk l => by have := S.textL_length l; simp only [S.text, S.count, List.length_append, List.length_cons, List.length_nil]; omega
theorem S.textL_length : ∀ l : List S, (S.textL l).length ≤ 6 * S.countL l
  | [] => by simp [S.textL]
  | s :: r => by
    have h1 := S.text_length s
    have h2 := S.textL_length r
    have h3 := s.count_pos
    simp only [S.textL, S.countL, List.length_append, List.length_cons, List.length_nil]
    split <;> simp only [List.length_append, List.length_cons, List.length_nil] <;> omega
end
theorem S.argText_length (s : S) : s.argText.length + 3 ≤ 6 * s.count := by
  have h1 := S.text_length s
  have h3 := s.count_pos
  simp only [S.argText]
  split <;> simp only [List.length_append, List.length_cons, List.length_nil] <;> omega
theorem byteCells_append (a b : List UInt8) : Lib.byteCells (a ++ b) = Lib.byteCells a ++ Lib.byteCells b := by simp [Lib.byteCells]
theorem Wrote.builder {B b : Nat} {bs : List Value} {w w' : World} (h : Wrote B b bs w w') : Lib.IsBuilder 53 5 B b bs w' := .inr h.1
theorem isBuilder_kept {B b : Nat} {bs : List Value} {w w' : World} (h : Lib.IsBuilder 53 5 B b bs w) (hb : Below w.heap.size w w') : Lib.IsBuilder 53 5 B b bs w' := by
  have key : ∀ p, Lib.BuilderAt 53 5 B b p bs w → Lib.BuilderAt 53 5 B b p bs w' := by
    rintro p ⟨hB, v, h1, h2, h3⟩
    refine ⟨hB, v, (hb.block b (Blk.lt (t := 53) h1)).trans h1, ⟨h2.1, ?_⟩, h3⟩
    rcases h2.2 with hv | ⟨g, cap, cur, hv, hg, hh, hr⟩
    · exact .inl hv
    · exact .inr ⟨g, cap, cur, hv, hg, (hb.block g (Blk.lt hh)).trans hh, hr⟩
  rcases h with h | h
  · exact .inl (key _ h)
  · exact .inr (key _ h)
theorem isBuilder_lt {B b : Nat} {bs : List Value} {w : World} (h : Lib.IsBuilder 53 5 B b bs w) : B ≤ b ∧ b < w.heap.size := by
  rcases h with h | h
  · exact ⟨h.1, h.lt⟩
  · exact ⟨h.1, h.lt⟩
theorem Blk.others {w w' : World} {g b : Nat} {cs : Array Value} {t : TypeId} (h : Blk w g t cs) (ho : Lib.OthersKept 5 (some b) w w') (hne : g ≠ b) (ht : t ≠ 5) : Blk w' g t cs := by
  exact ho g _ h (by simpa using hne) (by rintro c fz e; injection e with _ e2; exact ht e2)

set_option maxHeartbeats 800000 in
theorem writeArg_any {K : Nat} (ih : ∀ (s : S) (v : Value) (bs : List UInt8) (B b : Nat) (w : World) (lo hi : Nat), s.count ≤ K → bs.length + 6 * s.count ≤ 1000000 → s.In w lo hi v → hi ≤ B →
      Lib.IsBuilder 53 5 B b (Lib.byteCells bs) w →
      Calls Try.prog 44 #[.pointer (some ⟨b, 0, none⟩), .agg #[v]] w fun e w' => e = .returned (.tuple #[]) ∧ Lib.IsBuilder 53 5 B b (Lib.byteCells (bs ++ s.text)) w' ∧ Below B w w')
    (s : S) (v : Value) (bs : List UInt8) (B b : Nat) (w : World) (lo hi : Nat) (hK : s.count ≤ K) (hlen : bs.length + 6 * s.count ≤ 999994) (hin : s.In w lo hi v) (hhi : hi ≤ B)
    (hbd : Lib.IsBuilder 53 5 B b (Lib.byteCells bs) w) :
    Calls Try.prog 55 #[.pointer (some ⟨b, 0, none⟩), .agg #[v]] w fun e w' => e = .returned (.tuple #[]) ∧ Lib.IsBuilder 53 5 B b (Lib.byteCells (bs ++ s.argText)) w' ∧ Below B w w' := by
  have hlt := isBuilder_lt hbd
  have hin0 := hin
  obtain ⟨l⟩ := s
  simp only [S.In] at hin
  obtain ⟨A, _, c, rfl, rfl, hnc, hc, hall⟩ := hin
  have hw1 : Below w.heap.size w (w.alloc (.cells #[.slice A l.length c] 24)) := (Below.refl _ _).alloc (Nat.le_refl _) _
  have hbd1 := isBuilder_kept hbd hw1
  have hin1 := hin0.below hw1 (by omega)
  by_cases hl : l = []
  · subst hl
    have HT : Hid ((S.mk []).argText = [111]) := Lib.hid (by simp [S.argText, S.args])
    have HC := Lib.hid (writeString_any B b _ ⟨#[111]⟩ _ hbd1 (by rw [Lib.byteCells_length]; show bs.length + 1 ≤ _; omega) (by simp; omega))
    have HIH := Lib.hid ih
    clear ih
    go_enter Try.func55, Try.ntmps55
    go_wp2_with fail
    refine HC.out.mono ?_
    rintro e w1 ⟨rfl, hw⟩
    go_wp2_with fail
    refine bodyPost_ret (results_none rfl _ _ _) rfl ?_
    refine ⟨rfl, ?_, (hw1.mono (by omega)).trans hw.2.1⟩
    rw [HT.out, byteCells_append]
    exact hw.builder
  · have hl0 : ((l.length : Int) == 0) = false := by
      have : 0 < l.length := List.length_pos_iff.2 hl
      rw [beq_eq_false_iff_ne]; omega
    have HT : Hid (bs ++ (S.mk l).argText = (bs ++ [40]) ++ (S.mk l).text ++ [41]) := Lib.hid (by
      have : (S.mk l).args.isEmpty = false := by simpa [S.args] using hl
      simp [S.argText, this])
    have hbk := Blk.new w 24 #[.slice A l.length c]
    have HC := Lib.hid (writeByte_any B b _ 40 _ hbd1 (by rw [Lib.byteCells_length]; omega) (by simp; omega))
    have HIH := Lib.hid ih
    clear ih
    go_enter Try.func55, Try.ntmps55
    go_wp2_with fail
    refine HC.out.mono ?_
    rintro e w1 ⟨rfl, hw⟩
    have hc1 := (hbk.others hw.2.2 (by omega) (by decide)).cell 0
    have hin2 := hin1.below hw.2.1 hhi
    have hbd2 : Lib.IsBuilder 53 5 B b (Lib.byteCells (bs ++ [40])) w1 := by rw [byteCells_append]; exact hw.builder
    have hcl := (S.mk l).text_length
    have hz1 := (isBuilder_lt hbd2).2
    have HD := Lib.hid (HIH.out (S.mk l) _ (bs ++ [40]) B b w1 lo hi hK (by simp; omega) hin2 hhi hbd2)
    go_wp2_with fail
    refine HD.out.mono ?_
    rintro e w2 ⟨rfl, hbd3, hb2⟩
    have hz2 := hb2.size
    have HE := Lib.hid (writeByte_any B b _ 41 w2 hbd3 (by rw [Lib.byteCells_length]; simp; omega) (by omega))
    go_wp2_with fail
    refine HE.out.mono ?_
    rintro e w3 ⟨rfl, hw3⟩
    go_wp2_with fail
    go_end0
    refine ⟨rfl, ?_, (((hw1.mono (by omega)).trans hw.2.1).trans hb2).trans hw3.2.1⟩
    rw [HT.out, byteCells_append]
    exact hw3.builder

set_option maxHeartbeats 800000 in
theorem write_any (K : Nat) : ∀ (s : S) (v : Value) (bs : List UInt8) (B b : Nat) (w : World) (lo hi : Nat), s.count ≤ K → bs.length + 6 * s.count ≤ 1000000 → s.In w lo hi v → hi ≤ B →
      Lib.IsBuilder 53 5 B b (Lib.byteCells bs) w →
      Calls Try.prog 44 #[.pointer (some ⟨b, 0, none⟩), .agg #[v]] w fun e w' => e = .returned (.tuple #[]) ∧ Lib.IsBuilder 53 5 B b (Lib.byteCells (bs ++ s.text)) w' ∧ Below B w w' := by
  induction K with
  | zero => intro s; have := s.count_pos; omega
  | succ K ih =>
    intro s v bs B b w lo hi hK hlen hin hhi hbd
    have hlt := isBuilder_lt hbd
    obtain ⟨l⟩ := s
    simp only [S.In] at hin
    obtain ⟨A, _, c, rfl, rfl, hnc, hc, hall⟩ := hin
    have hw1 : Below w.heap.size w (w.alloc (.cells #[.slice A l.length c] 24)) := (Below.refl _ _).alloc (Nat.le_refl _) _
    have hbd1 := isBuilder_kept hbd hw1
    have hIH := fun s v bs w => @writeArg_any K ih s v bs B b w lo hi
    have HIH := Lib.hid hIH
    have HBD := Lib.hid hbd1
    clear ih hIH hbd hbd1
    go_enter Try.func44, Try.ntmps44
    go_wp2_with fail
    go_loopw [9] (fun i wr => ∃ k : Nat, k ≤ l.length ∧ i = .int .i64 k ∧ Lib.IsBuilder 53 5 B b (Lib.byteCells (bs ++ S.textL (l.take k))) wr ∧ Below B w wr) (fun i _ => l.length - (intOf i).toNat)
    case atStart => exact ⟨0, Nat.zero_le _, rfl, by simpa [S.textL] using HBD.out, hw1.mono (by omega)⟩
    case round =>
      obtain ⟨k, hk, rfl, hbk, hbel⟩ := hrel
      have hsz := hbel.size
      have hlt1 := isBuilder_lt hbk
      by_cases hlt : k < l.length
      · have hx : l[k]? = some l[k] := List.getElem?_eq_getElem hlt
        have hcs := S.countL_take_succ l k _ hx
        have hct := S.countL_take_le l (k + 1)
        have hcl := S.count_lt hx
        have htl := S.textL_length (l.take k)
        have hts := S.textL_take_succ l k _ hx
        have hal := l[k].argText_length
        obtain ⟨ad, u, rfl, _, hadb, hcell, hinx⟩ := hall.at_ hx
        rw [Nat.zero_add] at hcell
        have hcellr : wr.cell? (ad.add k) = some u := (hbel.cell (by rw [block_of_add]; omega)).trans hcell
        obtain ⟨A', n', c', rfl⟩ := hinx.form
        have hw2 : Below wr.heap.size wr (wr.alloc (.cells #[.slice A' n' c'] 24)) := (Below.refl _ _).alloc (Nat.le_refl _) _
        have hinr := (hinx.below hbel hhi).below hw2 (by omega)
        simp only [S.count] at hlen hK
        have hcal := HIH.out l[k] _ (bs ++ S.textL (l.take k)) _ (by simp only [S.count] at hcl; omega) (by simp only [List.length_append]; omega) hinr hhi (isBuilder_kept hbk hw2)
        generalize l[k] = x at *
        have HC := Lib.hid hcal
        have HT := Lib.hid hts
        have HB := Lib.hid hbk
        have hlen2 : bs.length + (S.textL (l.take k)).length + x.argText.length + 3 ≤ 1000000 := by omega
        clear hcal hts hx hcell hcs hbk
        go_wp2_with fail
        refine HC.out.mono ?_
        rintro e w1 ⟨rfl, hbd1, hb1⟩
        have hz1 := hb1.size
        simp only [World.size_alloc] at hz1
        have HD := Lib.hid (writeString_any B b _ ⟨#[32, 62, 32]⟩ w1 hbd1 (by rw [Lib.byteCells_length]; simp only [List.length_append]; show _ + 3 ≤ _; omega) (by omega))
        go_wp2_with fail
        refine HD.out.mono ?_
        rintro e w2 ⟨rfl, hw3⟩
        go_wp2_with fail
        go_roundw
        case rel =>
          refine ⟨k + 1, by omega, by go_num, ?_, ((hbel.trans (hw2.mono (by omega))).trans hb1).trans hw3.2.1⟩
          have h4 := hw3.builder
          have h5 : Lib.byteCells (bs ++ S.textL (l.take (k + 1))) = Lib.byteCells (bs ++ S.textL (l.take k) ++ x.argText) ++ Lib.strCells ⟨#[32, 62, 32]⟩ := by
            rw [HT.out, ← List.append_assoc, ← List.append_assoc, byteCells_append]
            rfl
          rw [h5]
          exact h4
        case measure => simp [intOf]; omega
      · have h1 : l.take k = l := List.take_of_length_le (by omega)
        rw [h1] at hbk
        have htl := S.textL_length l
        simp only [S.count] at hlen
        have HD := Lib.hid (writeString_any B b _ ⟨#[111]⟩ wr hbk (by rw [Lib.byteCells_length]; simp only [List.length_append]; show _ + 1 ≤ _; omega) (by omega))
        clear h1
        go_wp2_with fail
        refine HD.out.mono ?_
        rintro e w2 ⟨rfl, hw3⟩
        go_wp2_with fail
        go_end0
        refine ⟨rfl, ?_, hbel.trans hw3.2.1⟩
        have h4 := hw3.builder
        have h5 : Lib.byteCells (bs ++ (S.mk l).text) = Lib.byteCells (bs ++ S.textL l) ++ Lib.strCells ⟨#[111]⟩ := by
          rw [S.text, ← List.append_assoc, byteCells_append]
          rfl
        rw [h5]
        exact h4
end Go.Proofs.Ytbifnkjfjndjjaa
