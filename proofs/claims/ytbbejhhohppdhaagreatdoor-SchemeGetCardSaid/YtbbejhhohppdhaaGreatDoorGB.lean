/-
  strings.Builder's writers, over a builder that the call itself has made, in a program whose panic on a copied builder is not translated.
  The string of a sort: sorts.write, sorts.writeArg, sorts.Put.
  sorts.Put, and the reference's Text and Put.
  Reading the string of a sort: plain functions on lists of bytes.
  sorts' reader: skip, must, part, sort: what they return, or that they panic, by the plain parser.
  sorts' reader: part and sort, by the plain parser.
  sorts' reader: sort.
  scan.All and scan.attempt at sorts' reader: what the deferred call does, and what they return.
  The reference's begins, Parse and Get, by the plain parser.
  sorts.Get and the reference's Get; reading back what was written.
  Reading the string of a sort gives the sort, and only that string does.
-/
import Derived.Test.YtbbejhhohppdhaaGreatDoorGA
import Derived.Test.YtbbejhhohppdhaaGreatDoorRows
import Derived.Test.YtbbejhhohppdhaaGreatDoorShelf
import Derived.Lib.Builder
import Derived.Lib.AppendStr
import Derived.Lib.UnsafeStr
import Derived.Lib.OthersKept
import Derived.Laws.Externs
import Derived.OwnWalk
import Derived.Maps.AppendAt
import Derived.Defers
import Derived.Recover
import Derived.Laws.Pointers
namespace Go.Proofs.YtbbejhhohppdhaaGreatDoor
open Go.RowKit

theorem byte_info : (Tryz.prog.info? 5).map (fun i => (i.zero, i.size, i.bytes)) = some (some (.int .u8 0), 1, 1) := by kernel_rfl
theorem builder_info : (Tryz.prog.info? 130).map (fun i => i.size) = some 2 := by kernel_rfl

/-- What a writer leaves. -/
def Wrote (B b : Nat) (bs : List Value) (w w' : World) : Prop :=
  Lib.BuilderAt 130 5 B b (.pointer (some ⟨b, 0, none⟩)) bs w' ∧ Below B w w' ∧ Lib.OthersKept 5 (some b) w w'

set_option maxHeartbeats 1000000 in
set_option maxRecDepth 100000 in
theorem copyCheck_used (b : Nat) (w : World) (h0 : w.cell? ⟨b, 0, none⟩ = some (.pointer (some ⟨b, 0, none⟩))) :
    Calls Tryz.prog 125 #[.pointer (some ⟨b, 0, none⟩)] w fun e w' => e = .returned (.tuple #[]) ∧ w = w' := by
  obtain ⟨j, hj, _⟩ := Option.map_eq_some_iff.1 builder_info
  go_enter Tryz.func125, Tryz.ntmps125
  go_wp2
  rw [Lib.run_neq_ptr_same w _ Tryz.underlying127 hj]
  go_wp2
  go_end0
  exact ⟨rfl, rfl⟩

set_option maxHeartbeats 1000000 in
set_option maxRecDepth 100000 in
theorem copyCheck_fresh (b : Nat) (w : World) (h0 : w.cell? ⟨b, 0, none⟩ = some (.pointer none)) (hsh : w.shape? b = some (130, 2)) (hfz : w.frozen? ⟨b, 0, none⟩ = false) :
    Calls Tryz.prog 125 #[.pointer (some ⟨b, 0, none⟩)] w fun e w' => e = .returned (.tuple #[]) ∧ w.setCell ⟨b, 0, none⟩ (.pointer (some ⟨b, 0, none⟩)) = w' := by
  obtain ⟨j, hj, hjs⟩ := Option.map_eq_some_iff.1 builder_info
  go_enter Tryz.func125, Tryz.ntmps125
  go_wp2
  rw [Lib.run_to_unsafe w ⟨b, 0, none⟩ Tryz.underlying127 Tryz.underlying198 hj (by rw [hjs]; decide) hsh (Nat.zero_lt_succ 1)]
  simp only [Result.andThen]
  rw [Oper.upon_value]
  go_wp2
  rw [run_callFunc_extern Tryz.func158 (by kernel_rfl) (by kernel_rfl) (by kernel_rfl) (e := Extern.AbiNoEscape.same) (by kernel_rfl)]
  rw [Lib.run_noEscape]
  simp only [Result.andThen]
  rw [Oper.upon_value]
  go_wp2
  rw [Lib.run_from_unsafe w ⟨b, 0, none⟩ Tryz.underlying198 Tryz.underlying127 hj hsh (by kernel_rfl)]
  simp only [Result.andThen]
  rw [Oper.upon_value]
  go_wp2
  go_end0
  exact ⟨rfl, rfl⟩

theorem copyCheck_any (B b : Nat) (bs : List Value) (w : World) (h : Lib.IsBuilder 130 5 B b bs w) :
    Calls Tryz.prog 125 #[.pointer (some ⟨b, 0, none⟩)] w fun e w' => e = .returned (.tuple #[]) ∧ Wrote B b bs w w' := by
  rcases h with h | h
  · refine (copyCheck_fresh b w h.cell0 h.shape h.frozen0).mono ?_
    rintro e w' ⟨rfl, rfl⟩
    exact ⟨rfl, h.used _, (Below.refl B w).setCell (p := ⟨b, 0, none⟩) h.1 _, (Lib.OthersKept.refl _ _ _).setCell ⟨b, 0, none⟩ rfl _⟩
  · refine (copyCheck_used b w h.cell0).mono ?_
    rintro e w' ⟨rfl, rfl⟩
    exact ⟨rfl, h, Below.refl B _, Lib.OthersKept.refl _ _ _⟩

set_option maxHeartbeats 2000000 in
set_option maxRecDepth 100000 in
theorem writeByte_any (B b : Nat) (bs : List Value) (c : Int) (w : World) (h : Lib.IsBuilder 130 5 B b bs w) (hlen : bs.length + 1 ≤ 140737488355328) (hBw : B ≤ w.heap.size) :
    Calls Tryz.prog 130 #[.pointer (some ⟨b, 0, none⟩), .int .u8 c] w fun e w' => e = .returned .nilIface ∧ Wrote B b (bs ++ [.int .u8 c]) w w' := by
  obtain ⟨i0, hi, hz0, hz1, hz2⟩ := info_parts byte_info
  go_enter Tryz.func130, Tryz.ntmps130
  go_wp2_with (go_at_call 125; refine (copyCheck_any B b bs _ h).mono ?_)
  rintro e w1 ⟨rfl, h1, hb1, ho1⟩
  obtain ⟨hB, v, hbk, hown, hne⟩ := h1
  have c0 : w1.cell? ⟨b, 0, none⟩ = some (.pointer (some ⟨b, 0, none⟩)) := by rw [Lib.cell_of_heap hbk]; rfl
  have c1 : w1.cell? ⟨b, 1, none⟩ = some v := by rw [Lib.cell_of_heap hbk]; rfl
  have hz := hb1.size
  go_wp2_with (at_builtin; refine wpList_append_own _ rfl _ _ 128 rfl B 5 i0 (.int .u8 0) 1 1 Tryz.underlying128 hi hz0 hz1 hz2 rfl (by decide) _ _ _ rfl (hown.alloc _) ⟨w1.heap.size, 0, none⟩ 1 1 [.int .u8 c] rfl rfl ?c1 ?c2 ?c3 ?c4 ?c5 ?_)
  case c1 =>
    intro j u hj
    match j, hj with
    | 0, hj => simp at hj; subst hj; simp [Addr.add]
  case c2 => intro u hu; simp at hu; subst hu; rfl
  case c3 => unfold maxLen; omega
  case c4 => omega
  case c5 => simp; omega
  intro v' w2 hown' hgrow _
  have hlt : b < w1.heap.size := Blk.lt (t := 130) hbk
  have hb2 : w2.heap[b]? = some (.cells #[.pointer (some ⟨b, 0, none⟩), v] 130 (0, 0)) := by
    rw [hgrow.block b (by simp; omega) (fun e => hne e.symm), Below.heap_alloc w1 _ b hlt]
    exact hbk
  have d0 : w2.cell? ⟨b, 0, none⟩ = some (.pointer (some ⟨b, 0, none⟩)) := by rw [Lib.cell_of_heap hb2]; rfl
  have d1 : w2.cell? ⟨b, 1, none⟩ = some v := by rw [Lib.cell_of_heap hb2]; rfl
  have f1 : w2.frozen? ⟨b, 1, none⟩ = false := Lib.frozen_of_heap hb2 1
  have hrow : ∀ g, v.ownBlock = some g → ∃ cs fz, (w1.alloc (.cells #[.int .u8 c] 5)).heap[g]? = some (.cells cs 5 fz) := by
    intro g hg
    rcases hown.2 with ⟨rfl, _⟩ | ⟨g', cap, cur, rfl, _, hh, _⟩
    · simp [Value.ownBlock] at hg
    · have : g' = g := by simpa [Value.ownBlock] using hg
      subst this
      exact ⟨cur, (0, 0), (Below.heap_alloc w1 _ g' (Blk.lt hh)).trans hh⟩
  obtain ⟨g, n', cap, rfl⟩ : ∃ g n' cap, v' = .slice g n' cap := by
    rcases hown'.2 with ⟨hv, _⟩ | ⟨g, cap, cur, hv, _⟩
    · exact ⟨_, _, _, hv⟩
    · exact ⟨_, _, _, hv⟩
  go_wp2
  go_ret
  refine ⟨rfl, ?_, ?_, ?_⟩
  · exact Lib.BuilderAt.put (T := 130) (e := 5) hB hb2 (bs' := bs ++ [.int .u8 c]) (by simpa using hown') (by decide)
  · exact ((hb1.alloc (by omega) _).grown hgrow (by simp; omega) (fun k hk => (hown.lt k hk).1)).setCell (p := ⟨b, 1, none⟩) hB _
  · exact ((ho1.alloc _).grown hgrow hrow).setCell ⟨b, 1, none⟩ rfl _

set_option maxHeartbeats 2000000 in
set_option maxRecDepth 100000 in
theorem writeString_any (B b : Nat) (bs : List Value) (s : ByteArray) (w : World) (h : Lib.IsBuilder 130 5 B b bs w) (hlen : bs.length + s.size ≤ 140737488355328) (hBw : B ≤ w.heap.size) :
    Calls Tryz.prog 83 #[.pointer (some ⟨b, 0, none⟩), .string s] w fun e w' => e = .returned (.tuple #[.int .i64 s.size, .nilIface]) ∧ Wrote B b (bs ++ Lib.strCells s) w w' := by
  obtain ⟨i0, hi, hz0, hz1, hz2⟩ := info_parts byte_info
  go_enter Tryz.func83, Tryz.ntmps83
  go_wp2_with (go_at_call 125; refine (copyCheck_any B b bs _ h).mono ?_)
  rintro e w1 ⟨rfl, h1, hb1, ho1⟩
  obtain ⟨hB, v, hbk, hown, hne⟩ := h1
  have c0 : w1.cell? ⟨b, 0, none⟩ = some (.pointer (some ⟨b, 0, none⟩)) := by rw [Lib.cell_of_heap hbk]; rfl
  have c1 : w1.cell? ⟨b, 1, none⟩ = some v := by rw [Lib.cell_of_heap hbk]; rfl
  have hz := hb1.size
  go_wp2_with (at_builtin; refine Lib.wpList_append_own_string _ rfl _ _ 128 9 rfl B 5 i0 Tryz.underlying128 Tryz.underlying9 hi hz0 hz1 hz2 _ _ _ rfl hown s rfl ?c3 ?c4 ?c5 ?_)
  case c3 => unfold maxLen; omega
  case c4 => omega
  case c5 => omega
  intro v' w2 hown' hgrow _
  have hlt : b < w1.heap.size := Blk.lt (t := 130) hbk
  have hb2 : w2.heap[b]? = some (.cells #[.pointer (some ⟨b, 0, none⟩), v] 130 (0, 0)) := by
    rw [hgrow.block b hlt (fun e => hne e.symm)]
    exact hbk
  have d0 : w2.cell? ⟨b, 0, none⟩ = some (.pointer (some ⟨b, 0, none⟩)) := by rw [Lib.cell_of_heap hb2]; rfl
  have d1 : w2.cell? ⟨b, 1, none⟩ = some v := by rw [Lib.cell_of_heap hb2]; rfl
  have f1 : w2.frozen? ⟨b, 1, none⟩ = false := Lib.frozen_of_heap hb2 1
  have hrow : ∀ g, v.ownBlock = some g → ∃ c fz, w1.heap[g]? = some (.cells c 5 fz) := by
    intro g hg
    rcases hown.2 with ⟨rfl, _⟩ | ⟨g', cap, cur, rfl, _, hh, _⟩
    · simp [Value.ownBlock] at hg
    · have : g' = g := by simpa [Value.ownBlock] using hg
      subst this
      exact ⟨cur, (0, 0), hh⟩
  obtain ⟨g, n', cap, rfl⟩ : ∃ g n' cap, v' = .slice g n' cap := by
    rcases hown'.2 with ⟨hv, _⟩ | ⟨g, cap, cur, hv, _⟩
    · exact ⟨_, _, _, hv⟩
    · exact ⟨_, _, _, hv⟩
  go_wp2
  go_ret2
  refine ⟨rfl, ?_, ?_, ?_⟩
  · exact Lib.BuilderAt.put (T := 130) (e := 5) hB hb2 (bs' := bs ++ Lib.strCells s) (by simpa [Lib.strCells_length] using hown') (by decide)
  · exact (hb1.grown hgrow (by omega) (fun k hk => (hown.lt k hk).1)).setCell (p := ⟨b, 1, none⟩) hB _
  · exact (ho1.grown hgrow hrow).setCell ⟨b, 1, none⟩ rfl _
end Go.Proofs.YtbbejhhohppdhaaGreatDoor

namespace Go.Proofs.YtbbejhhohppdhaaGreatDoor
open Go.RowKit

mutual
/-- The string of a sort. -/
def S.text : S → List UInt8
  | .mk l => S.textL l ++ [111]
def S.textL : List S → List UInt8
  | [] => []
  | s :: r => (if s.args.isEmpty then [111] else 40 :: (s.text ++ [41])) ++ ([32, 62, 32] ++ S.textL r)
end
def S.argText (s : S) : List UInt8 := if s.args.isEmpty then [111] else 40 :: (s.text ++ [41])
theorem S.textL_append (l m : List S) : S.textL (l ++ m) = S.textL l ++ S.textL m := by
  induction l with
  | nil => simp [S.textL]
  | cons x r ih => simp [S.textL, ih]
theorem S.textL_take_succ (l : List S) (k : Nat) (x : S) (h : l[k]? = some x) : S.textL (l.take (k + 1)) = S.textL (l.take k) ++ x.argText ++ [32, 62, 32] := by
  rw [List.take_add_one, h, S.textL_append]
  simp [S.textL, S.argText]
mutual
theorem S.text_length : ∀ s : S, s.text.length + 5 ≤ 6 * s.count
  | .mk l => by have := S.textL_length l; simp only [S.text, S.count, List.length_append, List.length_cons, List.length_nil]; omega
theorem S.textL_length : ∀ l : List S, (S.textL l).length ≤ 6 * S.countL l
  | [] => by simp [S.textL]
  | s :: r => by
    have h1 := S.text_length s
    have h2 := S.textL_length r
    have h3 := s.count_pos
    simp only [S.textL, S.countL, List.length_append, List.length_cons, List.length_nil]
    split <;> simp only [List.length_append, List.length_cons, List.length_nil] <;> omega
end
theorem S.argText_length (s : S) : s.argText.length + 3 ≤ 6 * s.count := by
  have h1 := S.text_length s
  have h3 := s.count_pos
  simp only [S.argText]
  split <;> simp only [List.length_append, List.length_cons, List.length_nil] <;> omega
theorem byteCells_append (a b : List UInt8) : Lib.byteCells (a ++ b) = Lib.byteCells a ++ Lib.byteCells b := by simp [Lib.byteCells]
theorem Wrote.builder {B b : Nat} {bs : List Value} {w w' : World} (h : Wrote B b bs w w') : Lib.IsBuilder 130 5 B b bs w' := .inr h.1
theorem isBuilder_kept {B b : Nat} {bs : List Value} {w w' : World} (h : Lib.IsBuilder 130 5 B b bs w) (hb : Below w.heap.size w w') : Lib.IsBuilder 130 5 B b bs w' := by
  have key : ∀ p, Lib.BuilderAt 130 5 B b p bs w → Lib.BuilderAt 130 5 B b p bs w' := by
    rintro p ⟨hB, v, h1, h2, h3⟩
    refine ⟨hB, v, (hb.block b (Blk.lt (t := 130) h1)).trans h1, ⟨h2.1, ?_⟩, h3⟩
    rcases h2.2 with hv | ⟨g, cap, cur, hv, hg, hh, hr⟩
    · exact .inl hv
    · exact .inr ⟨g, cap, cur, hv, hg, (hb.block g (Blk.lt hh)).trans hh, hr⟩
  rcases h with h | h
  · exact .inl (key _ h)
  · exact .inr (key _ h)
theorem isBuilder_lt {B b : Nat} {bs : List Value} {w : World} (h : Lib.IsBuilder 130 5 B b bs w) : B ≤ b ∧ b < w.heap.size := by
  rcases h with h | h
  · exact ⟨h.1, h.lt⟩
  · exact ⟨h.1, h.lt⟩
theorem Blk.others {w w' : World} {g b : Nat} {cs : Array Value} {t : TypeId} (h : Blk w g t cs) (ho : Lib.OthersKept 5 (some b) w w') (hne : g ≠ b) (ht : t ≠ 5) : Blk w' g t cs := by
  exact ho g _ h (by simpa using hne) (by rintro c fz e; injection e with _ e2; exact ht e2)

set_option maxHeartbeats 800000 in
theorem writeArg_any {K : Nat} (ih : ∀ (s : S) (v : Value) (bs : List UInt8) (B b : Nat) (w : World) (lo hi : Nat), s.count ≤ K → bs.length + 6 * s.count ≤ 1000000 → s.In w lo hi v → hi ≤ B →
      Lib.IsBuilder 130 5 B b (Lib.byteCells bs) w →
      Calls Tryz.prog 128 #[.pointer (some ⟨b, 0, none⟩), .agg #[v]] w fun e w' => e = .returned (.tuple #[]) ∧ Lib.IsBuilder 130 5 B b (Lib.byteCells (bs ++ s.text)) w' ∧ Below B w w')
    (s : S) (v : Value) (bs : List UInt8) (B b : Nat) (w : World) (lo hi : Nat) (hK : s.count ≤ K) (hlen : bs.length + 6 * s.count ≤ 999994) (hin : s.In w lo hi v) (hhi : hi ≤ B)
    (hbd : Lib.IsBuilder 130 5 B b (Lib.byteCells bs) w) :
    Calls Tryz.prog 164 #[.pointer (some ⟨b, 0, none⟩), .agg #[v]] w fun e w' => e = .returned (.tuple #[]) ∧ Lib.IsBuilder 130 5 B b (Lib.byteCells (bs ++ s.argText)) w' ∧ Below B w w' := by
  have hlt := isBuilder_lt hbd
  have hin0 := hin
  obtain ⟨l⟩ := s
  simp only [S.In] at hin
  obtain ⟨A, _, c, rfl, rfl, hnc, hc, hall⟩ := hin
  have hw1 : Below w.heap.size w (w.alloc (.cells #[.slice A l.length c] 62)) := (Below.refl _ _).alloc (Nat.le_refl _) _
  have hbd1 := isBuilder_kept hbd hw1
  have hin1 := hin0.below hw1 (by omega)
  by_cases hl : l = []
  · subst hl
    have HT : Hid ((S.mk []).argText = [111]) := Lib.hid (by simp [S.argText, S.args])
    have HC := Lib.hid (writeString_any B b _ ⟨#[111]⟩ _ hbd1 (by rw [Lib.byteCells_length]; show bs.length + 1 ≤ _; omega) (by simp; omega))
    have HIH := Lib.hid ih
    clear ih
    go_enter Tryz.func164, Tryz.ntmps164
    go_wp2_with fail
    refine HC.out.mono ?_
    rintro e w1 ⟨rfl, hw⟩
    go_wp2_with fail
    refine bodyPost_ret (results_none rfl _ _ _) rfl ?_
    refine ⟨rfl, ?_, (hw1.mono (by omega)).trans hw.2.1⟩
    rw [HT.out, byteCells_append]
    exact hw.builder
  · have hl0 : ((l.length : Int) == 0) = false := by
      have : 0 < l.length := List.length_pos_iff.2 hl
      rw [beq_eq_false_iff_ne]; omega
    have HT : Hid (bs ++ (S.mk l).argText = (bs ++ [40]) ++ (S.mk l).text ++ [41]) := Lib.hid (by
      have : (S.mk l).args.isEmpty = false := by simpa [S.args] using hl
      simp [S.argText, this])
    have hbk := Blk.new w 62 #[.slice A l.length c]
    have HC := Lib.hid (writeByte_any B b _ 40 _ hbd1 (by rw [Lib.byteCells_length]; omega) (by simp; omega))
    have HIH := Lib.hid ih
    clear ih
    go_enter Tryz.func164, Tryz.ntmps164
    go_wp2_with fail
    refine HC.out.mono ?_
    rintro e w1 ⟨rfl, hw⟩
    have hc1 := (hbk.others hw.2.2 (by omega) (by decide)).cell 0
    have hin2 := hin1.below hw.2.1 hhi
    have hbd2 : Lib.IsBuilder 130 5 B b (Lib.byteCells (bs ++ [40])) w1 := by rw [byteCells_append]; exact hw.builder
    have hcl := (S.mk l).text_length
    have hz1 := (isBuilder_lt hbd2).2
    have HD := Lib.hid (HIH.out (S.mk l) _ (bs ++ [40]) B b w1 lo hi hK (by simp; omega) hin2 hhi hbd2)
    go_wp2_with fail
    refine HD.out.mono ?_
    rintro e w2 ⟨rfl, hbd3, hb2⟩
    have hz2 := hb2.size
    have HE := Lib.hid (writeByte_any B b _ 41 w2 hbd3 (by rw [Lib.byteCells_length]; simp; omega) (by omega))
    go_wp2_with fail
    refine HE.out.mono ?_
    rintro e w3 ⟨rfl, hw3⟩
    go_wp2_with fail
    go_end0
    refine ⟨rfl, ?_, (((hw1.mono (by omega)).trans hw.2.1).trans hb2).trans hw3.2.1⟩
    rw [HT.out, byteCells_append]
    exact hw3.builder

set_option maxHeartbeats 800000 in
theorem write_any (K : Nat) : ∀ (s : S) (v : Value) (bs : List UInt8) (B b : Nat) (w : World) (lo hi : Nat), s.count ≤ K → bs.length + 6 * s.count ≤ 1000000 → s.In w lo hi v → hi ≤ B →
      Lib.IsBuilder 130 5 B b (Lib.byteCells bs) w →
      Calls Tryz.prog 128 #[.pointer (some ⟨b, 0, none⟩), .agg #[v]] w fun e w' => e = .returned (.tuple #[]) ∧ Lib.IsBuilder 130 5 B b (Lib.byteCells (bs ++ s.text)) w' ∧ Below B w w' := by
  induction K with
  | zero => intro s; have := s.count_pos; omega
  | succ K ih =>
    intro s v bs B b w lo hi hK hlen hin hhi hbd
    have hlt := isBuilder_lt hbd
    obtain ⟨l⟩ := s
    simp only [S.In] at hin
    obtain ⟨A, _, c, rfl, rfl, hnc, hc, hall⟩ := hin
    have hw1 : Below w.heap.size w (w.alloc (.cells #[.slice A l.length c] 62)) := (Below.refl _ _).alloc (Nat.le_refl _) _
    have hbd1 := isBuilder_kept hbd hw1
    have hIH := fun s v bs w => @writeArg_any K ih s v bs B b w lo hi
    have HIH := Lib.hid hIH
    have HBD := Lib.hid hbd1
    clear ih hIH hbd hbd1
    go_enter Tryz.func128, Tryz.ntmps128
    go_wp2_with fail
    go_loopw [9] (fun i wr => ∃ k : Nat, k ≤ l.length ∧ i = .int .i64 k ∧ Lib.IsBuilder 130 5 B b (Lib.byteCells (bs ++ S.textL (l.take k))) wr ∧ Below B w wr) (fun i _ => l.length - (intOf i).toNat)
    case atStart => exact ⟨0, Nat.zero_le _, rfl, by simpa [S.textL] using HBD.out, hw1.mono (by omega)⟩
    case round =>
      obtain ⟨k, hk, rfl, hbk, hbel⟩ := hrel
      have hsz := hbel.size
      have hlt1 := isBuilder_lt hbk
      by_cases hlt : k < l.length
      · have hx : l[k]? = some l[k] := List.getElem?_eq_getElem hlt
        have hcs := S.countL_take_succ l k _ hx
        have hct := S.countL_take_le l (k + 1)
        have hcl := S.count_lt hx
        have htl := S.textL_length (l.take k)
        have hts := S.textL_take_succ l k _ hx
        have hal := l[k].argText_length
        obtain ⟨ad, u, rfl, _, hadb, hcell, hinx⟩ := hall.at_ hx
        rw [Nat.zero_add] at hcell
        have hcellr : wr.cell? (ad.add k) = some u := (hbel.cell (by rw [block_of_add]; omega)).trans hcell
        obtain ⟨A', n', c', rfl⟩ := hinx.form
        have hw2 : Below wr.heap.size wr (wr.alloc (.cells #[.slice A' n' c'] 62)) := (Below.refl _ _).alloc (Nat.le_refl _) _
        have hinr := (hinx.below hbel hhi).below hw2 (by omega)
        simp only [S.count] at hlen hK
        have hcal := HIH.out l[k] _ (bs ++ S.textL (l.take k)) _ (by simp only [S.count] at hcl; omega) (by simp only [List.length_append]; omega) hinr hhi (isBuilder_kept hbk hw2)
        generalize l[k] = x at *
        have HC := Lib.hid hcal
        have HT := Lib.hid hts
        have HB := Lib.hid hbk
        have hlen2 : bs.length + (S.textL (l.take k)).length + x.argText.length + 3 ≤ 1000000 := by omega
        clear hcal hts hx hcell hcs hbk
        go_wp2_with fail
        refine HC.out.mono ?_
        rintro e w1 ⟨rfl, hbd1, hb1⟩
        have hz1 := hb1.size
        simp only [World.size_alloc] at hz1
        have HD := Lib.hid (writeString_any B b _ ⟨#[32, 62, 32]⟩ w1 hbd1 (by rw [Lib.byteCells_length]; simp only [List.length_append]; show _ + 3 ≤ _; omega) (by omega))
        go_wp2_with fail
        refine HD.out.mono ?_
        rintro e w2 ⟨rfl, hw3⟩
        go_wp2_with fail
        go_roundw
        case rel =>
          refine ⟨k + 1, by omega, by go_num, ?_, ((hbel.trans (hw2.mono (by omega))).trans hb1).trans hw3.2.1⟩
          have h4 := hw3.builder
          have h5 : Lib.byteCells (bs ++ S.textL (l.take (k + 1))) = Lib.byteCells (bs ++ S.textL (l.take k) ++ x.argText) ++ Lib.strCells ⟨#[32, 62, 32]⟩ := by
            rw [HT.out, ← List.append_assoc, ← List.append_assoc, byteCells_append]
            rfl
          rw [h5]
          exact h4
        case measure => simp [intOf]; omega
      · have h1 : l.take k = l := List.take_of_length_le (by omega)
        rw [h1] at hbk
        have htl := S.textL_length l
        simp only [S.count] at hlen
        have HD := Lib.hid (writeString_any B b _ ⟨#[111]⟩ wr hbk (by rw [Lib.byteCells_length]; simp only [List.length_append]; show _ + 1 ≤ _; omega) (by omega))
        clear h1
        go_wp2_with fail
        refine HD.out.mono ?_
        rintro e w2 ⟨rfl, hw3⟩
        go_wp2_with fail
        go_end0
        refine ⟨rfl, ?_, hbel.trans hw3.2.1⟩
        have h4 := hw3.builder
        have h5 : Lib.byteCells (bs ++ (S.mk l).text) = Lib.byteCells (bs ++ S.textL l) ++ Lib.strCells ⟨#[111]⟩ := by
          rw [S.text, ← List.append_assoc, byteCells_append]
          rfl
        rw [h5]
        exact h4
end Go.Proofs.YtbbejhhohppdhaaGreatDoor

namespace Go.Proofs.YtbbejhhohppdhaaGreatDoor
open Go.RowKit

/-- What Put returns. -/
def S.puts (s : S) : List UInt8 := if s.ok then s.text else []

set_option maxHeartbeats 800000 in
theorem put_any (s : S) (v : Value) (w : World) (lo hi : Nat) (hin : s.In w lo hi v) (hhi : hi ≤ w.heap.size) :
    Calls Tryz.prog 85 #[.agg #[v]] w fun e w' => e = .returned (.tuple #[.string ⟨s.puts.toArray⟩, .int .i64 (errOf s.ok)]) ∧ Below w.heap.size w w' := by
  obtain ⟨A, n, c, rfl⟩ := hin.form
  have hw1 : Below w.heap.size w (w.alloc (.cells #[.slice A n c] 62)) := (Below.refl _ _).alloc (Nat.le_refl _) _
  have hin1 := hin.below hw1 hhi
  have hbk := Blk.new w 62 #[.slice A n c]
  have HC := Lib.hid (check_any s _ _ lo hi hin1 (by simp; omega))
  cases hok : s.ok with
  | true =>
    have hcnt := S.ok_count hok
    have HO : Hid (s.puts = s.text) := Lib.hid (by simp [S.puts, hok])
    rw [hok] at HC
    clear hok
    go_enter Tryz.func85, Tryz.ntmps85
    go_wp2_with fail
    refine HC.out.mono ?_
    rintro e w1 ⟨rfl, hb1⟩
    simp only [errOf, if_true]
    have hk1 := hbk.below hb1 (by simp)
    have hc1 := (hk1.alloc (.cells #[.pointer none, .slice none 0 0] 130)).cell 0
    have hin2 := hin1.below hb1 (by simp; omega)
    have hz := hb1.size
    simp only [World.size_alloc] at hb1 hz
    have hw2 : Below w1.heap.size w1 (w1.alloc (.cells #[.pointer none, .slice none 0 0] 130)) := (Below.refl _ _).alloc (Nat.le_refl _) _
    have HD := Lib.hid (write_any _ s _ [] w1.heap.size w1.heap.size _ lo hi (Nat.le_refl _) (by simp; omega) (hin2.below hw2 (by omega)) (by omega) (Lib.fresh_isBuilder 130 5 w1))
    go_wp2_with fail
    refine HD.out.mono ?_
    rintro e w2 ⟨rfl, hbd, hb2⟩
    have hz2 := hb2.size
    simp only [World.size_alloc] at hz2
    have HE := Lib.hid (Tryz.Builder_String_any w1.heap.size w1.heap.size ([] ++ s.text) w2 hbd (by omega))
    go_wp2_with fail
    refine HE.out.mono ?_
    rintro e w3 ⟨rfl, hb3⟩
    go_wp2_with fail
    go_ret2
    exact ⟨by rw [HO.out]; rfl, (hw1.trans (hb1.mono (by omega))).trans (((hw2.trans hb2).trans hb3).mono (by omega))⟩
  | false =>
    have HO : Hid (s.puts = []) := Lib.hid (by simp [S.puts, hok])
    rw [hok] at HC
    clear hok
    go_enter Tryz.func85, Tryz.ntmps85
    go_wp2_with fail
    refine HC.out.mono ?_
    rintro e w1 ⟨rfl, hb1⟩
    rw [show errOf false = 6 from rfl]
    simp only [World.size_alloc] at hb1
    go_wp2_with fail
    go_ret2
    exact ⟨by rw [HO.out]; rfl, hw1.trans (hb1.mono (by omega))⟩

theorem str_append (a b : List UInt8) : Value.string (⟨a.toArray⟩ ++ ⟨b.toArray⟩) = .string ⟨(a ++ b).toArray⟩ := by
  congr 1
theorem str_append4 (a b c d : List UInt8) : Value.string (⟨a.toArray⟩ ++ ⟨b.toArray⟩ ++ ⟨c.toArray⟩ ++ ⟨d.toArray⟩) = .string ⟨(a ++ b ++ c ++ d).toArray⟩ := by
  congr 1

end Go.Proofs.YtbbejhhohppdhaaGreatDoor

namespace Go.Proofs.YtbbejhhohppdhaaGreatDoor
open Go.RowKit

/-- What stands behind a word. -/
def strip : List UInt8 → List UInt8 → Option (List UInt8)
  | [], t => some t
  | a :: p, b :: t => if a = b then strip p t else none
  | _ :: _, [] => none
theorem strip_eq : ∀ {p t r : List UInt8}, strip p t = some r → t = p ++ r
  | [], t, r, h => by simp [strip] at h; simp [h]
  | a :: p, b :: t, r, h => by
    simp only [strip] at h
    split at h
    · rename_i hab; rw [strip_eq h, hab]; rfl
    · cases h
  | _ :: _, [], r, h => by cases h
theorem strip_append : ∀ (p r : List UInt8), strip p (p ++ r) = some r
  | [], r => rfl
  | a :: p, r => by simp [strip, strip_append p r]
theorem strip_len {p t r : List UInt8} (h : strip p t = some r) : t.length = p.length + r.length := by rw [strip_eq h, List.length_append]
theorem strip_two : ∀ {p q t : List UInt8}, strip (p ++ q) t = (strip p t).bind (strip q)
  | [], q, t => rfl
  | a :: p, q, [] => rfl
  | a :: p, q, b :: t => by
    simp only [List.cons_append, strip]
    split
    · exact strip_two
    · rfl

/-- The arrow. -/
def arrow : List UInt8 := [32, 62, 32]

/-- acc: the arguments that have been read. The result: the sort, and what is left. -/
def parseF : Nat → List S → List UInt8 → Option (S × List UInt8)
  | 0, _, _ => none
  | n + 1, acc, t =>
    match strip [111] t with
    | some r => (match strip arrow r with
      | some q => parseF n (acc ++ [.mk []]) q
      | none => some (.mk acc, r))
    | none => (match strip [40] t with
      | some r => (match parseF n [] r with
        | some (x, r2) => if x.args.isEmpty then none else (match strip (41 :: arrow) r2 with
          | some q => parseF n (acc ++ [x]) q
          | none => none)
        | none => none)
      | none => none)
theorem parseF_succ (n : Nat) (acc : List S) (t : List UInt8) : parseF (n + 1) acc t =
    match strip [111] t with
    | some r => (match strip arrow r with
      | some q => parseF n (acc ++ [.mk []]) q
      | none => some (.mk acc, r))
    | none => (match strip [40] t with
      | some r => (match parseF n [] r with
        | some (x, r2) => if x.args.isEmpty then none else (match strip (41 :: arrow) r2 with
          | some q => parseF n (acc ++ [x]) q
          | none => none)
        | none => none)
      | none => none) := rfl

theorem parseF_le : ∀ (n : Nat) (acc : List S) (t : List UInt8) (x : S) (r : List UInt8), parseF n acc t = some (x, r) → r.length < t.length := by
  intro n
  induction n with
  | zero => intro acc t x r h; simp [parseF] at h
  | succ n ih =>
    intro acc t x r h
    rw [parseF_succ] at h
    split at h
    · rename_i h1
      have l1 := strip_len h1
      split at h
      · rename_i h2
        have l2 := strip_len h2
        have := ih _ _ _ _ h
        simp at l1 l2
        omega
      · simp only [Option.some.injEq, Prod.mk.injEq] at h
        obtain ⟨_, rfl⟩ := h
        simp at l1
        omega
    · split at h
      · rename_i h1
        have l1 := strip_len h1
        split at h
        · rename_i h2
          have l2 := ih _ _ _ _ h2
          split at h
          · cases h
          · split at h
            · rename_i h3
              have l3 := strip_len h3
              have := ih _ _ _ _ h
              simp at l1 l3
              omega
            · cases h
        · cases h
      · cases h

theorem parseF_stable : ∀ (n m : Nat) (acc : List S) (t : List UInt8), t.length < n → t.length < m → parseF n acc t = parseF m acc t := by
  intro n
  induction n with
  | zero => intro m acc t h; omega
  | succ n ih =>
    intro m acc t hn hm
    cases m with
    | zero => omega
    | succ m =>
      rw [parseF_succ, parseF_succ]
      split
      · rename_i h1
        have l1 := strip_len h1
        simp at l1
        split
        · rename_i h2
          have l2 := strip_len h2
          exact ih m _ _ (by omega) (by omega)
        · rfl
      · split
        · rename_i r h1
          have l1 := strip_len h1
          simp at l1
          rw [ih m [] r (by omega) (by omega)]
          split
          · rename_i h2
            have l2 := parseF_le _ _ _ _ _ h2
            split
            · rfl
            · split
              · rename_i h3
                have l3 := strip_len h3
                simp at l3
                exact ih m _ _ (by omega) (by omega)
              · rfl
          · rfl
        · rfl

def parse (acc : List S) (t : List UInt8) : Option (S × List UInt8) := parseF (t.length + 1) acc t
theorem parse_of {n : Nat} {acc : List S} {t : List UInt8} (h : t.length < n) : parseF n acc t = parse acc t := parseF_stable _ _ _ _ h (by omega)
theorem parse_le {acc : List S} {t r : List UInt8} {x : S} (h : parse acc t = some (x, r)) : r.length < t.length := parseF_le _ _ _ _ _ h
theorem parse_eq (acc : List S) (t : List UInt8) : parse acc t =
    match strip [111] t with
    | some r => (match strip arrow r with
      | some q => parse (acc ++ [.mk []]) q
      | none => some (.mk acc, r))
    | none => (match strip [40] t with
      | some r => (match parse [] r with
        | some (x, r2) => if x.args.isEmpty then none else (match strip (41 :: arrow) r2 with
          | some q => parse (acc ++ [x]) q
          | none => none)
        | none => none)
      | none => none) := by
  rw [parse, parseF_succ]
  split
  · rename_i h1
    have l1 := strip_len h1
    simp at l1
    split
    · rename_i h2
      have l2 := strip_len h2
      exact parse_of (by omega)
    · rfl
  · split
    · rename_i r h1
      have l1 := strip_len h1
      simp at l1
      rw [parse_of (acc := []) (t := r) (by omega)]
      split
      · rename_i h2
        have l2 := parse_le h2
        split
        · rfl
        · split
          · rename_i h3
            have l3 := strip_len h3
            simp at l3
            exact parse_of (by omega)
          · rfl
      · rfl
    · rfl

/-- One argument: whether it stood in brackets, and what is left. -/
def part (t : List UInt8) : Option (S × Bool × List UInt8) :=
  match strip [40] t with
  | some r => (match parse [] r with
    | some (x, r2) => if x.args.isEmpty then none else (match strip [41] r2 with
      | some q => some (x, true, q)
      | none => none)
    | none => none)
  | none => (match strip [111] t with
    | some r => some (.mk [], false, r)
    | none => none)
theorem strip_other {t r : List UInt8} (h : strip [111] t = some r) : strip [40] t = none := by
  rw [strip_eq h]; simp [strip]
theorem part_le {t r : List UInt8} {x : S} {b : Bool} (h : part t = some (x, b, r)) : r.length < t.length := by
  rw [part] at h
  split at h
  · rename_i h1
    have l1 := strip_len h1
    simp at l1
    split at h
    · rename_i h2
      have l2 := parse_le h2
      split at h
      · cases h
      · split at h
        · rename_i h3
          have l3 := strip_len h3
          simp at l3
          simp only [Option.some.injEq, Prod.mk.injEq] at h
          obtain ⟨_, _, rfl⟩ := h
          omega
        · cases h
    · cases h
  · split at h
    · rename_i h1
      have l1 := strip_len h1
      simp at l1
      simp only [Option.some.injEq, Prod.mk.injEq] at h
      obtain ⟨_, _, rfl⟩ := h
      omega
    · cases h
/-- The reader's loop is the parser. -/
theorem parse_part (acc : List S) (t : List UInt8) : parse acc t =
    match part t with
    | some (x, b, r) => (match strip arrow r with
      | some q => parse (acc ++ [x]) q
      | none => if b then none else some (.mk acc, r))
    | none => none := by
  rw [parse_eq, part]
  cases h1 : strip [111] t with
  | some r =>
    rw [strip_other h1]
    simp only
    cases h2 : strip arrow r <;> simp
  | none =>
    cases h3 : strip [40] t with
    | none => simp
    | some r =>
      simp only
      cases h4 : parse [] r with
      | none => simp
      | some y =>
        obtain ⟨x, r2⟩ := y
        simp only
        by_cases hx : x.args.isEmpty
        · simp [hx]
        · simp only [hx]
          rw [show (41 :: arrow) = [41] ++ arrow from rfl, strip_two]
          cases h5 : strip [41] r2 with
          | none => simp
          | some q =>
            simp only [Option.bind_some]
            cases h6 : strip arrow q <;> simp [h6]
end Go.Proofs.YtbbejhhohppdhaaGreatDoor

namespace Go.Proofs.YtbbejhhohppdhaaGreatDoor
open Go.RowKit

/-- The panic of must. -/
def pan : Ending := .panicked [{ v := .iface 26 (.int .i64 4), recovered := false }]

theorem hasPrefix_strip : ∀ (p t : List UInt8), Lib.hasPrefix t p = (strip p t).isSome
  | [], t => by cases t <;> rfl
  | a :: p, [] => rfl
  | a :: p, b :: t => by
    have ih := hasPrefix_strip p t
    simp only [Lib.hasPrefix, List.isPrefixOf, strip] at ih ⊢
    by_cases h : a = b
    · subst h; simpa using ih
    · simp [h]
theorem trimPrefix_strip (p t : List UInt8) : Lib.trimPrefix t p = (strip p t).getD t := by
  rw [Lib.trimPrefix, hasPrefix_strip]
  cases h : strip p t with
  | none => simp
  | some r => rw [strip_eq h]; simp

set_option maxHeartbeats 400000 in
theorem must_yes (b : Nat) (w : World) : Calls Tryz.prog 113 #[.pointer (some ⟨b, 0, none⟩), .bool true] w fun e w' => e = .returned (.tuple #[]) ∧ w = w' := by
  go_enter Tryz.func113, Tryz.ntmps113
  go_wp2_with fail
  go_end0
  exact ⟨rfl, rfl⟩
set_option maxHeartbeats 400000 in
theorem must_no (b : Nat) (w : World) : Calls Tryz.prog 113 #[.pointer (some ⟨b, 0, none⟩), .bool false] w fun e w' => e = pan ∧ w = w' := by
  go_enter Tryz.func113, Tryz.ntmps113
  go_wp2_with fail
  exact ⟨rfl, rfl, rfl⟩

set_option maxHeartbeats 400000 in
theorem skip_any (b : Nat) (p t : List UInt8) (w : World) (h : Blk w b 161 #[.string ⟨t.toArray⟩]) :
    Calls Tryz.prog 62 #[.pointer (some ⟨b, 0, none⟩), .string ⟨p.toArray⟩] w fun e w' =>
      e = .returned (.bool (strip p t).isSome) ∧ w.setCell ⟨b, 0, none⟩ (.string ⟨((strip p t).getD t).toArray⟩) = w' := by
  have hc := h.cell 0
  have hf := h.frozen 0
  have HC := Tryz.strings_CutPrefix ⟨t.toArray⟩ ⟨p.toArray⟩ w
  simp only [trimPrefix_strip, hasPrefix_strip] at HC
  go_enter Tryz.func62, Tryz.ntmps62
  go_wp2_with fail
  refine HC.mono ?_
  rintro e w1 ⟨rfl, rfl⟩
  go_wp2_with fail
  go_ret
  exact ⟨rfl, rfl⟩

/-- What the reader's loop holds of the sort that it builds: acc's elements are us, in blocks from lo on; gc holds the slice, gr the result. -/
structure Built (acc : List S) (lo gc gr : Nat) (cv : Value) (us : List Value) (fp : List Nat) (w : World) : Prop where
  own : w.ownsRow lo 62 1 cv acc.length us
  sep : S.SepL w acc us fp
  nod : (cv.ownBlock.toList ++ fp).Nodup
  rng : ∀ x ∈ fp, lo ≤ x ∧ x < w.heap.size
  blk : Blk w gc 62 #[cv]
  res : Blk w gr 62 #[.slice none 0 0]
  gcl : gc < lo
  grl : gr < lo
  ne_ : gc ≠ gr
  lol : lo ≤ w.heap.size
theorem Built.own_lt {acc : List S} {lo gc gr : Nat} {cv : Value} {us : List Value} {fp : List Nat} {w : World} (h : Built acc lo gc gr cv us fp w) : ∀ x, cv.ownBlock = some x → lo ≤ x ∧ x < w.heap.size := fun x hx => h.own.lt x hx
/-- Behind what changes block b alone. -/
theorem Built.saves {acc : List S} {lo gc gr b : Nat} {cv : Value} {us : List Value} {fp : List Nat} {w w' : World} (h : Built acc lo gc gr cv us fp w) (hs : Saves (fun k => k = b) w w') (hb : b < lo) (hc : b ≠ gc) (hr : b ≠ gr) : Built acc lo gc gr cv us fp w' :=
  ⟨owns_kept h.own (fun x hx => hs.block x (h.own_lt x hx).2 (by have := h.own_lt x hx; omega)), h.sep.keep _ (fun x hx => hs.block x (h.rng x hx).2 (by have := h.rng x hx; omega)), h.nod,
    fun x hx => by have := h.rng x hx; have := hs.size; omega, h.blk.saves hs (fun e => hc e.symm), h.res.saves hs (fun e => hr e.symm), h.gcl, h.grl, h.ne_, by have := hs.size; have := h.lol; omega⟩
/-- One more: what was there and the new part stand, the row has grown, the slice is stored. -/
theorem Built.next {acc : List S} {lo gc gr : Nat} {cv : Value} {us : List Value} {fp fp1 : List Nat} {w w1 w2 : World} {x : S} {v1 v' : Value} {o1 : Obj}
    (h : Built acc lo gc gr cv us fp w) (hk : ∀ k, k < w.heap.size → lo ≤ k ∨ k = gc ∨ k = gr → w1.heap[k]? = w.heap[k]?) (hz : w.heap.size ≤ w1.heap.size)
    (hsep1 : x.Sep w1 v1 fp1) (hnod1 : fp1.Nodup) (hrng1 : ∀ k ∈ fp1, w.heap.size ≤ k ∧ k < w1.heap.size)
    (hown2 : w2.ownsRow lo 62 1 v' (acc.length + 1) (us ++ [v1])) (hgrow : (w1.alloc o1).grownBy w2 cv.ownBlock) (hat : v'.ownBlock = cv.ownBlock ∨ v'.ownBlock = some (w1.heap.size + 1)) :
    Built (acc ++ [x]) lo gc gr v' (us ++ [v1]) (fp ++ fp1) (w2.setCell ⟨gc, 0, none⟩ v') := by
  have hsz2 : w1.heap.size + 1 ≤ w2.heap.size := by have := hgrow.size; simpa using this
  have hgcw : gc < w.heap.size := h.blk.lt
  have hfar : ∀ k, k < w1.heap.size → cv.ownBlock ≠ some k → k ≠ gc → (w2.setCell ⟨gc, 0, none⟩ v').heap[k]? = w1.heap[k]? := by
    intro k hk1 hc hne
    rw [Below.heap_setCell _ _ _ _ hne, hgrow.block k (by simp; omega) (fun e => hc e.symm), Below.heap_alloc _ _ _ hk1]
  have hnod := List.nodup_append.1 h.nod
  have hnf : ∀ k ∈ fp, cv.ownBlock ≠ some k := fun k hk1 he => hnod.2.2 k (by simp [he]) k hk1 rfl
  have hv : ∀ k, v'.ownBlock = some k → lo ≤ k := fun k hk1 => (hown2.lt k hk1).1
  have hgcl := h.gcl
  have hgrl := h.grl
  refine ⟨?_, ?_, ?_, ?_, ?_, ?_, h.gcl, h.grl, h.ne_, by have := h.lol; simp [World.setCell]; omega⟩
  · rw [List.length_append]
    exact owns_kept hown2 (fun k hk1 => Below.heap_setCell _ _ _ _ (by have := hv k hk1; show k ≠ gc; omega))
  · refine S.SepL.snoc (hsep1.keep _ (fun k hk1 => hfar k (hrng1 k hk1).2 (fun he => by have := h.own_lt k he; have := hrng1 k hk1; omega) (by have := hrng1 k hk1; omega))) _
      (h.sep.keep _ (fun k hk1 => (hfar k (by have := h.rng k hk1; omega) (hnf k hk1) (by have := h.rng k hk1; omega)).trans (hk k (h.rng k hk1).2 (.inl (h.rng k hk1).1))))
  · have hdis : ∀ a ∈ fp, ∀ c ∈ fp1, a ≠ c := fun a ha c hc => by have := h.rng a ha; have := hrng1 c hc; omega
    have h2 : (fp ++ fp1).Nodup := List.nodup_append.2 ⟨hnod.2.1, hnod1, hdis⟩
    refine List.nodup_append.2 ⟨by cases v'.ownBlock <;> simp, h2, fun a ha c hc => ?_⟩
    have ha' : v'.ownBlock = some a := by simpa using ha
    rintro rfl
    rcases List.mem_append.1 hc with hm | hm
    · rcases hat with he | he
      · exact hnf a hm (by rw [← he]; exact ha')
      · rw [ha'] at he
        have := h.rng a hm
        simp at he
        omega
    · rcases hat with he | he
      · rw [ha'] at he
        have := h.own_lt a he.symm
        have := hrng1 a hm
        omega
      · rw [ha'] at he
        have := hrng1 a hm
        simp at he
        omega
  · intro k hk1
    have hsz : w2.heap.size = (w2.setCell ⟨gc, 0, none⟩ v').heap.size := by simp [World.setCell]
    rcases List.mem_append.1 hk1 with hm | hm
    · have := h.rng k hm; omega
    · have := hrng1 k hm
      refine ⟨?_, by omega⟩
      have := h.lol
      omega
  · have h1 : Blk w2 gc 62 #[cv] := (hgrow.block _ (by simp; omega) (fun e => by have := h.own_lt _ e.symm; omega)).trans ((Below.heap_alloc _ _ _ (by omega)).trans ((hk gc hgcw (.inr (.inl rfl))).trans h.blk))
    exact h1.set_ 0 _
  · exact (hfar gr (by have := h.res.lt; omega) (fun e => by have := h.own_lt _ e; omega) (fun e => h.ne_ e.symm)).trans ((hk gr h.res.lt (.inr (.inr rfl))).trans h.res)
end Go.Proofs.YtbbejhhohppdhaaGreatDoor

namespace Go.Proofs.YtbbejhhohppdhaaGreatDoor
open Go.RowKit

/-- What sort leaves. -/
def SortPost (t : List UInt8) (b : Nat) (w : World) (e : Ending) (w' : World) : Prop :=
  match parse [] t with
  | some (s, r) => ∃ v fp, e = .returned (.agg #[v]) ∧ s.Sep w' v fp ∧ fp.Nodup ∧ (∀ k ∈ fp, w.heap.size ≤ k ∧ k < w'.heap.size) ∧ Blk w' b 161 #[.string ⟨r.toArray⟩] ∧ Saves (fun k => k = b) w w'
  | none => e = pan ∧ Saves (fun k => k = b) w w'
/-- What part leaves. -/
def PartPost (t : List UInt8) (b : Nat) (w : World) (e : Ending) (w' : World) : Prop :=
  match part t with
  | some (s, fl, r) => ∃ v fp, e = .returned (.tuple #[.agg #[v], .bool fl]) ∧ s.Sep w' v fp ∧ fp.Nodup ∧ (∀ k ∈ fp, w.heap.size ≤ k ∧ k < w'.heap.size) ∧ Blk w' b 161 #[.string ⟨r.toArray⟩] ∧ Saves (fun k => k = b) w w'
  | none => e = pan ∧ Saves (fun k => k = b) w w'
theorem SortPost.none_ {t : List UInt8} {b : Nat} {w w' : World} (h : parse [] t = none) (hs : Saves (fun k => k = b) w w') : SortPost t b w pan w' := by
  rw [SortPost, h]; exact ⟨rfl, hs⟩
theorem SortPost.some_ {t r : List UInt8} {s : S} {b : Nat} {w w' : World} {v : Value} {fp : List Nat} (h : parse [] t = some (s, r)) (h1 : s.Sep w' v fp) (h2 : fp.Nodup) (h3 : ∀ k ∈ fp, w.heap.size ≤ k ∧ k < w'.heap.size)
    (h4 : Blk w' b 161 #[.string ⟨r.toArray⟩]) (hs : Saves (fun k => k = b) w w') : SortPost t b w (.returned (.agg #[v])) w' := by
  rw [SortPost, h]; exact ⟨v, fp, rfl, h1, h2, h3, h4, hs⟩
theorem PartPost.none_ {t : List UInt8} {b : Nat} {w w' : World} (h : part t = none) (hs : Saves (fun k => k = b) w w') : PartPost t b w pan w' := by
  rw [PartPost, h]; exact ⟨rfl, hs⟩
theorem PartPost.some_ {t r : List UInt8} {s : S} {fl : Bool} {b : Nat} {w w' : World} {v : Value} {fp : List Nat} (h : part t = some (s, fl, r)) (h1 : s.Sep w' v fp) (h2 : fp.Nodup) (h3 : ∀ k ∈ fp, w.heap.size ≤ k ∧ k < w'.heap.size)
    (h4 : Blk w' b 161 #[.string ⟨r.toArray⟩]) (hs : Saves (fun k => k = b) w w') : PartPost t b w (.returned (.tuple #[.agg #[v], .bool fl])) w' := by
  rw [PartPost, h]; exact ⟨v, fp, rfl, h1, h2, h3, h4, hs⟩

theorem part_results {tmps : Array Value} {w : World} {a : Nat} {x y : Value} (h2 : tmps.getD 2 undef = .pointer (some ⟨a, 0, none⟩)) (h3 : tmps.getD 3 undef = y)
    (ha : Blk w a 62 #[x]) : (results Tryz.f184 tmps).run Tryz.prog w = .ok (.tuple #[.agg #[x], y]) w := by
  have h4 := ha.cell 0
  simp at h4
  have h2' : tmps[2]?.getD undef = .pointer (some ⟨a, 0, none⟩) := by simpa using h2
  have h3' : tmps[3]?.getD undef = y := by simpa using h3
  simp [results, Tryz.results184, go_sem, h2', h3', h4]
theorem sep_nil' (w : World) : (S.mk []).Sep w (.slice none 0 0) [] := by
  simp only [S.Sep]
  exact ⟨[], [], ⟨by simp, .inl ⟨rfl, rfl⟩⟩, by simp [S.SepL], by simp [Value.ownBlock]⟩

theorem skip_yes {p t r : List UInt8} (h : strip p t = some r) (b : Nat) (w : World) (hb : Blk w b 161 #[.string ⟨t.toArray⟩]) :
    Calls Tryz.prog 62 #[.pointer (some ⟨b, 0, none⟩), .string ⟨p.toArray⟩] w fun e w' => e = .returned (.bool true) ∧ Blk w' b 161 #[.string ⟨r.toArray⟩] ∧ Saves (fun k => k = b) w w' := by
  refine (skip_any b p t w hb).mono fun e w' ⟨he, hw⟩ => ?_
  rw [h] at he hw
  subst hw
  exact ⟨he, hb.set_ 0 _, (Saves.refl (fun k => k = b) w).setCell (p := ⟨b, 0, none⟩) (.inl rfl) _⟩
theorem skip_no {p t : List UInt8} (h : strip p t = none) (b : Nat) (w : World) (hb : Blk w b 161 #[.string ⟨t.toArray⟩]) :
    Calls Tryz.prog 62 #[.pointer (some ⟨b, 0, none⟩), .string ⟨p.toArray⟩] w fun e w' => e = .returned (.bool false) ∧ Blk w' b 161 #[.string ⟨t.toArray⟩] ∧ Saves (fun k => k = b) w w' := by
  refine (skip_any b p t w hb).mono fun e w' ⟨he, hw⟩ => ?_
  rw [h] at he hw
  subst hw
  exact ⟨he, hb.set_ 0 _, (Saves.refl (fun k => k = b) w).setCell (p := ⟨b, 0, none⟩) (.inl rfl) _⟩

set_option maxHeartbeats 400000 in
theorem word_yes {p t r : List UInt8} (h : strip p t = some r) (b : Nat) (w : World) (hb : Blk w b 161 #[.string ⟨t.toArray⟩]) :
    Calls Tryz.prog 110 #[.pointer (some ⟨b, 0, none⟩), .string ⟨p.toArray⟩] w fun e w' => e = .returned (.tuple #[]) ∧ Blk w' b 161 #[.string ⟨r.toArray⟩] ∧ Saves (fun k => k = b) w w' := by
  have H1 := Lib.hid (skip_yes h b w hb)
  go_enter Tryz.func110, Tryz.ntmps110
  go_wp2_with fail
  refine H1.out.mono ?_
  rintro e w1 ⟨rfl, b1, s1⟩
  go_wp2_with fail
  refine (must_yes b w1).mono ?_
  rintro e w2 ⟨rfl, rfl⟩
  go_wp2_with fail
  go_end0
  exact ⟨rfl, b1, s1⟩
set_option maxHeartbeats 400000 in
theorem word_no {p t : List UInt8} (h : strip p t = none) (b : Nat) (w : World) (hb : Blk w b 161 #[.string ⟨t.toArray⟩]) :
    Calls Tryz.prog 110 #[.pointer (some ⟨b, 0, none⟩), .string ⟨p.toArray⟩] w fun e w' => e = pan ∧ Saves (fun k => k = b) w w' := by
  have H1 := Lib.hid (skip_no h b w hb)
  go_enter Tryz.func110, Tryz.ntmps110
  go_wp2_with fail
  refine H1.out.mono ?_
  rintro e w1 ⟨rfl, b1, s1⟩
  go_wp2_with fail
  refine (must_no b w1).mono ?_
  rintro e w2 ⟨rfl, rfl⟩
  exact ⟨rfl, rfl, s1⟩

set_option maxHeartbeats 1600000 in
theorem part_any {K : Nat} (ih : ∀ (t : List UInt8) (b : Nat) (w : World), t.length < K → t.length ≤ 65536 → Blk w b 161 #[.string ⟨t.toArray⟩] → Calls Tryz.prog 153 #[.pointer (some ⟨b, 0, none⟩)] w (SortPost t b w))
    (t : List UInt8) (b : Nat) (w : World) (hK : t.length ≤ K) (hL : t.length ≤ 65536) (hb : Blk w b 161 #[.string ⟨t.toArray⟩]) :
    Calls Tryz.prog 184 #[.pointer (some ⟨b, 0, none⟩)] w (PartPost t b w) := by
  have hbw := hb.lt
  have b0 : Blk (w.alloc (.cells #[.slice none 0 0] 62)) b 161 #[.string ⟨t.toArray⟩] := hb.alloc _
  have r0 := Blk.new w 62 #[.slice none 0 0]
  have s0 : Saves (fun k => k = b) w (w.alloc (.cells #[.slice none 0 0] 62)) := (Saves.refl _ _).alloc _
  have hgr : ¬ w.heap.size = b := by omega
  cases h1 : strip [40] t with
  | none =>
    have hpart : part t = match strip [111] t with | some r => some (.mk [], false, r) | none => none := by simp only [part, h1] <;> (cases strip [111] t <;> rfl)
    have H1 := Lib.hid (skip_no h1 b _ b0)
    cases h2 : strip [111] t with
    | none =>
      have HP : Hid (part t = none) := Lib.hid (by rw [hpart, h2])
      have H2 := Lib.hid (fun W => word_no h2 b W)
      clear h1 h2 hpart ih
      go_enter Tryz.func184, Tryz.ntmps184
      go_wp2_with fail
      refine H1.out.mono ?_
      rintro e w1 ⟨rfl, b1, s1⟩
      go_wp2_with fail
      refine (H2.out _ b1).mono ?_
      rintro e w2 ⟨rfl, s2⟩
      exact ⟨rfl, PartPost.none_ HP.out ((s0.trans s1).trans s2)⟩
    | some r =>
      have HP : Hid (part t = some (.mk [], false, r)) := Lib.hid (by rw [hpart, h2])
      have H2 := Lib.hid (fun W => word_yes h2 b W)
      clear h1 h2 hpart ih
      go_enter Tryz.func184, Tryz.ntmps184
      go_wp2_with fail
      refine H1.out.mono ?_
      rintro e w1 ⟨rfl, b1, s1⟩
      go_wp2_with fail
      refine (H2.out _ b1).mono ?_
      rintro e w2 ⟨rfl, b2, s2⟩
      have r2 := (r0.saves s1 hgr).saves s2 hgr
      have hc2 := r2.cell 0
      have hf2 := r2.frozen 0
      go_wp2_with fail
      refine bodyPost_ret (part_results (y := .bool false) rfl rfl (r2.set_ 0 _)) rfl ?_
      exact PartPost.some_ (fp := []) HP.out (sep_nil' _) (by simp) (by simp) (b2.far (by show b ≠ w.heap.size; omega) _) (((s0.trans s1).trans s2).setCell (.inr (Nat.le_refl _)) _)
  | some r =>
    have l1 := strip_len h1
    simp at l1
    have H1 := Lib.hid (skip_yes h1 b _ b0)
    have HS := Lib.hid (fun W => ih r b W (by omega) (by omega))
    clear ih
    cases h2 : parse [] r with
    | none =>
      have HP : Hid (part t = none) := Lib.hid (by simp only [part, h1, h2])
      have HN : Hid (∀ W e w', SortPost r b W e w' → e = pan ∧ Saves (fun k => k = b) W w') := Lib.hid (fun W e w' h => by rw [SortPost, h2] at h; exact h)
      clear h1 h2
      go_enter Tryz.func184, Tryz.ntmps184
      go_wp2_with fail
      refine H1.out.mono ?_
      rintro e w1 ⟨rfl, b1, s1⟩
      go_wp2_with fail
      refine (HS.out _ b1).mono ?_
      intro e w2 h3
      obtain ⟨rfl, s2⟩ := HN.out _ _ _ h3
      exact ⟨rfl, PartPost.none_ HP.out ((s0.trans s1).trans s2)⟩
    | some y =>
      obtain ⟨x, r2⟩ := y
      have l2 := parse_le h2
      have HY : Hid (∀ W e w', SortPost r b W e w' → ∃ v fp, e = .returned (.agg #[v]) ∧ x.Sep w' v fp ∧ fp.Nodup ∧ (∀ k ∈ fp, W.heap.size ≤ k ∧ k < w'.heap.size) ∧ Blk w' b 161 #[.string ⟨r2.toArray⟩] ∧ Saves (fun k => k = b) W w') :=
        Lib.hid (fun W e w' h => by rw [SortPost, h2] at h; exact h)
      have hpart : part t = if x.args.isEmpty then none else (match strip [41] r2 with | some q => some (x, true, q) | none => none) := by simp only [part, h1, h2] <;> (cases strip [41] r2 <;> rfl)
      by_cases hx : x.args = []
      · have HP : Hid (part t = none) := Lib.hid (by rw [hpart, hx]; rfl)
        have HX := Lib.hid hx
        clear h1 h2 hpart hx
        go_enter Tryz.func184, Tryz.ntmps184
        go_wp2_with fail
        refine H1.out.mono ?_
        rintro e w1 ⟨rfl, b1, s1⟩
        go_wp2_with fail
        refine (HS.out _ b1).mono ?_
        intro e w2 h3
        obtain ⟨v, fp, rfl, g1, g2, g3, g4, g5⟩ := HY.out _ _ _ h3
        obtain ⟨A, c, rfl⟩ : ∃ A c, v = .slice A 0 c := by
          have := g1
          obtain ⟨l⟩ := x
          have hl : l = [] := HX.out
          subst hl
          simp only [S.Sep] at this
          obtain ⟨us, rest, ho, _⟩ := this
          rcases ho.2 with ⟨rfl, _⟩ | ⟨g, cap, cur, rfl, _⟩
          · exact ⟨_, _, rfl⟩
          · exact ⟨_, _, rfl⟩
        have r2 := (r0.saves s1 hgr).saves g5 hgr
        have hc2 := r2.cell 0
        have hf2 := r2.frozen 0
        go_wp2_with fail
        refine (must_no b _).mono ?_
        rintro e w3 ⟨rfl, rfl⟩
        exact ⟨rfl, PartPost.none_ HP.out (((s0.trans s1).trans g5).setCell (.inr (Nat.le_refl _)) _)⟩
      · have hx' : x.args.isEmpty = false := by simpa using hx
        have hlen : ∀ (w : World) (A : Option Addr) (n c : Nat) (fp : List Nat), x.Sep w (.slice A n c) fp → 0 < n := by
          intro w A n c fp h
          obtain ⟨l⟩ := x
          simp only [S.Sep] at h
          obtain ⟨us, rest, ho, _⟩ := h
          have hl : 0 < l.length := List.length_pos_iff.2 hx
          rcases ho.2 with ⟨_, h0⟩ | ⟨g, cap, cur, hv, _⟩
          · omega
          · injection hv with _ h2 _; omega
        have HLen := Lib.hid hlen
        cases h3 : strip [41] r2 with
        | none =>
          have HP : Hid (part t = none) := Lib.hid (by simp [hpart, hx', h3])
          have H3 := Lib.hid (fun W => word_no h3 b W)
          clear h1 h2 h3 hpart hx hx' hlen
          go_enter Tryz.func184, Tryz.ntmps184
          go_wp2_with fail
          refine H1.out.mono ?_
          rintro e w1 ⟨rfl, b1, s1⟩
          go_wp2_with fail
          refine (HS.out _ b1).mono ?_
          intro e w2 h3
          obtain ⟨v, fp, rfl, g1, g2, g3, g4, g5⟩ := HY.out _ _ _ h3
          obtain ⟨A, n, c, rfl⟩ := g1.form
          have hn := HLen.out _ _ _ _ _ g1
          have q2 := (r0.saves s1 hgr).saves g5 hgr
          have hc2 := q2.cell 0
          have hf2 := q2.frozen 0
          have hgt : decide ((0 : Int) < (n : Int)) = true := by simpa using hn
          have b3 := g4.far (p := ⟨w.heap.size, 0, none⟩) (by show b ≠ w.heap.size; omega) (.slice A n c)
          have H4 := Lib.hid (H3.out _ b3)
          go_wp2_with fail
          refine (must_yes b _).mono ?_
          rintro e w3 ⟨rfl, rfl⟩
          go_wp2_with fail
          refine H4.out.mono ?_
          rintro e w3 ⟨rfl, s4⟩
          exact ⟨rfl, PartPost.none_ HP.out ((((s0.trans s1).trans g5).setCell (.inr (Nat.le_refl _)) _).trans s4)⟩
        | some q =>
          have HP : Hid (part t = some (x, true, q)) := Lib.hid (by simp [hpart, hx', h3])
          have H3 := Lib.hid (fun W => word_yes h3 b W)
          clear h1 h2 h3 hpart hx hx' hlen
          go_enter Tryz.func184, Tryz.ntmps184
          go_wp2_with fail
          refine H1.out.mono ?_
          rintro e w1 ⟨rfl, b1, s1⟩
          go_wp2_with fail
          refine (HS.out _ b1).mono ?_
          intro e w2 h3
          obtain ⟨v, fp, rfl, g1, g2, g3, g4, g5⟩ := HY.out _ _ _ h3
          obtain ⟨A, n, c, rfl⟩ := g1.form
          have hn := HLen.out _ _ _ _ _ g1
          have hz1 := s1.size
          simp only [World.size_alloc] at hz1
          have q2 := (r0.saves s1 hgr).saves g5 hgr
          have hc2 := q2.cell 0
          have hf2 := q2.frozen 0
          have hgt : decide ((0 : Int) < (n : Int)) = true := by simpa using hn
          have b3 := g4.far (p := ⟨w.heap.size, 0, none⟩) (by show b ≠ w.heap.size; omega) (.slice A n c)
          have q3 := q2.set_ 0 (.slice A n c)
          have g13 := g1.keep (w' := w2.setCell ⟨w.heap.size, 0, none⟩ (.slice A n c)) _ (fun k hk => Below.heap_setCell _ _ _ _ (by have := g3 k hk; show k ≠ w.heap.size; omega))
          have H4 := Lib.hid (H3.out _ b3)
          go_wp2_with fail
          refine (must_yes b _).mono ?_
          rintro e w4 ⟨rfl, rfl⟩
          go_wp2_with fail
          refine H4.out.mono ?_
          rintro e w3 ⟨rfl, b4, s4⟩
          have q4 := q3.saves s4 hgr
          have hz4 := s4.size
          have hc4 := q4.cell 0
          have hf4 := q4.frozen 0
          simp at hc4
          go_wp2_with fail
          refine bodyPost_ret (part_results (y := .bool true) rfl rfl (q4.set_ 0 _)) rfl ?_
          have hz5 : w2.heap.size ≤ w3.heap.size := by simpa [World.setCell] using hz4
          refine PartPost.some_ (fp := fp) HP.out ?_ g2 ?_ (b4.far (by show b ≠ w.heap.size; omega) _) (((((s0.trans s1).trans g5).setCell (.inr (Nat.le_refl _)) _).trans s4).setCell (.inr (Nat.le_refl _)) _)
          · refine g13.keep _ (fun k hk => ?_)
            have := g3 k hk
            rw [Below.heap_setCell _ _ _ _ (by show k ≠ w.heap.size; omega)]
            exact s4.block k (by simp [World.setCell]; omega) (by omega)
          · intro k hk
            have := g3 k hk
            simp [World.setCell]
            omega
end Go.Proofs.YtbbejhhohppdhaaGreatDoor

namespace Go.Proofs.YtbbejhhohppdhaaGreatDoor
open Go.RowKit

theorem Built.done {acc : List S} {lo gc gr : Nat} {cv : Value} {us : List Value} {fp : List Nat} {w : World} (h : Built acc lo gc gr cv us fp w) (u : Value) :
    (S.mk acc).Sep (w.setCell ⟨gr, 0, none⟩ u) cv (cv.ownBlock.toList ++ fp) ∧ (cv.ownBlock.toList ++ fp).Nodup ∧ ∀ k ∈ cv.ownBlock.toList ++ fp, lo ≤ k ∧ k < (w.setCell ⟨gr, 0, none⟩ u).heap.size := by
  have hall : ∀ k ∈ cv.ownBlock.toList ++ fp, lo ≤ k ∧ k < w.heap.size := by
    intro k hk
    rcases List.mem_append.1 hk with hk | hk
    · exact h.own_lt k (by simpa using hk)
    · exact h.rng k hk
  have hs : (S.mk acc).Sep w cv (cv.ownBlock.toList ++ fp) := by
    simp only [S.Sep]
    refine ⟨us, fp, ⟨h.own.1, ?_⟩, h.sep, rfl⟩
    rcases h.own.2 with h1 | ⟨g, cap, cur, h1, h2, h3⟩
    · exact .inl h1
    · exact .inr ⟨g, cap, cur, h1, Nat.zero_le _, h3⟩
  have hg := h.grl
  refine ⟨hs.keep _ (fun k hk => Below.heap_setCell _ _ _ _ (by have := hall k hk; show k ≠ gr; omega)), h.nod, fun k hk => by have := hall k hk; simpa [World.setCell] using this⟩

/-- How long the text in a cell is. -/
def leftIn (o : Option Value) : Nat := match o with | some (.string s) => s.size | _ => 0

theorem sort_results {tmps : Array Value} {w : World} {a : Nat} {x : Value} (h2 : tmps.getD 2 undef = .pointer (some ⟨a, 0, none⟩))
    (ha : Blk w a 62 #[x]) : (results Tryz.f153 tmps).run Tryz.prog w = .ok (.agg #[x]) w := by
  have h4 := ha.cell 0
  simp at h4
  have h2' : tmps[2]?.getD undef = .pointer (some ⟨a, 0, none⟩) := by simpa using h2
  simp [results, Tryz.results153, go_sem, h2', h4]

/-- The loop's relation: the reader has t' left, acc has been read. -/
structure Reading (t : List UInt8) (b : Nat) (w : World) (acc : List S) (t' : List UInt8) (cv : Value) (us : List Value) (fp : List Nat) (wr : World) : Prop where
  built : Built acc (w.heap.size + 1 + 1) (w.heap.size + 1) w.heap.size cv us fp wr
  text : Blk wr b 161 #[.string ⟨t'.toArray⟩]
  same : parse [] t = parse acc t'
  len : acc.length + t'.length ≤ t.length
  sav : Saves (fun k => k = b) w wr

theorem Reading.start {t : List UInt8} {b : Nat} {w : World} (hb : Blk w b 161 #[.string ⟨t.toArray⟩]) :
    Reading t b w [] t (.slice none 0 0) [] [] ((w.alloc (.cells #[.slice none 0 0] 62)).alloc (.cells #[.slice none 0 0] 62)) where
  built := ⟨⟨by simp, .inl ⟨rfl, rfl⟩⟩, by simp [S.SepL], by simp [Value.ownBlock], by simp, by simpa using Blk.new (w.alloc (.cells #[.slice none 0 0] 62)) 62 #[.slice none 0 0], (Blk.new _ _ _).alloc _, by omega, by omega, by omega, by simp⟩
  text := (hb.alloc _).alloc _
  same := rfl
  len := by simp
  sav := ((Saves.refl _ _).alloc _).alloc _

set_option maxHeartbeats 3200000 in
theorem sort_any (K : Nat) : ∀ (t : List UInt8) (b : Nat) (w : World), t.length < K → t.length ≤ 65536 → Blk w b 161 #[.string ⟨t.toArray⟩] →
    Calls Tryz.prog 153 #[.pointer (some ⟨b, 0, none⟩)] w (SortPost t b w) := by
  induction K with
  | zero => intro t b w h; omega
  | succ K ih =>
    intro t b w hK hL hb
    have hbw := hb.lt
    obtain ⟨i0, hi0, hz0, hz1, hz2⟩ := info_parts sort_info
    have hIP := fun t' W h1 h2 => part_any ih t' b W h1 h2
    have HP := Lib.hid hIP
    have HS := Lib.hid (Reading.start hb)
    clear hIP ih hb
    go_enter Tryz.func153, Tryz.ntmps153
    go_wp2_with fail
    go_loopw [] (fun wr => ∃ acc t' cv us fp, Reading t b w acc t' cv us fp wr) (fun wr => leftIn (wr.cell? ⟨b, 0, none⟩))
    case atStart => exact ⟨_, _, _, _, _, HS.out⟩
    case round =>
      obtain ⟨acc, t', cv, us, fp, hr⟩ := hrel
      have hlen := hr.len
      have hcb0 := hr.text.cell 0
      have HC := Lib.hid (HP.out t' wr (by omega) (by omega) hr.text)
      have hpp := parse_part acc t'
      rw [← hr.same] at hpp
      have hszr := hr.sav.size
      have hbl := hr.built.blk.lt
      cases hpt : part t' with
      | none =>
        have hN : parse [] t = none := by rw [hpp, hpt]
        have HQ : Hid (∀ e w', PartPost t' b wr e w' → e = pan ∧ Saves (fun k => k = b) wr w') := Lib.hid (fun e w' h => by rw [PartPost, hpt] at h; exact h)
        have HN := Lib.hid hN
        have HR := Lib.hid hr
        clear hpp hpt hN hr
        go_wp2_with fail
        refine HC.out.mono ?_
        intro e w1 h1
        obtain ⟨rfl, s1⟩ := HQ.out _ _ h1
        exact ⟨rfl, SortPost.none_ HN.out (HR.out.sav.trans s1)⟩
      | some y =>
        obtain ⟨x, fl, r⟩ := y
        have hle := part_le hpt
        have HQ : Hid (∀ e w', PartPost t' b wr e w' → ∃ v fp, e = .returned (.tuple #[.agg #[v], .bool fl]) ∧ x.Sep w' v fp ∧ fp.Nodup ∧ (∀ k ∈ fp, wr.heap.size ≤ k ∧ k < w'.heap.size) ∧ Blk w' b 161 #[.string ⟨r.toArray⟩] ∧ Saves (fun k => k = b) wr w') :=
          Lib.hid (fun e w' h => by rw [PartPost, hpt] at h; exact h)
        cases hst : strip arrow r with
        | none =>
          have H3 := Lib.hid (fun W => skip_no hst b W)
          cases fl with
          | true =>
            have HN : Hid (parse [] t = none) := Lib.hid (by rw [hpp, hpt]; simp [hst])
            have HR := Lib.hid hr
            clear hpp hpt hr hst
            go_wp2_with fail
            refine HC.out.mono ?_
            intro e w1 h1
            obtain ⟨v, f1, rfl, g1, g2, g3, g4, g5⟩ := HQ.out _ _ h1
            obtain ⟨A, n, c, rfl⟩ := g1.form
            have b2 := g4.alloc (.cells #[.slice A n c] 62)
            have H4 := Lib.hid (H3.out _ b2)
            go_wp2_with fail
            refine H4.out.mono ?_
            rintro e w2 ⟨rfl, b3, s3⟩
            go_wp2_with fail
            refine (must_no b _).mono ?_
            rintro e w4 ⟨rfl, rfl⟩
            exact ⟨rfl, SortPost.none_ HN.out (((HR.out.sav.trans g5).alloc _).trans s3)⟩
          | false =>
            have HN : Hid (parse [] t = some (.mk acc, r)) := Lib.hid (by rw [hpp, hpt]; simp [hst])
            have HR := Lib.hid hr
            clear hpp hpt hr hst
            go_wp2_with fail
            refine HC.out.mono ?_
            intro e w1 h1
            obtain ⟨v, f1, rfl, g1, g2, g3, g4, g5⟩ := HQ.out _ _ h1
            obtain ⟨A, n, c, rfl⟩ := g1.form
            have b2 := g4.alloc (.cells #[.slice A n c] 62)
            have H4 := Lib.hid (H3.out _ b2)
            go_wp2_with fail
            refine H4.out.mono ?_
            rintro e w2 ⟨rfl, b3, s3⟩
            have bt3 := (HR.out.built.saves (((g5).alloc (.cells #[.slice A n c] 62)).trans s3) (by omega) (by omega) (by omega))
            obtain ⟨A3, n3, c3, rfl⟩ := own_form bt3.own
            have hc3 := bt3.blk.cell 0
            have hr3 := bt3.res.cell 0
            have hf3 := bt3.res.frozen 0
            have BT := Lib.hid bt3
            clear bt3
            go_wp2_with fail
            refine (must_yes b _).mono ?_
            rintro e w4 ⟨rfl, rfl⟩
            go_wp2_with fail
            have bt := BT.out
            refine bodyPost_ret (sort_results rfl (bt.res.set_ 0 _)) rfl ?_
            obtain ⟨d1, d2, d3⟩ := bt.done (.slice A3 n3 c3)
            exact SortPost.some_ HN.out d1 d2 (fun k hk => by have := d3 k hk; omega) (b3.far (by show b ≠ w.heap.size; omega) _) ((((HR.out.sav.trans g5).alloc _).trans s3).setCell (.inr (Nat.le_refl _)) _)
        | some q =>
          have hlq := strip_len hst
          have HN : Hid (parse [] t = parse (acc ++ [x]) q) := Lib.hid (by rw [hpp, hpt]; simp [hst])
          have H3 := Lib.hid (fun W => skip_yes hst b W)
          have HR := Lib.hid hr
          have har : arrow.length = 3 := rfl
          rw [har] at hlq
          clear hpp hpt hr hst har
          go_wp2_with fail
          refine HC.out.mono ?_
          intro e w1 h1
          obtain ⟨v, f1, rfl, g1, g2, g3, g4, g5⟩ := HQ.out _ _ h1
          obtain ⟨A, n, c, rfl⟩ := g1.form
          have b2 := g4.alloc (.cells #[.slice A n c] 62)
          have H4 := Lib.hid (H3.out _ b2)
          have hzw1 := g5.size
          go_wp2_with fail
          refine H4.out.mono ?_
          rintro e w2 ⟨rfl, b3, s3⟩
          have hz3 := s3.size
          simp only [World.size_alloc] at hz3
          have sv := ((g5).alloc (.cells #[.slice A n c] 62)).trans s3
          have bt3 := (HR.out.built.saves sv (by omega) (by omega) (by omega))
          have hc3 := bt3.blk.cell 0
          have hx3 : Blk w2 w1.heap.size 62 #[.slice A n c] := (Blk.new w1 _ _).saves s3 (by omega)
          have hxc := hx3.cell 0
          have hown := bt3.own
          have BT := Lib.hid bt3
          clear bt3
          have hacc : acc.length ≤ 65536 := by omega
          go_wp2_with (at_builtin; go_loud (refine wpList_append_own_at _ rfl (.tmp 20) (.tmp 22) 60 rfl (w.heap.size + 1 + 1) 62 i0 _ 1 24 Tryz.underlying60 hi0 hz0 hz1 hz2 rfl (by decide) cv acc.length us rfl (hown.alloc _) ⟨w2.heap.size, 0, none⟩ 1 1 [.slice A n c] rfl rfl ?c1 ?c2 ?c3 ?c4 ?c5 ?_))
          case c1 => exact World.news_of_block (cs := #[.slice A n c]) (t := 62) (fr := (0, 0)) (heap_alloc_new w2 _)
          case c2 => intro u hu; rw [List.mem_singleton.1 hu]; rfl
          case c3 => simp only [maxLen]; omega
          case c4 => omega
          case c5 => simp; omega
          intro v' w4 hown4 hgrow _ hat
          obtain ⟨A5, n5, c5, rfl⟩ := own_form hown4
          have bt := BT.out
          have hgw2 := bt.blk.lt
          have hb4 : Blk w4 (w.heap.size + 1) 62 #[cv] := (hgrow.block _ (by simp; omega) (fun e => by have := bt.own_lt _ e.symm; omega)).trans (bt.blk.alloc _)
          have hbt4 : Blk w4 b 161 #[.string ⟨q.toArray⟩] := (hgrow.block _ (by have := b3.lt; simp; omega) (fun e => by have := bt.own_lt _ e.symm; omega)).trans (b3.alloc _)
          have hc4 := hb4.cell 0
          have hf4 := hb4.frozen 0
          have hq1 : ∀ k ∈ f1, w1.heap.size > k := fun k hk => (g3 k hk).2
          have hnx := HR.out.built.next (x := x) (w1 := w2) (v1 := .slice A n c) (fp1 := f1) (v' := .slice A5 n5 c5) (o1 := .cells #[.slice A n c] 62) (w2 := w4)
            (fun k hk hor => sv.block k hk (by omega)) (by omega)
            (g1.keep _ (fun k hk => by
              have h1 := g3 k hk
              rw [s3.block k (by simp; omega) (by omega)]
              exact Below.heap_alloc _ _ _ h1.2)) g2 (fun k hk => by have := g3 k hk; omega) hown4 hgrow hat
          have HNX := Lib.hid hnx
          have hsv2 : Saves (fun k => k = b) w w2 := HR.out.sav.trans sv
          have hz2w := hsv2.size
          have hsv4 : Saves (fun k => k = b) w w4 := ⟨hgrow.os.trans hsv2.os, hgrow.tape.trans hsv2.tape, hgrow.output.trans hsv2.output, by have := hgrow.size; simp at this; omega,
            fun k hk hne => (hgrow.block k (by simp; omega) (fun e => by have := bt.own_lt _ e.symm; omega)).trans ((Below.heap_alloc _ _ _ (by omega)).trans (hsv2.block k hk hne))⟩
          have HSV := Lib.hid hsv4
          clear hnx hsv4 hsv2
          go_wp2_with fail
          go_roundw
          case rel =>
            refine ⟨_, q, _, _, _, ⟨HNX.out, ?_, HN.out, ?_, ?_⟩⟩
            · exact hbt4.far (p := ⟨w.heap.size + 1, 0, none⟩) (by show b ≠ w.heap.size + 1; omega) _
            · simp only [List.length_append, List.length_cons, List.length_nil]; omega
            · exact HSV.out.setCell (p := ⟨w.heap.size + 1, 0, none⟩) (.inr (Nat.le_succ _)) _
          case measure =>
            have hq : (w4.setCell ⟨w.heap.size + 1, 0, none⟩ (.slice A5 n5 c5)).cell? ⟨b, 0, none⟩ = some (.string ⟨q.toArray⟩) := (hbt4.far (p := ⟨w.heap.size + 1, 0, none⟩) (by show b ≠ w.heap.size + 1; omega) _).cell 0
            have ht : wr.cell? ⟨b, 0, none⟩ = some (.string ⟨t'.toArray⟩) := HR.out.text.cell 0
            rw [hq, ht]
            show q.toArray.size < t'.toArray.size
            simp
            omega
end Go.Proofs.YtbbejhhohppdhaaGreatDoor

namespace Go.Proofs.YtbbejhhohppdhaaGreatDoor
open Go.RowKit

/-- What All leaves. -/
def AllPost (t : List UInt8) (w : World) (e : Ending) (w' : World) : Prop :=
  match parse [] t with
  | some (s, []) => ∃ v fp, e = .returned (.agg #[v]) ∧ s.Sep w' v fp ∧ fp.Nodup ∧ (∀ k ∈ fp, w.heap.size ≤ k ∧ k < w'.heap.size) ∧ Below w.heap.size w w'
  | _ => e = pan ∧ Below w.heap.size w w'
theorem AllPost.none_ {t : List UInt8} {w w' : World} (h : parse [] t = none) (hb : Below w.heap.size w w') : AllPost t w pan w' := by
  rw [AllPost, h]; exact ⟨rfl, hb⟩
theorem AllPost.rest {t r : List UInt8} {s : S} {w w' : World} (h : parse [] t = some (s, r)) (hr : r ≠ []) (hb : Below w.heap.size w w') : AllPost t w pan w' := by
  rw [AllPost, h]
  cases r with
  | nil => exact absurd rfl hr
  | cons a r => exact ⟨rfl, hb⟩
theorem AllPost.some_ {t : List UInt8} {s : S} {w w' : World} {v : Value} {fp : List Nat} (h : parse [] t = some (s, [])) (h1 : s.Sep w' v fp) (h2 : fp.Nodup) (h3 : ∀ k ∈ fp, w.heap.size ≤ k ∧ k < w'.heap.size) (hb : Below w.heap.size w w') :
    AllPost t w (.returned (.agg #[v])) w' := by
  rw [AllPost, h]; exact ⟨v, fp, rfl, h1, h2, h3, hb⟩

theorem all_results {tmps : Array Value} {w : World} {a : Nat} {x : Value} (h2 : tmps.getD 4 undef = .pointer (some ⟨a, 0, none⟩))
    (ha : Blk w a 62 #[x]) : (results Tryz.f208 tmps).run Tryz.prog w = .ok (.agg #[x]) w := by
  have h4 := ha.cell 0
  simp at h4
  have h2' : tmps[4]?.getD undef = .pointer (some ⟨a, 0, none⟩) := by simpa using h2
  simp [results, Tryz.results208, go_sem, h2', h4]

set_option maxHeartbeats 1600000 in
theorem all_any (t : List UInt8) (w : World) (hL : t.length ≤ 65536) :
    Calls Tryz.prog 208 #[.string ⟨t.toArray⟩, .func (.func 153) #[] #[]] w (AllPost t w) := by
  have hr3 : Blk ((w.alloc (.cells #[.slice none 0 0] 62)).alloc (.cells #[.string ⟨t.toArray⟩] 161)) w.heap.size 62 #[.slice none 0 0] := (Blk.new _ _ _).alloc _
  have hw3 : Below w.heap.size w ((w.alloc (.cells #[.slice none 0 0] 62)).alloc (.cells #[.string ⟨t.toArray⟩] 161)) :=
    ((Below.refl _ _).alloc (Nat.le_refl _) _).alloc (by simp) _
  have hb3 : Blk ((w.alloc (.cells #[.slice none 0 0] 62)).alloc (.cells #[.string ⟨t.toArray⟩] 161)) (w.heap.size + 1) 161 #[.string ⟨t.toArray⟩] := by
    have := Blk.new (w.alloc (.cells #[.slice none 0 0] 62)) 161 #[.string ⟨t.toArray⟩]
    simpa using this
  have HS := Lib.hid (sort_any (t.length + 1) t (w.heap.size + 1) _ (by omega) hL hb3)
  cases hp : parse [] t with
  | none =>
    have HQ : Hid (∀ W e w', SortPost t (w.heap.size + 1) W e w' → e = pan ∧ Saves (fun k => k = w.heap.size + 1) W w') := Lib.hid (fun W e w' h => by rw [SortPost, hp] at h; exact h)
    have HN := Lib.hid hp
    clear hp
    go_enter Tryz.func208, Tryz.ntmps208
    go_wp2_with fail
    refine HS.out.mono ?_
    intro e w1 h1
    obtain ⟨rfl, s1⟩ := HQ.out _ _ _ h1
    have hb1 := s1.below (B := w.heap.size) (by simp; omega) (fun k hk => by omega)
    exact ⟨rfl, AllPost.none_ HN.out (hw3.trans hb1)⟩
  | some y =>
    obtain ⟨s, r⟩ := y
    have HQ : Hid (∀ W e w', SortPost t (w.heap.size + 1) W e w' → ∃ v fp, e = .returned (.agg #[v]) ∧ s.Sep w' v fp ∧ fp.Nodup ∧ (∀ k ∈ fp, W.heap.size ≤ k ∧ k < w'.heap.size) ∧ Blk w' (w.heap.size + 1) 161 #[.string ⟨r.toArray⟩] ∧ Saves (fun k => k = w.heap.size + 1) W w') :=
      Lib.hid (fun W e w' h => by rw [SortPost, hp] at h; exact h)
    have HN := Lib.hid hp
    clear hp
    by_cases hr : r = []
    · subst hr
      go_enter Tryz.func208, Tryz.ntmps208
      go_wp2_with fail
      refine HS.out.mono ?_
      intro e w1 h1
      obtain ⟨v, fp, rfl, g1, g2, g3, g4, s1⟩ := HQ.out _ _ _ h1
      obtain ⟨A, n, c, rfl⟩ := g1.form
      have hb1 := s1.below (B := w.heap.size) (by simp; omega) (fun k hk => by omega)
      have hr1 := (hr3.saves s1 (by omega)).alloc (.cells #[.slice A n c] 62)
      have hz1 := s1.size
      simp only [World.size_alloc] at hz1 g3
      have g4' := g4.alloc (.cells #[.slice A n c] 62)
      have c1 := hr1.cell 0
      have f1 := hr1.frozen 0
      have c3 := g4'.cell 0
      have x1 := Blk.new w1 62 #[.slice A n c]
      have cx := x1.cell 0
      go_wp2_with fail
      refine (must_yes _ _).mono ?_
      rintro e w2 ⟨rfl, rfl⟩
      go_wp2_with fail
      refine bodyPost_ret (all_results rfl (hr1.set_ 0 _)) rfl ?_
      refine AllPost.some_ (fp := fp) HN.out (g1.keep _ fun k hk => ?_) g2 (fun k hk => ?_) (((hw3.trans hb1).alloc (by omega) _).setCell (p := ⟨w.heap.size, 0, none⟩) (Nat.le_refl _) _)
      · have := g3 k hk
        rw [Below.heap_setCell _ _ _ _ (by show k ≠ w.heap.size; omega)]
        exact Below.heap_alloc _ _ _ this.2
      · have := g3 k hk
        simp [World.setCell]
        omega
    · have hre : r.isEmpty = false := by simpa using hr
      have HR := Lib.hid hr
      clear hr
      go_enter Tryz.func208, Tryz.ntmps208
      go_wp2_with fail
      refine HS.out.mono ?_
      intro e w1 h1
      obtain ⟨v, fp, rfl, g1, g2, g3, g4, s1⟩ := HQ.out _ _ _ h1
      obtain ⟨A, n, c, rfl⟩ := g1.form
      have hb1 := s1.below (B := w.heap.size) (by simp; omega) (fun k hk => by omega)
      have hz1 := s1.size
      simp only [World.size_alloc] at hz1 g3
      have g4' := g4.alloc (.cells #[.slice A n c] 62)
      have c3 := g4'.cell 0
      go_wp2_with fail
      refine (must_no _ _).mono ?_
      rintro e w2 ⟨rfl, rfl⟩
      exact ⟨rfl, AllPost.rest HN.out HR.out ((hw3.trans hb1).alloc (by omega) _)⟩

theorem catch_panicking (q : Addr) (y pv : Value) (u : TypeId) (older : List PanicEntry) (w : World) (hc : w.cell? q = some y) (hz : w.frozen? q = false) :
    CallsD Tryz.prog 207 #[.pointer (some q)] (.panicking ({ v := .iface u pv, recovered := false } :: older)) w fun e u' w' =>
      e = .returned (.tuple #[]) ∧ u' = .panicking ({ v := .iface u pv, recovered := true } :: older) ∧ w' = w.setCell q (.bool false) := by
  refine callsD_of_wpS Tryz.func207 rfl fun c₀ cs hu => ?_
  apply wpS_region
  simp [wpOpsS, go_sem, recoverD, hu, Tryz.ntmps207, hc, hz, bodyPostS, results, Tryz.results207]

theorem catch_idle (q : Addr) (y : Value) (w : World) (hc : w.cell? q = some y) (hz : w.frozen? q = false) :
    CallsD Tryz.prog 207 #[.pointer (some q)] .returning w fun e u' w' => e = .returned (.tuple #[]) ∧ u' = .returning ∧ w' = w.setCell q (.bool true) := by
  refine callsD_of_wpS Tryz.func207 rfl fun c₀ cs hu => ?_
  apply wpS_region
  simp [wpOpsS, go_sem, recoverD, hu, Tryz.ntmps207, hc, hz, bodyPostS, results, Tryz.results207]
  cases c₀
  simp_all

/-- What attempt leaves. -/
def ReadPost (t : List UInt8) (w : World) (e : Ending) (w' : World) : Prop :=
  match parse [] t with
  | some (s, []) => ∃ v fp, e = .returned (.tuple #[.agg #[v], .bool true]) ∧ s.Sep w' v fp ∧ fp.Nodup ∧ (∀ k ∈ fp, w.heap.size ≤ k ∧ k < w'.heap.size) ∧ Below w.heap.size w w'
  | _ => e = .returned (.tuple #[.agg #[.slice none 0 0], .bool false]) ∧ Below w.heap.size w w'

theorem read_results {tmps : Array Value} {w : World} {a b : Nat} {x y : Value} (h2 : tmps.getD 4 undef = .pointer (some ⟨a, 0, none⟩)) (h3 : tmps.getD 5 undef = .pointer (some ⟨b, 0, none⟩))
    (ha : Blk w a 62 #[x]) (hb : Blk w b 4 #[y]) : (results Tryz.f183 tmps).run Tryz.prog w = .ok (.tuple #[.agg #[x], y]) w := by
  have h4 := ha.cell 0
  have h5 := hb.cell 0
  simp at h4 h5
  have h2' : tmps[4]?.getD undef = .pointer (some ⟨a, 0, none⟩) := by simpa using h2
  have h3' : tmps[5]?.getD undef = .pointer (some ⟨b, 0, none⟩) := by simpa using h3
  simp [results, Tryz.results183, go_sem, h2', h3', h4, h5]

set_option maxHeartbeats 1600000 in
theorem read_any (t : List UInt8) (w : World) (hL : t.length ≤ 65536) :
    Calls Tryz.prog 183 #[.string ⟨t.toArray⟩, .func (.func 153) #[] #[]] w (ReadPost t w) := by
  have hmf : ∀ (fn : Fn) (first cap : Array Value) (w : World), (Instr.makeFunc fn first cap).run Tryz.prog w = .ok (.func fn first cap) w := fun _ _ _ _ => rfl
  have hw3 : Below w.heap.size w ((w.alloc (.cells #[.slice none 0 0] 62)).alloc (.cells #[.bool false] 4)) :=
    ((Below.refl _ _).alloc (Nat.le_refl _) _).alloc (by simp) _
  have hr3 : Blk ((w.alloc (.cells #[.slice none 0 0] 62)).alloc (.cells #[.bool false] 4)) w.heap.size 62 #[.slice none 0 0] := (Blk.new _ _ _).alloc _
  have he3 : Blk ((w.alloc (.cells #[.slice none 0 0] 62)).alloc (.cells #[.bool false] 4)) (w.heap.size + 1) 4 #[.bool false] := by
    have := Blk.new (w.alloc (.cells #[.slice none 0 0] 62)) 4 #[.bool false]
    simpa using this
  have HS := Lib.hid (all_any t ((w.alloc (.cells #[.slice none 0 0] 62)).alloc (.cells #[.bool false] 4)) hL)
  by_cases hp : ∃ s, parse [] t = some (s, [])
  · obtain ⟨s, hp⟩ := hp
    have HQ : Hid (∀ W e w', AllPost t W e w' → ∃ v fp, e = .returned (.agg #[v]) ∧ s.Sep w' v fp ∧ fp.Nodup ∧ (∀ k ∈ fp, W.heap.size ≤ k ∧ k < w'.heap.size) ∧ Below W.heap.size W w') :=
      Lib.hid (fun W e w' h => by rw [AllPost, hp] at h; exact h)
    have HG : Hid (∀ v fp w', s.Sep w' v fp → fp.Nodup → (∀ k ∈ fp, w.heap.size ≤ k ∧ k < w'.heap.size) → Below w.heap.size w w' → ReadPost t w (.returned (.tuple #[.agg #[v], .bool true])) w') :=
      Lib.hid (fun v fp w' h1 h2 h3 h4 => by rw [ReadPost, hp]; exact ⟨v, fp, rfl, h1, h2, h3, h4⟩)
    clear hp
    go_enter_defers Tryz.func183, Tryz.ntmps183
    go_wp2_with fail
    refine HS.out.mono ?_
    intro e w1 h1
    obtain ⟨v, fp, rfl, g1, g2, g3, b1⟩ := HQ.out _ _ _ h1
    obtain ⟨A, n, c, rfl⟩ := g1.form
    simp only [World.size_alloc] at b1 g3
    have hr1 := hr3.below b1 (by omega)
    have he1 := he3.below b1 (by omega)
    have hz1 := b1.size
    simp only [World.size_alloc] at hz1
    have c1 := hr1.cell 0
    have f1 := hr1.frozen 0
    have c2 := he1.cell 0
    have f2 := he1.frozen 0
    go_wp2_with fail
    refine leaves_cons (f := 207) (args := #[.pointer (some ⟨w.heap.size + 1, 0, none⟩)]) (by simp) (by simp [go_sem]) ?_
    have hr2 := (hr1.set_ 0 (.slice A n c)).far (p := ⟨w.heap.size + 1, 0, none⟩) (by simp) (.bool true)
    have he2 := (he1.far (p := ⟨w.heap.size, 0, none⟩) (by simp) (.slice A n c)).set_ 0 (.bool true)
    refine (catch_idle ⟨w.heap.size + 1, 0, none⟩ _ _ (he2.cell 0) (he2.frozen 0)).mono ?_
    rintro e u' w'' ⟨rfl, rfl, rfl⟩
    refine ⟨_, read_results rfl rfl (hr2.far (p := ⟨w.heap.size + 1, 0, none⟩) (by simp) _) (he2.set_ 0 _), ?_⟩
    refine HG.out _ fp _ (g1.keep _ fun k hk => ?_) g2 (fun k hk => ?_) ((((hw3.trans (b1.mono (by omega))).setCell (p := ⟨w.heap.size, 0, none⟩) (Nat.le_refl _) _).setCell (p := ⟨w.heap.size + 1, 0, none⟩) (Nat.le_succ _) _).setCell (p := ⟨w.heap.size + 1, 0, none⟩) (Nat.le_succ _) _)
    · have := g3 k hk
      rw [Below.heap_setCell _ _ _ _ (by show k ≠ w.heap.size + 1; omega), Below.heap_setCell _ _ _ _ (by show k ≠ w.heap.size + 1; omega), Below.heap_setCell _ _ _ _ (by show k ≠ w.heap.size; omega)]
    · have := g3 k hk
      simp [World.setCell]
      omega
  · have HQ : Hid (∀ W e w', AllPost t W e w' → e = pan ∧ Below W.heap.size W w') := Lib.hid (fun W e w' h => by
      rw [AllPost] at h
      split at h
      · rename_i s h1; exact absurd ⟨s, h1⟩ hp
      · exact h)
    have HG : Hid (∀ w', Below w.heap.size w w' → ReadPost t w (.returned (.tuple #[.agg #[.slice none 0 0], .bool false])) w') := Lib.hid (fun w' h => by
      rw [ReadPost]
      split
      · rename_i s h1; exact absurd ⟨s, h1⟩ hp
      · exact ⟨rfl, h⟩)
    clear hp
    go_enter_defers Tryz.func183, Tryz.ntmps183
    go_wp2_with fail
    refine HS.out.mono ?_
    intro e w1 h1
    obtain ⟨rfl, b1⟩ := HQ.out _ _ _ h1
    simp only [World.size_alloc] at b1
    have hr1 := hr3.below b1 (by omega)
    have he1 := he3.below b1 (by omega)
    change Leaves Tryz.prog Tryz.f183 _ (ReadPost t w) _ (.panicking _) w1
    refine leaves_cons (f := 207) (args := #[.pointer (some ⟨w.heap.size + 1, 0, none⟩)]) (by simp) (by simp [go_sem]) ?_
    refine (catch_panicking ⟨w.heap.size + 1, 0, none⟩ _ _ _ [] _ (he1.cell 0) (he1.frozen 0)).mono ?_
    rintro e u' w'' ⟨rfl, rfl, rfl⟩
    exact ⟨_, read_results rfl rfl (hr1.far (p := ⟨w.heap.size + 1, 0, none⟩) (by simp) _) (he1.set_ 0 _),
      HG.out _ ((hw3.trans (b1.mono (by omega))).setCell (p := ⟨w.heap.size + 1, 0, none⟩) (Nat.le_succ _) _)⟩
end Go.Proofs.YtbbejhhohppdhaaGreatDoor

namespace Go.Proofs.YtbbejhhohppdhaaGreatDoor
open Go.RowKit

theorem strip_take (p t : List UInt8) : (strip p t).isSome = decide (t.take p.length = p) := by
  cases h : strip p t with
  | some r => rw [strip_eq h]; simp
  | none =>
    simp only [Option.isSome_none]
    symm
    rw [decide_eq_false_iff_not]
    intro he
    have h2 : t = p ++ t.drop p.length := by
      have := List.take_append_drop p.length t
      rw [he] at this
      exact this.symm
    rw [h2, strip_append] at h
    cases h
theorem strip_short {p t : List UInt8} (h : t.length < p.length) : strip p t = none := by
  cases h2 : strip p t with
  | none => rfl
  | some r => have := strip_len h2; omega

theorem begins_eq (t p : List UInt8) (a : Nat) : (((⟨t.toArray⟩ : ByteArray).extract a (a + p.length)).toList == p) = decide ((t.drop a).take p.length = p) := by
  rw [ByteArray.toList_eq]
  simp only [ByteArray.data_extract, List.extract_toArray, List.extract_eq_take_drop, Nat.add_sub_cancel_left]
  rw [Bool.eq_iff_iff, beq_iff_eq, decide_eq_true_iff]
set_option maxHeartbeats 400000 in
theorem begins_any (t p : List UInt8) (a : Nat) (w : World) (ha : a ≤ t.length) (ht : t.length ≤ 65536) (hp : p.length ≤ 10) :
    Calls Tryz.prog 119 #[.string ⟨t.toArray⟩, .int .i64 (a : Int), .string ⟨p.toArray⟩] w fun e w' => e = .returned (.bool (strip p (t.drop a)).isSome) ∧ w = w' := by
  by_cases h : p.length ≤ t.length - a
  · have HF := Lib.hid (strip_take p (t.drop a))
    go_enter Tryz.func119, Tryz.ntmps119
    go_wp2_with fail
    go_ret
    refine ⟨ret_bool ?_, rfl⟩
    rw [HF.out]
    exact begins_eq t p a
  · have hF := strip_short (p := p) (t := t.drop a) (by rw [List.length_drop]; omega)
    have HF : Hid (false = (strip p (t.drop a)).isSome) := Lib.hid (by rw [hF]; rfl)
    clear hF
    go_enter Tryz.func119, Tryz.ntmps119
    go_wp2_with fail
    go_ret
    exact ⟨ret_bool HF.out, rfl⟩

/-- What the reference's Parse leaves. -/
def ParsePost (t : List UInt8) (a : Nat) (w : World) (e : Ending) (w' : World) : Prop :=
  match parse [] (t.drop a) with
  | some (s, r) => ∃ v fp, ∃ nx : Nat, e = .returned (.tuple #[.agg #[v], .int .i64 (nx : Int), .bool true]) ∧ t.drop nx = r ∧ nx ≤ t.length ∧ s.Sep w' v fp ∧ fp.Nodup ∧ (∀ k ∈ fp, w.heap.size ≤ k ∧ k < w'.heap.size) ∧ Below w.heap.size w w'
  | none => ∃ A n c, ∃ i : Int, e = .returned (.tuple #[.agg #[.slice A n c], .int .i64 i, .bool false]) ∧ Below w.heap.size w w'
theorem ParsePost.none_ {t : List UInt8} {a : Nat} {w w' : World} {A : Option Addr} {n c : Nat} {i : Int} (h : parse [] (t.drop a) = none) (hb : Below w.heap.size w w') : ParsePost t a w (.returned (.tuple #[.agg #[.slice A n c], .int .i64 i, .bool false])) w' := by
  rw [ParsePost, h]; exact ⟨A, n, c, i, rfl, hb⟩
theorem ParsePost.some_ {t r : List UInt8} {a nx : Nat} {s : S} {w w' : World} {v : Value} {fp : List Nat} (h : parse [] (t.drop a) = some (s, r)) (h0 : t.drop nx = r) (h5 : nx ≤ t.length) (h1 : s.Sep w' v fp) (h2 : fp.Nodup) (h3 : ∀ k ∈ fp, w.heap.size ≤ k ∧ k < w'.heap.size)
    (hb : Below w.heap.size w w') : ParsePost t a w (.returned (.tuple #[.agg #[v], .int .i64 (nx : Int), .bool true])) w' := by
  rw [ParsePost, h]; exact ⟨v, fp, nx, rfl, h0, h5, h1, h2, h3, hb⟩

theorem parse_results {tmps : Array Value} {w : World} {a : Nat} {x y z : Value} (h2 : tmps.getD 4 undef = .pointer (some ⟨a, 0, none⟩)) (h3 : tmps.getD 5 undef = y) (h6 : tmps.getD 6 undef = z)
    (ha : Blk w a 62 #[x]) : (results Tryz.f75 tmps).run Tryz.prog w = .ok (.tuple #[.agg #[x], y, z]) w := by
  have h4 := ha.cell 0
  simp at h4
  have h2' : tmps[4]?.getD undef = .pointer (some ⟨a, 0, none⟩) := by simpa using h2
  have h3' : tmps[5]?.getD undef = y := by simpa using h3
  have h6' : tmps[6]?.getD undef = z := by simpa using h6
  simp [results, Tryz.results75, go_sem, h2', h3', h6', h4]

/-- The loop's relation: acc has been read, what is left begins at a'. -/
structure Going (t : List UInt8) (a : Nat) (w : World) (acc : List S) (a' : Nat) (cv : Value) (us : List Value) (fp : List Nat) (wr : World) : Prop where
  built : Built acc (w.heap.size + 1 + 1) (w.heap.size + 1) w.heap.size cv us fp wr
  same : parse [] (t.drop a) = parse acc (t.drop a')
  le : a' ≤ t.length
  len : acc.length ≤ a'
  ge : a ≤ a'
  bel : Below w.heap.size w wr
theorem Going.start {t : List UInt8} {a : Nat} (ha : a ≤ t.length) (w : World) : Going t a w [] a (.slice none 0 0) [] [] ((w.alloc (.cells #[.slice none 0 0] 62)).alloc (.cells #[.slice none 0 0] 62)) where
  built := ⟨⟨by simp, .inl ⟨rfl, rfl⟩⟩, by simp [S.SepL], by simp [Value.ownBlock], by simp, by simpa using Blk.new (w.alloc (.cells #[.slice none 0 0] 62)) 62 #[.slice none 0 0], (Blk.new _ _ _).alloc _, by omega, by omega, by omega, by simp⟩
  same := rfl
  le := ha
  len := by simp
  ge := Nat.le_refl _
  bel := ((Below.refl _ _).alloc (Nat.le_refl _) _).alloc (by simp) _
/-- What one more argument does to the relation. -/
theorem Going.next {t : List UInt8} {a : Nat} {w : World} {acc : List S} {a' a2 : Nat} {cv : Value} {us : List Value} {fp fp1 : List Nat} {wr w1 w2 : World} {x : S} {v1 v' : Value} {o1 : Obj}
    (h : Going t a w acc a' cv us fp wr) (hb : Below wr.heap.size wr w1) (hsep1 : x.Sep w1 v1 fp1) (hnod1 : fp1.Nodup) (hrng1 : ∀ k ∈ fp1, wr.heap.size ≤ k ∧ k < w1.heap.size)
    (hown2 : w2.ownsRow (w.heap.size + 1 + 1) 62 1 v' (acc.length + 1) (us ++ [v1])) (hgrow : (w1.alloc o1).grownBy w2 cv.ownBlock) (hat : v'.ownBlock = cv.ownBlock ∨ v'.ownBlock = some (w1.heap.size + 1))
    (hs : parse [] (t.drop a) = parse (acc ++ [x]) (t.drop a2)) (ha2 : a' < a2) (ha3 : a2 ≤ t.length) :
    Going t a w (acc ++ [x]) a2 v' (us ++ [v1]) (fp ++ fp1) (w2.setCell ⟨w.heap.size + 1, 0, none⟩ v') where
  built := h.built.next (fun k hk _ => hb.block k hk) hb.size hsep1 hnod1 hrng1 hown2 hgrow hat
  same := hs
  le := ha3
  len := by have := h.len; simp; omega
  ge := by have := h.ge; omega
  bel := by
    have hz := h.bel.size
    have hz1 := hb.size
    refine ((h.bel.trans (hb.mono hz)).trans ?_).setCell (p := ⟨w.heap.size + 1, 0, none⟩) (Nat.le_succ _) _
    exact ((Below.refl _ _).alloc (by omega) o1).grown hgrow (by simp; omega) (fun k hk => by have := h.built.own_lt k hk; omega)
theorem begins_at (t p : List UInt8) (i : Int) (a : Nat) (h : i = (a : Int)) (w : World) (ha : a ≤ t.length) (ht : t.length ≤ 65536) (hp : p.length ≤ 10) :
    Calls Tryz.prog 119 #[.string ⟨t.toArray⟩, .int .i64 i, .string ⟨p.toArray⟩] w fun e w' => e = .returned (.bool (strip p (t.drop a)).isSome) ∧ w = w' := by
  subst h; exact begins_any t p a w ha ht hp
theorem below_new' (w : World) (o : Obj) : Below w.heap.size w (w.alloc o) := (Below.refl _ _).alloc (Nat.le_refl _) _
theorem Built.below {acc : List S} {lo gc gr : Nat} {cv : Value} {us : List Value} {fp : List Nat} {w w' : World} (h : Built acc lo gc gr cv us fp w) (hb : Below w.heap.size w w') : Built acc lo gc gr cv us fp w' :=
  ⟨owns_kept h.own (fun x hx => hb.block x (h.own_lt x hx).2), h.sep.keep _ (fun x hx => hb.block x (h.rng x hx).2), h.nod,
    fun x hx => by have := h.rng x hx; have := hb.size; omega, h.blk.below hb h.blk.lt, h.res.below hb h.res.lt, h.gcl, h.grl, h.ne_, by have := hb.size; have := h.lol; omega⟩
theorem sep_empty {x : S} {w : World} {v : Value} {fp : List Nat} (hx : x.args = []) (h : x.Sep w v fp) : ∃ A c, v = .slice A 0 c := by
  obtain ⟨l⟩ := x
  have hl : l = [] := hx
  subst hl
  simp only [S.Sep] at h
  obtain ⟨us, rest, ho, _⟩ := h
  rcases ho.2 with ⟨rfl, _⟩ | ⟨g, cap, cur, rfl, _⟩
  · exact ⟨_, _, rfl⟩
  · exact ⟨_, _, rfl⟩
theorem sep_pos {x : S} {w : World} {A : Option Addr} {n c : Nat} {fp : List Nat} (hx : x.args ≠ []) (h : x.Sep w (.slice A n c) fp) : 0 < n := by
  obtain ⟨l⟩ := x
  simp only [S.Sep] at h
  obtain ⟨us, rest, ho, _⟩ := h
  have hl : 0 < l.length := List.length_pos_iff.2 hx
  rcases ho.2 with ⟨_, h0⟩ | ⟨g, cap, cur, hv, _⟩
  · omega
  · injection hv with _ h2 _; omega
theorem drop_strip {t p r : List UInt8} {a : Nat} (h : strip p (t.drop a) = some r) (ha : a ≤ t.length) : t.drop (a + p.length) = r ∧ a + p.length ≤ t.length := by
  have h1 := strip_eq h
  have h2 := strip_len h
  rw [List.length_drop] at h2
  refine ⟨?_, by omega⟩
  rw [← List.drop_drop, h1]
  simp

set_option maxHeartbeats 6400000 in
theorem refParse_any (K : Nat) : ∀ (t : List UInt8) (i : Int) (a : Nat) (w : World), i = (a : Int) → t.length - a < K → a ≤ t.length → t.length ≤ 65536 →
    Calls Tryz.prog 75 #[.string ⟨t.toArray⟩, .int .i64 i] w (ParsePost t a w) := by
  induction K with
  | zero => intro t i a w _ h; omega
  | succ K ih =>
    intro t i a w hia hK ha hL
    subst hia
    obtain ⟨i0, hi0, hz0, hz1, hz2⟩ := info_parts sort_info
    have HS := Lib.hid (Going.start ha w)
    have HB := Lib.hid (fun p i a h W ha hp => begins_at t p i a h W ha hL hp)
    have HIH := Lib.hid ih
    clear ih
    go_enter Tryz.func75, Tryz.ntmps75
    go_wp2_with fail
    go_loopw [1] (fun i wr => ∃ acc cv us fp, ∃ a' : Nat, i = .int .i64 (a' : Int) ∧ Going t a w acc a' cv us fp wr) (fun i _ => t.length - (intOf i).toNat)
    case atStart => exact ⟨_, _, _, _, a, rfl, HS.out⟩
    case round =>
      obtain ⟨acc, cv, us, fp, a', rfl, hg⟩ := hrel
      have hle := hg.le
      have hal := hg.len
      have hge := hg.ge
      have hpe := parse_eq acc (t.drop a')
      rw [← hg.same] at hpe
      have hszr := hg.bel.size
      have hbl := hg.built.blk.lt
      have hc1 := hg.built.blk.cell 0
      have hc0 := hg.built.res.cell 0
      have hf0 := hg.built.res.frozen 0
      have hown := hg.built.own
      obtain ⟨A3, n3, c3, hcv⟩ := own_form hown
      have H1 := Lib.hid (fun i h W => HB.out [111] i a' h W hle (by simp))
      cases h1 : strip [111] (t.drop a') with
      | some r =>
        obtain ⟨e1, e2⟩ := drop_strip h1 hle
        simp only [List.length_cons, List.length_nil] at e1 e2
        rw [h1] at H1
        have H2 := Lib.hid (fun i h W => HB.out arrow i (a' + 1) h W (by omega) (by decide))
        rw [e1] at H2
        cases h2 : strip arrow r with
        | some q =>
          rw [h2] at H2
          have h2' := h2
          rw [← e1] at h2'
          obtain ⟨e3, e4⟩ := drop_strip h2' (by omega)
          have har : arrow.length = 3 := rfl
          rw [har] at e3 e4
          have HN : Hid (parse [] (t.drop a) = parse (acc ++ [.mk []]) (t.drop (a' + 1 + 3))) := Lib.hid (by rw [hpe, h1]; simp only [h2]; rw [e3])
          have BT := Lib.hid hg.built
          have HG := Lib.hid hg
          clear hpe h1 h2 h2' e1 e3 har hg hcv
          go_wp2_with fail
          refine (H1.out _ rfl _).mono ?_
          rintro e w1 ⟨rfl, rfl⟩
          go_wp2_with fail
          refine (H2.out _ (by omega) _).mono ?_
          rintro e w1 ⟨rfl, rfl⟩
          go_wp2_with (at_builtin; refine wpList_append_own_at _ rfl (.tmp 23) (.tmp 25) 60 rfl (w.heap.size + 1 + 1) 62 i0 _ 1 24 Tryz.underlying60 hi0 hz0 hz1 hz2 rfl (by decide) cv acc.length us rfl (hown.alloc _) ⟨wr.heap.size, 0, none⟩ 1 1 [.slice none 0 0] rfl rfl ?c1 ?c2 ?c3 ?c4 ?c5 ?_)
          case c1 => exact World.news_of_block (cs := #[.slice none 0 0]) (t := 62) (fr := (0, 0)) (heap_alloc_new wr _)
          case c2 => intro u hu; rw [List.mem_singleton.1 hu]; rfl
          case c3 => simp only [maxLen]; omega
          case c4 => omega
          case c5 => simp; omega
          intro v' w4 hown4 hgrow _ hat
          obtain ⟨A5, n5, c5, rfl⟩ := own_form hown4
          have bt := BT.out
          have hgw2 := bt.blk.lt
          have hb4 : Blk w4 (w.heap.size + 1) 62 #[cv] := (hgrow.block _ (by simp; omega) (fun e => by have := bt.own_lt _ e.symm; omega)).trans (bt.blk.alloc _)
          have hc4 := hb4.cell 0
          have hf4 := hb4.frozen 0
          have HNX := Lib.hid (HG.out.next (w1 := wr) (x := .mk []) (v1 := .slice none 0 0) (fp1 := []) (Below.refl _ _) (sep_nil' _) (by simp) (by simp) hown4 hgrow hat HN.out (by omega) (by omega))
          clear hown4 hgrow hat
          go_wp2_with fail
          go_roundw
          case rel => exact ⟨_, _, _, _, a' + 1 + 3, by go_num, HNX.out⟩
          case measure => simp [intOf]; omega
        | none =>
          rw [h2] at H2
          have HN : Hid (parse [] (t.drop a) = some (.mk acc, r)) := Lib.hid (by rw [hpe, h1]; simp only [h2])
          have E1 := Lib.hid e1
          have HG := Lib.hid hg
          clear hpe h1 h2 e1 hg
          subst hcv
          go_wp2_with fail
          refine (H1.out _ rfl _).mono ?_
          rintro e w1 ⟨rfl, rfl⟩
          go_wp2_with fail
          refine (H2.out _ (by omega) _).mono ?_
          rintro e w1 ⟨rfl, rfl⟩
          go_wp2_with fail
          have bt := HG.out.built
          refine bodyPost_ret (parse_results (y := .int .i64 ((a' + 1 : Nat) : Int)) (z := .bool true) rfl (by show Value.int .i64 _ = _; congr 1) rfl (bt.res.set_ 0 _)) rfl ?_
          obtain ⟨d1, d2, d3⟩ := bt.done (.slice A3 n3 c3)
          exact ParsePost.some_ HN.out E1.out (by omega) d1 d2 (fun k hk => by have := d3 k hk; omega) (HG.out.bel.setCell (p := ⟨w.heap.size, 0, none⟩) (Nat.le_refl _) _)
      | none =>
        rw [h1] at H1
        have H3 := Lib.hid (fun i h W => HB.out [40] i a' h W hle (by simp))
        cases h3 : strip [40] (t.drop a') with
        | none =>
          rw [h3] at H3
          have HN : Hid (parse [] (t.drop a) = none) := Lib.hid (by rw [hpe, h1, h3])
          have HG := Lib.hid hg
          clear hpe h1 h3 hg
          subst hcv
          go_wp2_with fail
          refine (H1.out _ rfl _).mono ?_
          rintro e w1 ⟨rfl, rfl⟩
          go_wp2_with fail
          refine (H3.out _ rfl _).mono ?_
          rintro e w1 ⟨rfl, rfl⟩
          go_wp2_with fail
          refine bodyPost_ret (parse_results (y := .int .i64 (a' : Int)) (z := .bool false) rfl rfl rfl (HG.out.built.res.set_ 0 _)) rfl ?_
          exact ParsePost.none_ HN.out (HG.out.bel.setCell (p := ⟨w.heap.size, 0, none⟩) (Nat.le_refl _) _)
        | some r =>
          obtain ⟨e1, e2⟩ := drop_strip h3 hle
          simp only [List.length_cons, List.length_nil] at e1 e2
          rw [h3] at H3
          have HC := Lib.hid (fun i h W => HIH.out t i (a' + 1) W h (by omega) (by omega) hL)
          cases h4 : parse [] r with
          | none =>
            have HQ : Hid (∀ W e w', ParsePost t (a' + 1) W e w' → ∃ A n c, ∃ i : Int, e = .returned (.tuple #[.agg #[.slice A n c], .int .i64 i, .bool false]) ∧ Below W.heap.size W w') := Lib.hid (fun W e w' h => by rw [ParsePost, e1, h4] at h; exact h)
            have HN : Hid (parse [] (t.drop a) = none) := Lib.hid (by rw [hpe, h1, h3]; simp only [h4])
            have HG := Lib.hid hg
            clear hpe h1 h3 h4 e1 hg
            subst hcv
            go_wp2_with fail
            refine (H1.out _ rfl _).mono ?_
            rintro e w1 ⟨rfl, rfl⟩
            go_wp2_with fail
            refine (H3.out _ rfl _).mono ?_
            rintro e w1 ⟨rfl, rfl⟩
            go_wp2_with fail
            refine (HC.out _ (by omega) _).mono ?_
            intro e w1 hp1
            obtain ⟨A, n, c, ii, rfl, b1⟩ := HQ.out _ _ _ hp1
            have z1 := b1.size
            have bt2 := (HG.out.built.below b1).below (below_new' w1 (.cells #[.slice A n c] 62))
            have hc4 := bt2.blk.cell 0
            have hc5 := bt2.res.cell 0
            have hf5 := bt2.res.frozen 0
            have BT2 := Lib.hid bt2
            clear bt2
            go_wp2_with fail
            refine bodyPost_ret (parse_results (y := .int .i64 (a' : Int)) (z := .bool false) rfl rfl rfl (BT2.out.res.set_ 0 _)) rfl ?_
            exact ParsePost.none_ HN.out (((HG.out.bel.trans (b1.mono hszr)).alloc (by omega) _).setCell (p := ⟨w.heap.size, 0, none⟩) (Nat.le_refl _) _)
          | some y =>
            obtain ⟨x, r2⟩ := y
            have l4 := parse_le h4
            have HQ : Hid (∀ W e w', ParsePost t (a' + 1) W e w' → ∃ v fp, ∃ nx : Nat, e = .returned (.tuple #[.agg #[v], .int .i64 (nx : Int), .bool true]) ∧ t.drop nx = r2 ∧ nx ≤ t.length ∧ x.Sep w' v fp ∧ fp.Nodup ∧ (∀ k ∈ fp, W.heap.size ≤ k ∧ k < w'.heap.size) ∧ Below W.heap.size W w') := Lib.hid (fun W e w' h => by rw [ParsePost, e1, h4] at h; exact h)
            have l5 := congrArg List.length e1
            rw [List.length_drop] at l5
            by_cases hx : x.args = []
            · have HN : Hid (parse [] (t.drop a) = none) := Lib.hid (by rw [hpe, h1, h3]; simp [h4, hx])
              have HX := Lib.hid hx
              have HG := Lib.hid hg
              clear hpe h1 h3 h4 e1 hg hx l5
              subst hcv
              go_wp2_with fail
              refine (H1.out _ rfl _).mono ?_
              rintro e w1 ⟨rfl, rfl⟩
              go_wp2_with fail
              refine (H3.out _ rfl _).mono ?_
              rintro e w1 ⟨rfl, rfl⟩
              go_wp2_with fail
              refine (HC.out _ (by omega) _).mono ?_
              intro e w1 hp1
              obtain ⟨v, f1, nx, rfl, q1, q2, g1, g2, g3, b1⟩ := HQ.out _ _ _ hp1
              obtain ⟨A, c, rfl⟩ := sep_empty HX.out g1
              have z1 := b1.size
              have bt2 := (HG.out.built.below b1).below (below_new' w1 (.cells #[.slice A 0 c] 62))
              have hc4 := bt2.blk.cell 0
              have hc5 := bt2.res.cell 0
              have hf5 := bt2.res.frozen 0
              have BT2 := Lib.hid bt2
              clear bt2 q1
              go_wp2_with fail
              refine bodyPost_ret (parse_results (y := .int .i64 (a' : Int)) (z := .bool false) rfl rfl rfl (BT2.out.res.set_ 0 _)) rfl ?_
              exact ParsePost.none_ HN.out (((HG.out.bel.trans (b1.mono hszr)).alloc (by omega) _).setCell (p := ⟨w.heap.size, 0, none⟩) (Nat.le_refl _) _)
            · have HX := Lib.hid hx
              cases h6 : strip (41 :: arrow) r2 with
              | none =>
                have HN : Hid (parse [] (t.drop a) = none) := Lib.hid (by rw [hpe, h1, h3]; simp [h4, hx, h6])
                have H6 := Lib.hid h6
                have HG := Lib.hid hg
                clear hpe h1 h3 h4 e1 hg hx h6 l5
                subst hcv
                go_wp2_with fail
                refine (H1.out _ rfl _).mono ?_
                rintro e w1 ⟨rfl, rfl⟩
                go_wp2_with fail
                refine (H3.out _ rfl _).mono ?_
                rintro e w1 ⟨rfl, rfl⟩
                go_wp2_with fail
                refine (HC.out _ (by omega) _).mono ?_
                intro e w1 hp1
                obtain ⟨v, f1, nx, rfl, q1, q2, g1, g2, g3, b1⟩ := HQ.out _ _ _ hp1
                obtain ⟨A, n, c, rfl⟩ := g1.form
                have hn0 := sep_pos HX.out g1
                have hnb : ((n : Int) == 0) = false := by rw [beq_eq_false_iff_ne]; omega
                have z1 := b1.size
                have bt2 := (HG.out.built.below b1).below (below_new' w1 (.cells #[.slice A n c] 62))
                have hc4 := bt2.blk.cell 0
                have hc5 := bt2.res.cell 0
                have hf5 := bt2.res.frozen 0
                have BT2 := Lib.hid bt2
                have hbg := HB.out (41 :: arrow) (nx : Int) nx rfl (w1.alloc (.cells #[.slice A n c] 62)) q2 (by decide)
                rw [q1, H6.out] at hbg
                have HBG := Lib.hid hbg
                clear bt2 q1 hbg
                go_wp2_with fail
                refine HBG.out.mono ?_
                rintro e w2 ⟨rfl, rfl⟩
                go_wp2_with fail
                refine bodyPost_ret (parse_results (y := .int .i64 (a' : Int)) (z := .bool false) rfl rfl rfl (BT2.out.res.set_ 0 _)) rfl ?_
                exact ParsePost.none_ HN.out (((HG.out.bel.trans (b1.mono hszr)).alloc (by omega) _).setCell (p := ⟨w.heap.size, 0, none⟩) (Nat.le_refl _) _)
              | some q =>
                have HN : Hid (parse [] (t.drop a) = parse (acc ++ [x]) q) := Lib.hid (by rw [hpe, h1, h3]; simp [h4, hx, h6])
                have H6 := Lib.hid h6
                have HG := Lib.hid hg
                have L5 := Lib.hid l5
                have hl5 : r.length + a' + 1 = t.length := by omega
                clear hpe h1 h3 h4 e1 hg hx h6 l5 hcv
                go_wp2_with fail
                refine (H1.out _ rfl _).mono ?_
                rintro e w1 ⟨rfl, rfl⟩
                go_wp2_with fail
                refine (H3.out _ rfl _).mono ?_
                rintro e w1 ⟨rfl, rfl⟩
                go_wp2_with fail
                refine (HC.out _ (by omega) _).mono ?_
                intro e w1 hp1
                obtain ⟨v, f1, nx, rfl, q1, q2, g1, g2, g3, b1⟩ := HQ.out _ _ _ hp1
                obtain ⟨A, n, c, rfl⟩ := g1.form
                have hn0 := sep_pos HX.out g1
                have hnb : ((n : Int) == 0) = false := by rw [beq_eq_false_iff_ne]; omega
                have z1 := b1.size
                have hwx := below_new' w1 (.cells #[.slice A n c] 62)
                have bt2 := (HG.out.built.below b1).below hwx
                have hc4 := bt2.blk.cell 0
                have hown := bt2.own
                have BT := Lib.hid bt2
                have hxc := (Blk.new w1 62 #[.slice A n c]).cell 0
                have hbg := HB.out (41 :: arrow) (nx : Int) nx rfl (w1.alloc (.cells #[.slice A n c] 62)) q2 (by decide)
                rw [q1, H6.out] at hbg
                have HBG := Lib.hid hbg
                have hq6 := H6.out
                rw [← q1] at hq6
                obtain ⟨e5, e6⟩ := drop_strip hq6 q2
                have har : (41 :: arrow : List UInt8).length = 4 := rfl
                rw [har] at e5 e6
                have hnx : r2.length + nx = t.length := by have := congrArg List.length q1; rw [List.length_drop] at this; omega
                have HE5 := Lib.hid e5
                have hlt6 : nx + 4 > a' := by omega
                have hacc : acc.length ≤ 65536 := by omega
                clear bt2 q1 hbg hq6 e5 har hnx hl5
                go_wp2_with fail
                refine HBG.out.mono ?_
                rintro e w2 ⟨rfl, rfl⟩
                generalize hW2 : w1.alloc (.cells #[.slice A n c] 62) = w2 at *
                have hb12 : Below wr.heap.size wr w2 := b1.trans (by rw [← hW2]; exact (Below.refl _ _).alloc (by omega) _)
                have g1' := g1.keep (w' := w2) _ (fun k hk => by rw [← hW2]; exact Below.heap_alloc _ _ _ (g3 k hk).2)
                have g3' : ∀ k ∈ f1, wr.heap.size ≤ k ∧ k < w2.heap.size := fun k hk => by have := g3 k hk; rw [← hW2]; simp; omega
                have hzz : w1.heap.size + 1 = w2.heap.size := by rw [← hW2]; simp
                clear hW2
                go_wp2_with (at_builtin; refine wpList_append_own_at _ rfl (.tmp 61) (.tmp 63) 60 rfl (w.heap.size + 1 + 1) 62 i0 _ 1 24 Tryz.underlying60 hi0 hz0 hz1 hz2 rfl (by decide) cv acc.length us rfl (hown.alloc _) ⟨w2.heap.size, 0, none⟩ 1 1 [.slice A n c] rfl rfl ?c1 ?c2 ?c3 ?c4 ?c5 ?_)
                case c1 => exact World.news_of_block (cs := #[.slice A n c]) (t := 62) (fr := (0, 0)) (heap_alloc_new w2 _)
                case c2 => intro u hu; rw [List.mem_singleton.1 hu]; rfl
                case c3 => simp only [maxLen]; omega
                case c4 => omega
                case c5 => simp; omega
                intro v' w4 hown4 hgrow _ hat
                obtain ⟨A5, n5, c5, rfl⟩ := own_form hown4
                have bt := BT.out
                have hgw2 := bt.blk.lt
                have hb4 : Blk w4 (w.heap.size + 1) 62 #[cv] := (hgrow.block _ (by simp; omega) (fun e => by have := bt.own_lt _ e.symm; omega)).trans (bt.blk.alloc _)
                have hc4 := hb4.cell 0
                have hf4 := hb4.frozen 0
                have HNX := Lib.hid (HG.out.next (w1 := w2) (x := x) (v1 := .slice A n c) (fp1 := f1) (a2 := nx + 4) hb12 g1' g2 g3' hown4 hgrow hat (by rw [HN.out, HE5.out]) (by omega) (by omega))
                clear hown4 hgrow hat
                go_wp2_with fail
                go_roundw
                case rel => exact ⟨_, _, _, _, nx + 4, by go_num, HNX.out⟩
                case measure => simp [intOf]; omega
end Go.Proofs.YtbbejhhohppdhaaGreatDoor

namespace Go.Proofs.YtbbejhhohppdhaaGreatDoor
open Go.RowKit

/-- The sort whose string a list of bytes is. -/
def whole (t : List UInt8) : Option S := match parse [] t with
  | some (s, []) => some s
  | _ => none
def getE (t : List UInt8) : Int := if 65536 < t.length then 3 else match whole t with
  | some s => errOf s.ok
  | none => 4
def getS (t : List UInt8) : S := if getE t = 0 then (whole t).getD (.mk []) else .mk []

/-- What Get leaves. -/
def Gets (t : List UInt8) (w : World) (e : Ending) (w' : World) : Prop :=
  ∃ v fp, e = .returned (.tuple #[.agg #[v], .int .i64 (getE t)]) ∧ (getS t).Sep w' v fp ∧ fp.Nodup ∧ (∀ b ∈ fp, w.heap.size ≤ b ∧ b < w'.heap.size) ∧ Below w.heap.size w w'
theorem Gets.no {t : List UInt8} {w w' : World} {i : Int} (h : getE t = i) (hi : i ≠ 0) (hb : Below w.heap.size w w') : Gets t w (.returned (.tuple #[.agg #[.slice none 0 0], .int .i64 i])) w' := by
  refine ⟨_, [], by rw [h], ?_, by simp, by simp, hb⟩
  rw [getS, if_neg (by rw [h]; exact hi)]
  exact sep_nil' _
theorem Gets.yes {t : List UInt8} {s : S} {w w' : World} {v : Value} {fp : List Nat} (hl : ¬ 65536 < t.length) (h : whole t = some s) (hok : s.ok = true) (h1 : s.Sep w' v fp) (h2 : fp.Nodup) (h3 : ∀ b ∈ fp, w.heap.size ≤ b ∧ b < w'.heap.size)
    (hb : Below w.heap.size w w') : Gets t w (.returned (.tuple #[.agg #[v], .int .i64 0])) w' := by
  have hE : getE t = 0 := by simp [getE, hl, h, hok, errOf]
  refine ⟨v, fp, by rw [hE], ?_, h2, h3, hb⟩
  rw [getS, if_pos hE, h]
  exact h1

theorem get_results {tmps : Array Value} {w : World} {a : Nat} {x y : Value} (h2 : tmps.getD 2 undef = .pointer (some ⟨a, 0, none⟩)) (h3 : tmps.getD 3 undef = y)
    (ha : Blk w a 62 #[x]) : (results Tryz.f112 tmps).run Tryz.prog w = .ok (.tuple #[.agg #[x], y]) w := by
  have h4 := ha.cell 0
  simp at h4
  have h2' : tmps[2]?.getD undef = .pointer (some ⟨a, 0, none⟩) := by simpa using h2
  have h3' : tmps[3]?.getD undef = y := by simpa using h3
  simp [results, Tryz.results112, go_sem, h2', h3', h4]
theorem scanGet_results {tmps : Array Value} {w : World} {a : Nat} {x y : Value} (h2 : tmps.getD 6 undef = .pointer (some ⟨a, 0, none⟩)) (h3 : tmps.getD 7 undef = y)
    (ha : Blk w a 62 #[x]) : (results Tryz.f152 tmps).run Tryz.prog w = .ok (.tuple #[.agg #[x], y]) w := by
  have h4 := ha.cell 0
  simp at h4
  have h2' : tmps[6]?.getD undef = .pointer (some ⟨a, 0, none⟩) := by simpa using h2
  have h3' : tmps[7]?.getD undef = y := by simpa using h3
  simp [results, Tryz.results152, go_sem, h2', h3', h4]
/-- The arguments of scan.Get. -/
def scanArgs (t : List UInt8) : Array Value := #[.string ⟨t.toArray⟩, .func (.func 153) #[] #[], .func (.func 127) #[] #[]]

set_option maxHeartbeats 1600000 in
theorem scanGet_any (t : List UInt8) (w : World) (hm : t.length ≤ 9223372036854775807) : Calls Tryz.prog 152 (scanArgs t) w (Gets t w) := by
  unfold scanArgs
  have hw0 : Below w.heap.size w ((w.alloc (.cells #[.slice none 0 0] 62)).alloc (.cells #[.slice none 0 0] 62)) := ((Below.refl _ _).alloc (Nat.le_refl _) _).alloc (by simp) _
  have hr0 : Blk ((w.alloc (.cells #[.slice none 0 0] 62)).alloc (.cells #[.slice none 0 0] 62)) w.heap.size 62 #[.slice none 0 0] := (Blk.new _ _ _).alloc _
  have hn0 : Blk ((w.alloc (.cells #[.slice none 0 0] 62)).alloc (.cells #[.slice none 0 0] 62)) (w.heap.size + 1) 62 #[.slice none 0 0] := by
    have := Blk.new (w.alloc (.cells #[.slice none 0 0] 62)) 62 #[.slice none 0 0]
    simpa using this
  by_cases hl : 65536 < t.length
  · have HE : Hid (getE t = 3) := Lib.hid (by simp [getE, hl])
    have c1 := hr0.cell 0
    have f1 := hr0.frozen 0
    have c2 := hn0.cell 0
    go_enter Tryz.func152, Tryz.ntmps152
    go_wp2_with fail
    refine bodyPost_ret (scanGet_results (y := .int .i64 3) rfl rfl hr0) rfl ?_
    exact Gets.no HE.out (by decide) hw0
  · have HR := Lib.hid (read_any t ((w.alloc (.cells #[.slice none 0 0] 62)).alloc (.cells #[.slice none 0 0] 62)) (by omega))
    by_cases hp : ∃ s, parse [] t = some (s, [])
    · obtain ⟨s, hp⟩ := hp
      have HQ : Hid (∀ W e w', ReadPost t W e w' → ∃ v fp, e = .returned (.tuple #[.agg #[v], .bool true]) ∧ s.Sep w' v fp ∧ fp.Nodup ∧ (∀ k ∈ fp, W.heap.size ≤ k ∧ k < w'.heap.size) ∧ Below W.heap.size W w') := Lib.hid (fun W e w' h => by rw [ReadPost, hp] at h; exact h)
      have hwh : whole t = some s := by simp [whole, hp]
      have HC := Lib.hid (fun v W lo hi => check_any s v W lo hi)
      cases hok : s.ok with
      | true =>
        have HW := Lib.hid hwh
        have HOK := Lib.hid hok
        have HL := Lib.hid hl
        rw [hok] at HC
        clear hp hok hwh
        go_enter Tryz.func152, Tryz.ntmps152
        go_wp2_with fail
        refine HR.out.mono ?_
        intro e w1 h1
        obtain ⟨v, fp, rfl, g1, g2, g3, b1⟩ := HQ.out _ _ _ h1
        obtain ⟨A, n, c, rfl⟩ := g1.form
        simp only [World.size_alloc] at b1 g3
        have r1 := (hr0.below b1 (by omega)).alloc (.cells #[.slice A n c] 62)
        have x1 := Blk.new w1 62 #[.slice A n c]
        have z1 := b1.size
        simp only [World.size_alloc] at z1
        have hwx := below_new' w1 (.cells #[.slice A n c] 62)
        have g4 := g1.keep (w' := w1.alloc (.cells #[.slice A n c] 62)) _ (fun k hk => Below.heap_alloc _ _ _ (g3 k hk).2)
        have i4 := g4.in_ (lo := 0) (hi := w1.heap.size) _ (fun k hk => ⟨Nat.zero_le _, (g3 k hk).2⟩)
        have HD := Lib.hid (HC.out _ _ _ _ i4 (by simp))
        rw [show errOf true = 0 from rfl] at HD
        have cx1 := x1.cell 0
        go_wp2_with fail
        refine HD.out.mono ?_
        rintro e w2 ⟨rfl, b2⟩
        have r2 := r1.below b2 (by simp; omega)
        have x2 := x1.below b2 (by simp)
        have c2 := x2.cell 0
        have c3 := r2.cell 0
        have f3 := r2.frozen 0
        have z2 := b2.size
        simp only [World.size_alloc] at b2 z2
        go_wp2_with fail
        refine bodyPost_ret (scanGet_results (y := .int .i64 0) rfl rfl (r2.set_ 0 _)) rfl ?_
        refine Gets.yes (fp := fp) HL.out HW.out HOK.out (g4.keep _ fun k hk => ?_) g2 (fun k hk => ?_) ((((hw0.trans (b1.mono (by omega))).trans (hwx.mono (by omega))).trans (b2.mono (by omega))).setCell (p := ⟨w.heap.size, 0, none⟩) (Nat.le_refl _) _)
        · have := g3 k hk
          rw [Below.heap_setCell _ _ _ _ (by show k ≠ w.heap.size; omega)]
          exact b2.block k (by omega)
        · have := g3 k hk
          simp [World.setCell]
          omega
      | false =>
        have HE : Hid (getE t = 6) := Lib.hid (by simp [getE, hl, hwh, hok, errOf])
        rw [hok] at HC
        clear hp hok hwh
        go_enter Tryz.func152, Tryz.ntmps152
        go_wp2_with fail
        refine HR.out.mono ?_
        intro e w1 h1
        obtain ⟨v, fp, rfl, g1, g2, g3, b1⟩ := HQ.out _ _ _ h1
        obtain ⟨A, n, c, rfl⟩ := g1.form
        simp only [World.size_alloc] at b1 g3
        have r1 := (hr0.below b1 (by omega)).alloc (.cells #[.slice A n c] 62)
        have n1 := (hn0.below b1 (by omega)).alloc (.cells #[.slice A n c] 62)
        have z1 := b1.size
        simp only [World.size_alloc] at z1
        have hwx := below_new' w1 (.cells #[.slice A n c] 62)
        have g4 := g1.keep (w' := w1.alloc (.cells #[.slice A n c] 62)) _ (fun k hk => Below.heap_alloc _ _ _ (g3 k hk).2)
        have i4 := g4.in_ (lo := 0) (hi := w1.heap.size) _ (fun k hk => ⟨Nat.zero_le _, (g3 k hk).2⟩)
        have HD := Lib.hid (HC.out _ _ _ _ i4 (by simp))
        rw [show errOf false = 6 from rfl] at HD
        have cx1 := (Blk.new w1 62 #[.slice A n c]).cell 0
        go_wp2_with fail
        refine HD.out.mono ?_
        rintro e w2 ⟨rfl, b2⟩
        have r2 := r1.below b2 (by simp; omega)
        have n2 := n1.below b2 (by simp; omega)
        have c3 := r2.cell 0
        have f3 := r2.frozen 0
        have c4 := n2.cell 0
        have z2 := b2.size
        simp only [World.size_alloc] at b2 z2
        go_wp2_with fail
        refine bodyPost_ret (scanGet_results (y := .int .i64 6) rfl rfl (r2.set_ 0 _)) rfl ?_
        exact Gets.no HE.out (by decide) ((((hw0.trans (b1.mono (by omega))).trans (hwx.mono (by omega))).trans (b2.mono (by omega))).setCell (p := ⟨w.heap.size, 0, none⟩) (Nat.le_refl _) _)
    · have HQ : Hid (∀ W e w', ReadPost t W e w' → e = .returned (.tuple #[.agg #[.slice none 0 0], .bool false]) ∧ Below W.heap.size W w') := Lib.hid (fun W e w' h => by
        rw [ReadPost] at h
        split at h
        · rename_i s h1; exact absurd ⟨s, h1⟩ hp
        · exact h)
      have HE : Hid (getE t = 4) := Lib.hid (by
        have hwh : whole t = none := by
          rw [whole]
          split
          · rename_i s h1; exact absurd ⟨s, h1⟩ hp
          · rfl
        simp [getE, hl, hwh])
      clear hp
      go_enter Tryz.func152, Tryz.ntmps152
      go_wp2_with fail
      refine HR.out.mono ?_
      intro e w1 h1
      obtain ⟨rfl, b1⟩ := HQ.out _ _ _ h1
      simp only [World.size_alloc] at b1
      have r1 := (hr0.below b1 (by omega)).alloc (.cells #[.slice none 0 0] 62)
      have n1 := (hn0.below b1 (by omega)).alloc (.cells #[.slice none 0 0] 62)
      have c1 := r1.cell 0
      have f1 := r1.frozen 0
      have c2 := n1.cell 0
      have z1 := b1.size
      simp only [World.size_alloc] at z1
      go_wp2_with fail
      refine bodyPost_ret (scanGet_results (x := .slice none 0 0) (y := .int .i64 4) rfl rfl (r1.set_ 0 _)) rfl ?_
      exact Gets.no HE.out (by decide) (((hw0.trans (b1.mono (by omega))).alloc (by omega) _).setCell (p := ⟨w.heap.size, 0, none⟩) (Nat.le_refl _) _)

theorem Gets.form {t : List UInt8} {w w' : World} {e : Ending} (h : Gets t w e w') : ∃ A n c fp, e = .returned (.tuple #[.agg #[.slice A n c], .int .i64 (getE t)]) ∧ (getS t).Sep w' (.slice A n c) fp ∧ fp.Nodup ∧ (∀ b ∈ fp, w.heap.size ≤ b ∧ b < w'.heap.size) ∧ Below w.heap.size w w' := by
  obtain ⟨v, fp, h1, h2, h3, h4, h5⟩ := h
  obtain ⟨A, n, c, rfl⟩ := h2.form
  exact ⟨A, n, c, fp, h1, h2, h3, h4, h5⟩

set_option maxHeartbeats 800000 in
theorem get_any (t : List UInt8) (w : World) (hm : t.length ≤ 9223372036854775807) : Calls Tryz.prog 112 #[.string ⟨t.toArray⟩] w (Gets t w) := by
  have hw0 := below_new' w (.cells #[.slice none 0 0] 62)
  have hr0 := Blk.new w 62 #[.slice none 0 0]
  have HG := Lib.hid (scanGet_any t (w.alloc (.cells #[.slice none 0 0] 62)) hm)
  have HF : Hid (∀ e w', Gets t (w.alloc (.cells #[.slice none 0 0] 62)) e w' → _) := Lib.hid (fun e w' h => h.form)
  unfold scanArgs at HG
  go_enter Tryz.func112, Tryz.ntmps112
  go_wp2_with fail
  refine HG.out.mono ?_
  intro e w1 h1
  obtain ⟨A, n, c, fp, rfl, g1, g2, g3, b1⟩ := HF.out _ _ h1
  simp only [World.size_alloc] at b1 g3
  have z1 := b1.size
  simp only [World.size_alloc] at z1
  have r1 := hr0.below b1 (by omega)
  have c1 := r1.cell 0
  have f1 := r1.frozen 0
  go_wp2_with fail
  refine bodyPost_ret (get_results rfl rfl (r1.set_ 0 _)) rfl ?_
  refine ⟨.slice A n c, fp, rfl, g1.keep _ (fun k hk => ?_), g2, (fun k hk => ?_), (hw0.trans (b1.mono (by omega))).setCell (p := ⟨w.heap.size, 0, none⟩) (Nat.le_refl _) _⟩
  · have := g3 k hk
    exact Below.heap_setCell _ _ _ _ (by show k ≠ w.heap.size; omega)
  · have := g3 k hk
    simp [World.setCell]
    omega
end Go.Proofs.YtbbejhhohppdhaaGreatDoor

namespace Go.Proofs.YtbbejhhohppdhaaGreatDoor

theorem parse_arg (acc : List S) (x : S) (u : List UInt8) (h : x.args.isEmpty = false → parse [] (x.text ++ (41 :: arrow ++ u)) = some (x, 41 :: arrow ++ u)) : parse acc (x.argText ++ (arrow ++ u)) = parse (acc ++ [x]) u := by
  by_cases hx : x.args.isEmpty
  · have hxe : x = .mk [] := by
      obtain ⟨l⟩ := x
      have : l = [] := by simpa [S.args] using hx
      rw [this]
    rw [parse_eq]
    have h1 : x.argText = [111] := by simp [S.argText, hx]
    rw [h1, strip_append]
    simp only
    rw [strip_append, hxe]
  · have hx' : x.args.isEmpty = false := by simpa using hx
    have h1 : x.argText ++ (arrow ++ u) = 40 :: (x.text ++ (41 :: arrow ++ u)) := by simp [S.argText, hx]
    rw [h1, parse_eq]
    have h2 : strip [111] (40 :: (x.text ++ (41 :: arrow ++ u))) = none := by simp [strip]
    have h3 : strip [40] (40 :: (x.text ++ (41 :: arrow ++ u))) = some (x.text ++ (41 :: arrow ++ u)) := by simp [strip]
    rw [h2, h3]
    simp only
    rw [h hx']
    simp only
    rw [if_neg hx, strip_append]
mutual
theorem parse_text : ∀ (s : S) (rest : List UInt8), strip arrow rest = none → parse [] (s.text ++ rest) = some (s, rest)
  | .mk l, rest, h => by
    have := parse_textL l [] rest h
    simpa [S.text] using this
theorem parse_textL : ∀ (l : List S) (acc : List S) (rest : List UInt8), strip arrow rest = none → parse acc (S.textL l ++ 111 :: rest) = some (.mk (acc ++ l), rest)
  | [], acc, rest, h => by
    simp only [S.textL, List.nil_append, List.append_nil]
    rw [parse_eq]
    have h1 : strip [111] (111 :: rest) = some rest := by simp [strip]
    rw [h1]
    simp only
    rw [h]
  | x :: r, acc, rest, h => by
    have hr := parse_textL r (acc ++ [x]) rest h
    have ha := parse_arg acc x (S.textL r ++ 111 :: rest) (fun _ => parse_text x _ (by simp [strip, arrow]))
    have he : S.textL (x :: r) ++ 111 :: rest = x.argText ++ (arrow ++ (S.textL r ++ 111 :: rest)) := by simp [S.textL, S.argText, arrow]
    rw [he, ha, hr]
    simp
end

theorem parse_back : ∀ (n : Nat) (acc : List S) (t r : List UInt8) (s : S), t.length < n → parse acc t = some (s, r) → ∃ l, s = .mk (acc ++ l) ∧ t = S.textL l ++ 111 :: r := by
  intro n
  induction n with
  | zero => intro acc t r s h; omega
  | succ n ih =>
    intro acc t r s hn h
    rw [parse_eq] at h
    cases h1 : strip [111] t with
    | some q =>
      have e1 := strip_eq h1
      have l1 := strip_len h1
      simp at l1
      rw [h1] at h
      simp only at h
      cases h2 : strip arrow q with
      | some q2 =>
        have e2 := strip_eq h2
        have l2 := strip_len h2
        rw [h2] at h
        simp only at h
        obtain ⟨l, rfl, rfl⟩ := ih _ _ _ _ (by omega) h
        refine ⟨.mk [] :: l, by simp, ?_⟩
        rw [e1, e2]
        simp [S.textL, S.args, arrow]
      | none =>
        rw [h2] at h
        simp only [Option.some.injEq, Prod.mk.injEq] at h
        obtain ⟨rfl, rfl⟩ := h
        exact ⟨[], by simp, by rw [e1]; simp [S.textL]⟩
    | none =>
      rw [h1] at h
      simp only at h
      cases h3 : strip [40] t with
      | none => rw [h3] at h; cases h
      | some q =>
        have e3 := strip_eq h3
        have l3 := strip_len h3
        simp at l3
        rw [h3] at h
        simp only at h
        cases h4 : parse [] q with
        | none => rw [h4] at h; cases h
        | some y =>
          obtain ⟨x, q2⟩ := y
          have l4 := parse_le h4
          rw [h4] at h
          simp only at h
          by_cases hx : x.args.isEmpty
          · rw [if_pos hx] at h; cases h
          · rw [if_neg hx] at h
            cases h5 : strip (41 :: arrow) q2 with
            | none => rw [h5] at h; cases h
            | some q3 =>
              have e5 := strip_eq h5
              have l5 := strip_len h5
              rw [h5] at h
              simp only at h
              obtain ⟨l, rfl, rfl⟩ := ih _ _ _ _ (by omega) h
              obtain ⟨lx, hlx, hq⟩ := ih _ _ _ _ (by omega) h4
              refine ⟨x :: l, by simp, ?_⟩
              have hxt : x.text = S.textL lx ++ [111] := by rw [hlx]; simp [S.text]
              rw [e3, hq, e5]
              simp [S.textL, hx, hxt, arrow]
end Go.Proofs.YtbbejhhohppdhaaGreatDoor
