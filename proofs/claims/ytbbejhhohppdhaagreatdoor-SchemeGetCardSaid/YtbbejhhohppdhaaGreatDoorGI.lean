/-
  scheme.readSymbol.
  scheme.reader.fun.
  Functions of schemes that a call has made, in memory of its own.
  What the reader of schemes has made: rows of symbols, of functions and of bodies, each in an array of its own.
  Reading the string of a scheme: plain functions on lists of bytes.
  The state of the reader of schemes between its statements.
  scheme.numbers at rows of symbols and of functions: the first of each name.
  scheme.reader.scheme.
-/
import Derived.Test.YtbbejhhohppdhaaGreatDoorGH
import Derived.Test.YtbbejhhohppdhaaGreatDoorGD
import Derived.Test.YtbbejhhohppdhaaGreatDoorGB
import Derived.Lib.IndexMore
import Derived.Test.YtbbejhhohppdhaaGreatDoorGA
import Derived.Test.YtbbejhhohppdhaaGreatDoorGC
import Derived.Laws.OwnMore
import Derived.Test.YtbbejhhohppdhaaGreatDoorBackSy
import Derived.Test.YtbbejhhohppdhaaGreatDoorBackFn
import Derived.Test.YtbbejhhohppdhaaGreatDoorGM
namespace Go.Proofs.YtbbejhhohppdhaaGreatDoor
open Go.RowKit Go.Shelf

/-- A step of a reader: what it read (or a panic), and only the text's cell has changed. -/
def StepPost {α : Type} (p : Option (α × List UInt8)) (val : α → Value) (b : Nat) (w : World) (e : Ending) (w' : World) : Prop :=
  (p = none ∧ e = pan ∧ Saves (fun k => k = b) w w') ∨ (∃ x r, p = some (x, r) ∧ e = .returned (val x) ∧ Blk w' b 161 #[.string ⟨r.toArray⟩] ∧ Saves (fun k => k = b) w w')

theorem name_or (t : List UInt8) (b : Nat) (w : World) (hb : Blk w b 161 #[.string ⟨t.toArray⟩]) (hL : t.length ≤ 65536) :
    Calls Tryz.prog 109 #[.pointer (some ⟨b, 0, none⟩)] w (StepPost (nameP t) (fun s => .string ⟨s.toArray⟩) b w) := by
  cases h : nameP t with
  | none => exact (name_no h b w hb hL).mono fun e w' h1 => .inl ⟨rfl, h1⟩
  | some y => obtain ⟨s, r⟩ := y; exact (name_yes h b w hb hL).mono fun e w' h1 => .inr ⟨s, r, rfl, h1⟩
theorem word_or (p t : List UInt8) (b : Nat) (w : World) (hb : Blk w b 161 #[.string ⟨t.toArray⟩]) :
    Calls Tryz.prog 110 #[.pointer (some ⟨b, 0, none⟩), .string ⟨p.toArray⟩] w (StepPost ((strip p t).map (fun r => ((), r))) (fun _ => .tuple #[]) b w) := by
  cases h : strip p t with
  | none => exact (word_no h b w hb).mono fun e w' h1 => .inl ⟨rfl, h1⟩
  | some r => exact (word_yes h b w hb).mono fun e w' h1 => .inr ⟨(), r, rfl, h1⟩
theorem num_or (t : List UInt8) (b : Nat) (w : World) (hg : GV w) (hb8 : 8 ≤ b) (hb : Blk w b 161 #[.string ⟨t.toArray⟩]) (hL : t.length ≤ 65536) :
    Calls Tryz.prog 111 #[.pointer (some ⟨b, 0, none⟩)] w (StepPost (numP t) (fun n => .int .i64 (n : Int)) b w) := by
  refine (number_any t b w hg hb8 hb hL).mono fun e w' h1 => ?_
  cases h : numP t with
  | none => rw [h] at h1; exact .inl ⟨rfl, h1⟩
  | some y => obtain ⟨n, r⟩ := y; rw [h] at h1; exact .inr ⟨n, r, rfl, h1⟩
theorem until_or (p t : List UInt8) (b : Nat) (w : World) (hg : GV w) (hb : Blk w b 161 #[.string ⟨t.toArray⟩]) (hL : t.length ≤ 65536) :
    Calls Tryz.prog 65 #[.pointer (some ⟨b, 0, none⟩), .string ⟨p.toArray⟩] w (StepPost (cutP p t) (fun s => .string ⟨s.toArray⟩) b w) := by
  refine (until_any p t b w hg hb hL).mono fun e w' h1 => ?_
  cases h : cutP p t with
  | none => rw [h] at h1; exact .inl ⟨rfl, h1⟩
  | some y => obtain ⟨n, r⟩ := y; rw [h] at h1; exact .inr ⟨n, r, rfl, h1⟩

/-- A symbol's line, behind its first word. -/
def symP (t : List UInt8) : Option (Sy × List UInt8) := match nameP t with
  | some (s, r) => (match strip [32] r with
    | some r2 => (match numP r2 with
      | some (n, r3) => (match strip [10] r3 with
        | some r4 => some (⟨⟨s.toArray⟩, (n : Int)⟩, r4)
        | none => none)
      | none => none)
    | none => none)
  | none => none
theorem symP_le {t r : List UInt8} {x : Sy} (h : symP t = some (x, r)) : r.length < t.length := by
  rw [symP] at h
  split at h
  · rename_i s q hn
    have l1 := (nameP_le hn).1
    split at h
    · rename_i q2 h2
      have l2 := strip_len h2
      split at h
      · rename_i n q3 h3
        have l3 := numP_le h3
        split at h
        · rename_i q4 h4
          have l4 := strip_len h4
          cases h
          simp at l2 l4; omega
        · cases h
      · cases h
    · cases h
  · cases h
theorem symP_name {t r : List UInt8} {x : Sy} (h : symP t = some (x, r)) : x.name.size ≤ maxLen := by
  rw [symP] at h
  split at h
  · rename_i s q hn
    have l1 := (nameP_le hn).2
    split at h
    · split at h
      · split at h
        · cases h; simp [ByteArray.size, maxLen]; omega
        · cases h
      · cases h
    · cases h
  · cases h
/-- A symbol's value. -/
def Sy.val (x : Sy) : Value := .agg #[.string x.name, .int .i64 x.rank]

theorem symRd_results {tmps : Array Value} {w : World} {a : Nat} {x y : Value} (h2 : tmps.getD 2 undef = .pointer (some ⟨a, 0, none⟩))
    (ha : Blk w a 98 #[x, y]) : (results Tryz.f63 tmps).run Tryz.prog w = .ok (.agg #[x, y]) w := by
  have h0 := ha.cell 0
  have h1 := ha.cell 1
  simp at h0 h1
  have h2' : tmps[2]?.getD undef = .pointer (some ⟨a, 0, none⟩) := by simpa using h2
  simp [results, Tryz.results63, go_sem, h2', h0, h1]

set_option maxRecDepth 100000 in
set_option maxHeartbeats 1600000 in
theorem symRd_any (t : List UInt8) (b : Nat) (w : World) (hg : GV w) (hb8 : 8 ≤ b) (hb : Blk w b 161 #[.string ⟨t.toArray⟩]) (hL : t.length ≤ 65536) :
    Calls Tryz.prog 63 #[.pointer (some ⟨b, 0, none⟩)] w (StepPost (symP t) Sy.val b w) := by
  have hbw := hb.lt
  have s0 : Saves (fun k => k = b) w (w.alloc (.cells #[.string ⟨#[]⟩, .int .i64 0] 98)) := (Saves.refl _ _).alloc _
  have b0 : Blk (w.alloc (.cells #[.string ⟨#[]⟩, .int .i64 0] 98)) b 161 #[.string ⟨t.toArray⟩] := hb.alloc _
  have r0 := Blk.new w 98 #[.string ⟨#[]⟩, .int .i64 0]
  have hgr : ¬ w.heap.size = b := by omega
  have hz0 : (w.alloc (.cells #[.string ⟨#[]⟩, .int .i64 0] 98)).heap.size = w.heap.size + 1 := by simp
  have H1 := Lib.hid (name_or t b _ b0 hL)
  have H2 := Lib.hid (fun r W h => word_or [32] r b W h)
  have H3 := Lib.hid (fun r W hgW h hl => num_or r b W hgW hb8 h hl)
  have H4 := Lib.hid (fun r W h => word_or [10] r b W h)
  have HG := Lib.hid (fun W (hs : Saves (fun k => k = b) w W) => hg.saves hs (by omega) (fun k hk e => by omega))
  go_enter Tryz.func63, Tryz.ntmps63
  go_wp2_with fail
  refine H1.out.mono ?_
  rintro e w1 (⟨hn, rfl, s1⟩ | ⟨s, r1, hn, rfl, b1, s1⟩)
  · exact ⟨rfl, .inl ⟨by rw [symP, hn], rfl, s0.trans s1⟩⟩
  have l1 := (nameP_le hn).1
  have HN := Lib.hid hn
  clear hn
  have hz1 := s1.size
  have b1' := b1.alloc (.cells #[.string ⟨s.toArray⟩, .int .i64 0] 98)
  have x1 := Blk.new w1 98 #[.string ⟨s.toArray⟩, .int .i64 0]
  have r1' := (r0.saves s1 hgr).alloc (.cells #[.string ⟨s.toArray⟩, .int .i64 0] 98)
  have s1' := (s0.trans s1).alloc (.cells #[.string ⟨s.toArray⟩, .int .i64 0] 98)
  go_wp2_with fail
  refine (H2.out r1 _ b1').mono ?_
  rintro e w2 (⟨h2, rfl, s2⟩ | ⟨_, r2, h2, rfl, b2, s2⟩)
  · refine ⟨rfl, .inl ⟨?_, rfl, s1'.trans s2⟩⟩
    rw [symP, HN.out]
    have h2' : strip [32] r1 = none := by simpa using h2
    simp [h2']
  have h2' : strip [32] r1 = some r2 := by simpa using h2
  have l2 := strip_len h2'
  simp at l2
  have HW := Lib.hid h2'
  clear h2 h2'
  have x2 := x1.saves s2 (by omega)
  have r2' := r1'.saves s2 hgr
  have s2' := s1'.trans s2
  go_wp2_with fail
  refine (H3.out r2 _ (HG.out _ s2') b2 (by omega)).mono ?_
  rintro e w3 (⟨h3, rfl, s3⟩ | ⟨n, r3, h3, rfl, b3, s3⟩)
  · refine ⟨rfl, .inl ⟨?_, rfl, s2'.trans s3⟩⟩
    rw [symP, HN.out]
    simp [HW.out, h3]
  have l3 := numP_le h3
  have HM := Lib.hid h3
  clear h3
  have x3 := x2.saves s3 (by omega)
  have r3' := r2'.saves s3 hgr
  have s3' := (s2'.trans s3).setCell (p := ⟨w1.heap.size, 1, none⟩) (.inr (by show w.heap.size ≤ w1.heap.size; omega)) (.int .i64 (n : Int))
  have x3' := x3.set_ 1 (.int .i64 (n : Int))
  have b3' := b3.far (p := ⟨w1.heap.size, 1, none⟩) (by show b ≠ w1.heap.size; omega) (.int .i64 (n : Int))
  have r4' := r3'.far (p := ⟨w1.heap.size, 1, none⟩) (by show w.heap.size ≠ w1.heap.size; omega) (.int .i64 (n : Int))
  have d1 := x3.cell 1
  have e1 := x3.frozen 1
  simp at d1 x3'
  go_wp2_with fail
  refine (H4.out r3 _ b3').mono ?_
  rintro e w4 (⟨h4, rfl, s4⟩ | ⟨_, r4, h4, rfl, b4, s4⟩)
  · refine ⟨rfl, .inl ⟨?_, rfl, s3'.trans s4⟩⟩
    rw [symP, HN.out]
    have h4' : strip [10] r3 = none := by simpa using h4
    simp [HW.out, HM.out, h4']
  have h4' : strip [10] r3 = some r4 := by simpa using h4
  have HS : Hid (symP t = some (⟨⟨s.toArray⟩, (n : Int)⟩, r4)) := Lib.hid (by rw [symP, HN.out]; simp [HW.out, HM.out, h4'])
  clear h4 h4'
  have x4 := x3'.saves s4 (by omega)
  have r5' := r4'.saves s4 hgr
  have s4' := s3'.trans s4
  have u0 := x4.cell 0
  have u1 := x4.cell 1
  have v0 := r5'.cell 0
  have v1 := r5'.cell 1
  have f0 := r5'.frozen 0
  have f1 := r5'.frozen 1
  simp at u0 u1 v0 v1
  go_wp2_with fail
  refine bodyPost_ret (symRd_results rfl (((r5'.set_ 0 _).set_ 1 _).eq_ rfl)) rfl ?_
  exact .inr ⟨_, r4, HS.out, rfl, (b4.far (p := ⟨w.heap.size, 0, none⟩) (by show b ≠ w.heap.size; omega) _).far (p := ⟨w.heap.size, 1, none⟩) (by show b ≠ w.heap.size; omega) _,
    (s4'.setCell (p := ⟨w.heap.size, 0, none⟩) (.inr (Nat.le_refl _)) _).setCell (p := ⟨w.heap.size, 1, none⟩) (.inr (Nat.le_refl _)) _⟩
end Go.Proofs.YtbbejhhohppdhaaGreatDoor

namespace Go.Proofs.YtbbejhhohppdhaaGreatDoor
open Go.RowKit Go.Shelf

theorem cutP_le {p t s r : List UInt8} (h : cutP p t = some (s, r)) : s.length ≤ t.length ∧ r.length ≤ t.length := by
  rw [cutP] at h
  split at h
  · cases h
    unfold Lib.cut
    split
    · simp; omega
    · simp
  · cases h
/-- A function's line up to its body: its name, the string of its sort. -/
def funP (t : List UInt8) : Option ((List UInt8 × List UInt8) × List UInt8) := match nameP t with
  | some (s, r) => (match strip [32, 58, 32] r with
    | some r2 => (match cutP [32, 61, 32] r2 with
      | some (p, r3) => if getE p = 4 then none else some ((s, p), r3)
      | none => none)
    | none => none)
  | none => none
theorem funP_le {t s p r : List UInt8} (h : funP t = some ((s, p), r)) : r.length < t.length ∧ s.length ≤ 24 ∧ getE p ≠ 4 := by
  rw [funP] at h
  split at h
  · rename_i s q hn
    have l1 := nameP_le hn
    split at h
    · rename_i q2 h2
      have l2 := strip_len h2
      split at h
      · rename_i p q3 h3
        have l3 := cutP_le h3
        split at h
        · cases h
        · rename_i h4
          cases h
          refine ⟨?_, l1.2, h4⟩
          simp at l2; omega
      · cases h
    · cases h
  · cases h

/-- What fun leaves. -/
def FunPost (t : List UInt8) (b rb : Nat) (ws : Bool) (w : World) (e : Ending) (w' : World) : Prop :=
  (funP t = none ∧ e = pan ∧ Saves (fun k => k = b ∨ k = rb) w w') ∨
  (∃ s p r A n c fp, funP t = some ((s, p), r) ∧ e = .returned (.agg #[.string ⟨s.toArray⟩, .slice A n c, .int .i64 0, .int .i64 0, .slice none 0 0]) ∧ (getS p).Sep w' (.slice A n c) fp ∧ fp.Nodup ∧ (∀ k ∈ fp, w.heap.size ≤ k ∧ k < w'.heap.size) ∧
    Blk w' b 161 #[.string ⟨r.toArray⟩] ∧ Blk w' rb 54 #[.map none, .map none, .bool (ws || !decide (getE p = 0))] ∧ Saves (fun k => k = b ∨ k = rb) w w')

theorem funRd_results {tmps : Array Value} {w : World} {a : Nat} {x y z u v : Value} (h2 : tmps.getD 4 undef = .pointer (some ⟨a, 0, none⟩))
    (ha : Blk w a 64 #[x, y, z, u, v]) : (results Tryz.f64 tmps).run Tryz.prog w = .ok (.agg #[x, y, z, u, v]) w := by
  have h0 := ha.cell 0
  have h1 := ha.cell 1
  have h3 := ha.cell 2
  have h4 := ha.cell 3
  have h5 := ha.cell 4
  simp at h0 h1 h3 h4 h5
  have h2' : tmps[4]?.getD undef = .pointer (some ⟨a, 0, none⟩) := by simpa using h2
  simp [results, Tryz.results64, go_sem, h2', h0, h1, h3, h4, h5]

set_option maxRecDepth 100000 in
set_option maxHeartbeats 3200000 in
theorem funRd_any (t : List UInt8) (b rb : Nat) (ws : Bool) (w : World) (hg : GV w) (hb8 : 8 ≤ b) (hr8 : 8 ≤ rb) (hbr : b ≠ rb) (hb : Blk w b 161 #[.string ⟨t.toArray⟩]) (hr : Blk w rb 54 #[.map none, .map none, .bool ws]) (hL : t.length ≤ 65536) :
    Calls Tryz.prog 64 #[.pointer (some ⟨rb, 0, none⟩), .pointer (some ⟨b, 0, none⟩)] w (FunPost t b rb ws w) := by
  have hbw := hb.lt
  have hrw := hr.lt
  have mm : ∀ {W W' : World}, Saves (fun k => k = b) W W' → Saves (fun k => k = b ∨ k = rb) W W' := fun h => h.mono (fun _ _ e => .inl e)
  have s0 : Saves (fun k => k = b ∨ k = rb) w (w.alloc (.cells #[.string ⟨#[]⟩, .slice none 0 0, .int .i64 0, .int .i64 0, .slice none 0 0] 64)) := (Saves.refl _ _).alloc _
  have b0 : Blk (w.alloc (.cells #[.string ⟨#[]⟩, .slice none 0 0, .int .i64 0, .int .i64 0, .slice none 0 0] 64)) b 161 #[.string ⟨t.toArray⟩] := hb.alloc _
  have a0 : Blk (w.alloc (.cells #[.string ⟨#[]⟩, .slice none 0 0, .int .i64 0, .int .i64 0, .slice none 0 0] 64)) rb 54 #[.map none, .map none, .bool ws] := hr.alloc _
  have r0 := Blk.new w 64 #[.string ⟨#[]⟩, .slice none 0 0, .int .i64 0, .int .i64 0, .slice none 0 0]
  have hgr : ¬ w.heap.size = b := by omega
  have hz0 : (w.alloc (.cells #[.string ⟨#[]⟩, .slice none 0 0, .int .i64 0, .int .i64 0, .slice none 0 0] 64)).heap.size = w.heap.size + 1 := by simp
  have H1 := Lib.hid (name_or t b _ b0 hL)
  have H2 := Lib.hid (fun r W h => word_or [32, 58, 32] r b W h)
  have H3 := Lib.hid (fun r W hgW h hl => until_or [32, 61, 32] r b W hgW h hl)
  have H4 := Lib.hid (fun p W (h : p.length ≤ 65536) => get_any p W (by omega))
  have HG := Lib.hid (fun W (hs : Saves (fun k => k = b ∨ k = rb) w W) => hg.saves hs (by omega) (fun k hk e => by omega))
  go_enter Tryz.func64, Tryz.ntmps64
  go_wp2_with fail
  refine H1.out.mono ?_
  rintro e w1 (⟨hn, rfl, s1⟩ | ⟨s, r1, hn, rfl, b1, s1⟩)
  · exact ⟨rfl, .inl ⟨by rw [funP, hn], rfl, s0.trans (mm s1)⟩⟩
  have l1 := (nameP_le hn).1
  have HN := Lib.hid hn
  clear hn
  have hz1 := s1.size
  have a1 := (a0.saves s1 (by omega)).alloc (.cells #[.string ⟨s.toArray⟩, .slice none 0 0, .int .i64 0, .int .i64 0, .slice none 0 0] 64)
  have b1' := b1.alloc (.cells #[.string ⟨s.toArray⟩, .slice none 0 0, .int .i64 0, .int .i64 0, .slice none 0 0] 64)
  have x1 := Blk.new w1 64 #[.string ⟨s.toArray⟩, .slice none 0 0, .int .i64 0, .int .i64 0, .slice none 0 0]
  have r1' := (r0.saves s1 hgr).alloc (.cells #[.string ⟨s.toArray⟩, .slice none 0 0, .int .i64 0, .int .i64 0, .slice none 0 0] 64)
  have s1' := (s0.trans (mm s1)).alloc (.cells #[.string ⟨s.toArray⟩, .slice none 0 0, .int .i64 0, .int .i64 0, .slice none 0 0] 64)
  go_wp2_with fail
  refine (H2.out r1 _ b1').mono ?_
  rintro e w2 (⟨h2, rfl, s2⟩ | ⟨_, r2, h2, rfl, b2, s2⟩)
  · refine ⟨rfl, .inl ⟨?_, rfl, s1'.trans (mm s2)⟩⟩
    rw [funP, HN.out]
    have h2' : strip [32, 58, 32] r1 = none := by simpa using h2
    simp [h2']
  have h2' : strip [32, 58, 32] r1 = some r2 := by simpa using h2
  have l2 := strip_len h2'
  simp at l2
  have HW := Lib.hid h2'
  clear h2 h2'
  have a2 := a1.saves s2 (by omega)
  have x2 := x1.saves s2 (by omega)
  have r2' := r1'.saves s2 hgr
  have s2' := s1'.trans (mm s2)
  go_wp2_with fail
  refine (H3.out r2 _ (HG.out _ s2') b2 (by omega)).mono ?_
  rintro e w3 (⟨h3, rfl, s3⟩ | ⟨p, r3, h3, rfl, b3, s3⟩)
  · refine ⟨rfl, .inl ⟨?_, rfl, s2'.trans (mm s3)⟩⟩
    rw [funP, HN.out]
    simp [HW.out, h3]
  have l3 := cutP_le h3
  have HM := Lib.hid h3
  clear h3
  have a3 := a2.saves s3 (by omega)
  have x3 := x2.saves s3 (by omega)
  have r3' := r2'.saves s3 hgr
  have s3' := s2'.trans (mm s3)
  have HE := Lib.hid (Eq.refl (getE p))
  go_wp2_with fail
  refine (H4.out p w3 (by omega)).mono ?_
  intro e w4 h4
  obtain ⟨A, n, c, fp, rfl, g1, g2, g3, g4⟩ := h4.form
  have hz3 := s3'.size
  have hz4 := g4.size
  have a4 := (a3.below g4 a3.lt).alloc (.cells #[.slice A n c] 62)
  have x4 := (x3.below g4 x3.lt).alloc (.cells #[.slice A n c] 62)
  have r4' := (r3'.below g4 r3'.lt).alloc (.cells #[.slice A n c] 62)
  have b4 := (b3.below g4 b3.lt).alloc (.cells #[.slice A n c] 62)
  have s4' := (s3'.trans (Saves.of_below g4)).alloc (.cells #[.slice A n c] 62)
  have y4 := Blk.new w4 62 #[.slice A n c]
  clear HE
  have hxl := (x3.below g4 x3.lt).lt
  have hx3l := x3.lt
  have hr3l := r3'.lt
  obtain ⟨E, hE⟩ : ∃ E, E = getE p := ⟨_, rfl⟩
  rw [← hE]
  have HEq := Lib.hid hE
  by_cases h4e : E = 4
  · subst h4e
    clear hE
    go_wp2_with fail
    refine (must_no b _).mono ?_
    rintro e w5 ⟨rfl, rfl⟩
    refine ⟨rfl, .inl ⟨?_, rfl, s4'⟩⟩
    rw [funP, HN.out]
    simp [HW.out, HM.out, ← HEq.out]
  · have HP : Hid (funP t = some ((s, p), r3)) := Lib.hid (by rw [funP, HN.out]; simp [HW.out, HM.out, ← hE, h4e])
    clear hE
    have hdE : (E != 4) = true := by simpa using h4e
    have TAIL : Hid (∀ (w5 : World) (vb : Bool), vb = (ws || !decide (E = 0)) → w5 = (w4.alloc (.cells #[.slice A n c] 62)).setCell ⟨rb, 2, none⟩ (.bool vb) →
        Blk w5 w4.heap.size 62 #[.slice A n c] ∧ Blk w5 w1.heap.size 64 #[.string ⟨s.toArray⟩, .slice none 0 0, .int .i64 0, .int .i64 0, .slice none 0 0] ∧
        Blk w5 w.heap.size 64 #[.string ⟨#[]⟩, .slice none 0 0, .int .i64 0, .int .i64 0, .slice none 0 0] ∧ Blk w5 b 161 #[.string ⟨r3.toArray⟩] ∧ Blk w5 rb 54 #[.map none, .map none, .bool (ws || !decide (E = 0))] ∧
        Saves (fun k => k = b ∨ k = rb) w w5 ∧ (getS p).Sep w5 (.slice A n c) fp) := Lib.hid (fun w5 vb ev e => by
      subst ev e
      have hrl := a4.lt
      refine ⟨y4.far (by show w4.heap.size ≠ rb; omega) _, x4.far (by show w1.heap.size ≠ rb; omega) _, r4'.far (by show w.heap.size ≠ rb; omega) _, b4.far hbr _, a4.set_ 2 _, s4'.setCell (p := ⟨rb, 2, none⟩) (.inl (.inr rfl)) _, ?_⟩
      refine g1.keep _ (fun k hk => ?_)
      have := g3 k hk
      rw [Below.heap_setCell _ _ _ _ (by show k ≠ rb; omega)]
      exact Below.heap_alloc _ _ _ this.2)
    have k2 := a4.cell 2
    have kf := a4.frozen 2
    simp at k2
    have hEE : E = getE p := HEq.out
    have FIN : Hid (∀ (w5 : World) (vb : Bool), vb = (ws || !decide (E = 0)) → w5 = (w4.alloc (.cells #[.slice A n c] 62)).setCell ⟨rb, 2, none⟩ (.bool vb) → ∀ w6, w6 = w5.setCell ⟨w1.heap.size, 1, none⟩ (.slice A n c) →
        Blk w6 w1.heap.size 64 #[.string ⟨s.toArray⟩, .slice A n c, .int .i64 0, .int .i64 0, .slice none 0 0] ∧ Blk w6 w.heap.size 64 #[.string ⟨#[]⟩, .slice none 0 0, .int .i64 0, .int .i64 0, .slice none 0 0] ∧
        (∀ w7, w7 = ((((w6.setCell ⟨w.heap.size, 0, none⟩ (.string ⟨s.toArray⟩)).setCell ⟨w.heap.size, 1, none⟩ (.slice A n c)).setCell ⟨w.heap.size, 2, none⟩ (.int .i64 0)).setCell ⟨w.heap.size, 3, none⟩ (.int .i64 0)).setCell ⟨w.heap.size, 4, none⟩ (.slice none 0 0) →
          Blk w7 w.heap.size 64 #[.string ⟨s.toArray⟩, .slice A n c, .int .i64 0, .int .i64 0, .slice none 0 0] ∧ FunPost t b rb ws w (.returned (.agg #[.string ⟨s.toArray⟩, .slice A n c, .int .i64 0, .int .i64 0, .slice none 0 0])) w7)) := Lib.hid (fun w5 vb ev e w6 e6 => by
      obtain ⟨t1, t2, t3, t4, t5, t6, t7⟩ := TAIL.out w5 vb ev e
      clear e
      subst e6
      have hrl := a4.lt
      have hxg : w.heap.size < w1.heap.size := by omega
      have u3 := t3.far (p := ⟨w1.heap.size, 1, none⟩) (by show w.heap.size ≠ w1.heap.size; omega) (.slice A n c)
      refine ⟨(t2.set_ 1 _).eq_ rfl, u3, ?_⟩
      intro w7 e7
      have u7 : Blk w7 w.heap.size 64 #[.string ⟨s.toArray⟩, .slice A n c, .int .i64 0, .int .i64 0, .slice none 0 0] := by
        subst e7
        exact (((((u3.set_ 0 _).set_ 1 _).set_ 2 _).set_ 3 _).set_ 4 _).eq_ rfl
      have hs7 : Saves (fun k => k = w1.heap.size ∨ k = w.heap.size) w5 w7 := by
        subst e7
        exact ((((((Saves.refl _ _).setCell (p := ⟨w1.heap.size, 1, none⟩) (.inl (.inl rfl)) _).setCell (p := ⟨w.heap.size, 0, none⟩) (.inl (.inr rfl)) _).setCell (p := ⟨w.heap.size, 1, none⟩) (.inl (.inr rfl)) _).setCell (p := ⟨w.heap.size, 2, none⟩) (.inl (.inr rfl)) _).setCell (p := ⟨w.heap.size, 3, none⟩) (.inl (.inr rfl)) _).setCell (p := ⟨w.heap.size, 4, none⟩) (.inl (.inr rfl)) _
      refine ⟨u7, .inr ⟨s, p, r3, A, n, c, fp, HP.out, rfl, ?_, g2, ?_, t4.saves hs7 (by omega), ?_, ?_⟩⟩
      · have hz5 := t1.lt
        refine t7.keep _ (fun k hk => hs7.block k ?_ ?_)
        · have := g3 k hk; omega
        · have := g3 k hk; omega
      · intro k hk
        have := g3 k hk
        have hz5 := t1.lt
        have := hs7.size
        omega
      · have := t5.saves hs7 (by omega)
        rw [← hEE, ← ev]
        rw [← ev] at this
        exact this
      · refine ⟨hs7.os.trans t6.os, hs7.tape.trans t6.tape, hs7.output.trans t6.output, Nat.le_trans t6.size hs7.size, fun k hk hne => ?_⟩
        exact (hs7.block k (Nat.lt_of_lt_of_le hk t6.size) (by omega)).trans (t6.block k hk hne))
    clear hEE
    cases ws with
    | true =>
      obtain ⟨t1, t2, t3, t4, t5, t6, t7⟩ := TAIL.out _ true (by simp) rfl
      have q0 := t1.cell 0
      have q1 := t2.frozen 1
      have q2 := t2.cell 1
      simp at q0 q2
      obtain ⟨v1, v2, v3⟩ := FIN.out _ true (by simp) rfl _ rfl
      have m0 := v1.cell 0
      have m1 := v1.cell 1
      have m2 := v1.cell 2
      have m3 := v1.cell 3
      have m4 := v1.cell 4
      have n0 := v2.cell 0
      have n1 := v2.cell 1
      have n2 := v2.cell 2
      have n3 := v2.cell 3
      have n4 := v2.cell 4
      have o0 := v2.frozen 0
      have o1 := v2.frozen 1
      have o2 := v2.frozen 2
      have o3 := v2.frozen 3
      have o4 := v2.frozen 4
      simp at m0 m1 m2 m3 m4 n0 n1 n2 n3 n4
      have V3 := Lib.hid (v3 _ rfl)
      clear t1 t2 t3 t4 t5 t6 t7 v1 v2 v3
      go_wp2_with fail
      refine (must_yes b _).mono ?_
      rintro e w5 ⟨rfl, rfl⟩
      go_wp2_with fail
      exact bodyPost_ret (funRd_results rfl V3.out.1) rfl V3.out.2
    | false =>
      by_cases h0 : E = 0
      · subst h0
        obtain ⟨t1, t2, t3, t4, t5, t6, t7⟩ := TAIL.out _ false (by simp) rfl
        have q0 := t1.cell 0
        have q1 := t2.frozen 1
        have q2 := t2.cell 1
        simp at q0 q2
        obtain ⟨v1, v2, v3⟩ := FIN.out _ false (by simp) rfl _ rfl
        have m0 := v1.cell 0
        have m1 := v1.cell 1
        have m2 := v1.cell 2
        have m3 := v1.cell 3
        have m4 := v1.cell 4
        have n0 := v2.cell 0
        have n1 := v2.cell 1
        have n2 := v2.cell 2
        have n3 := v2.cell 3
        have n4 := v2.cell 4
        have o0 := v2.frozen 0
        have o1 := v2.frozen 1
        have o2 := v2.frozen 2
        have o3 := v2.frozen 3
        have o4 := v2.frozen 4
        simp at m0 m1 m2 m3 m4 n0 n1 n2 n3 n4
        have V3 := Lib.hid (v3 _ rfl)
        clear t1 t2 t3 t4 t5 t6 t7 v1 v2 v3
        go_wp2_with fail
        refine (must_yes b _).mono ?_
        rintro e w5 ⟨rfl, rfl⟩
        go_wp2_with fail
        exact bodyPost_ret (funRd_results rfl V3.out.1) rfl V3.out.2
      · have hd0 : (E != 0) = true := by simpa using h0
        obtain ⟨t1, t2, t3, t4, t5, t6, t7⟩ := TAIL.out _ true (by simp [h0]) rfl
        have q0 := t1.cell 0
        have q1 := t2.frozen 1
        have q2 := t2.cell 1
        simp at q0 q2
        obtain ⟨v1, v2, v3⟩ := FIN.out _ true (by simp [h0]) rfl _ rfl
        have m0 := v1.cell 0
        have m1 := v1.cell 1
        have m2 := v1.cell 2
        have m3 := v1.cell 3
        have m4 := v1.cell 4
        have n0 := v2.cell 0
        have n1 := v2.cell 1
        have n2 := v2.cell 2
        have n3 := v2.cell 3
        have n4 := v2.cell 4
        have o0 := v2.frozen 0
        have o1 := v2.frozen 1
        have o2 := v2.frozen 2
        have o3 := v2.frozen 3
        have o4 := v2.frozen 4
        simp at m0 m1 m2 m3 m4 n0 n1 n2 n3 n4
        have V3 := Lib.hid (v3 _ rfl)
        clear t1 t2 t3 t4 t5 t6 t7 v1 v2 v3
        go_wp2_with fail
        refine (must_yes b _).mono ?_
        rintro e w5 ⟨rfl, rfl⟩
        go_wp2_with fail
        exact bodyPost_ret (funRd_results rfl V3.out.1) rfl V3.out.2
end Go.Proofs.YtbbejhhohppdhaaGreatDoor

namespace Go.Proofs.YtbbejhhohppdhaaGreatDoor
open Go.RowKit

theorem sep_len {w : World} {P : Nat → Prop} : ∀ (s : S) {u : Value} {fp : List Nat}, s.Sep w u fp → (∀ k ∈ fp, P k) → (∀ k, P k → k < w.heap.size) → s.In w 0 w.heap.size u :=
  fun _ _ _ h h1 h2 => h.in_ _ (fun k hk => ⟨Nat.zero_le _, h2 k (h1 k hk)⟩)
/-- The cells of functions that the reader has made; what they hold lies in blocks of P. -/
def FnMk (w : World) (P : Nat → Prop) : List Fn → List Value → Prop
  | [], us => us = []
  | f :: r, us => ∃ u v fp ut, us = .string f.name :: u :: .int .i64 f.body.kind :: .int .i64 f.body.num :: v :: ut ∧ f.sort.Sep w u fp ∧ fp.Nodup ∧ (∀ k ∈ fp, P k) ∧ f.body.NIn w P v ∧ f.name.size ≤ maxLen ∧ FnMk w P r ut
theorem FnMk.keep {w w' : World} {P : Nat → Prop} (hb : ∀ b, P b → w'.heap[b]? = w.heap[b]?) : ∀ (l : List Fn) {us : List Value}, FnMk w P l us → FnMk w' P l us
  | [], us, h => by simpa [FnMk] using h
  | f :: r, us, h => by
    simp only [FnMk] at h ⊢
    obtain ⟨u, v, fp, ut, h1, h2, h3, h4, h5, h6, h7⟩ := h
    exact ⟨u, v, fp, ut, h1, h2.keep _ (fun b hh => hb b (h4 b hh)), h3, h4, h5.keep hb _, h6, FnMk.keep hb r h7⟩
theorem FnMk.more {w : World} {P Q : Nat → Prop} (hb : ∀ b, P b → Q b) : ∀ (l : List Fn) {us : List Value}, FnMk w P l us → FnMk w Q l us
  | [], us, h => by simpa [FnMk] using h
  | f :: r, us, h => by
    simp only [FnMk] at h ⊢
    obtain ⟨u, v, fp, ut, h1, h2, h3, h4, h5, h6, h7⟩ := h
    exact ⟨u, v, fp, ut, h1, h2, h3, fun b hh => hb b (h4 b hh), h5.more hb _, h6, FnMk.more hb r h7⟩
theorem FnMk.row {w : World} {P : Nat → Prop} (hP : ∀ b, P b → b < w.heap.size) : ∀ (l : List Fn) {us : List Value}, FnMk w P l us → FnRow w w.heap.size l us
  | [], us, h => by simpa [FnMk, FnRow] using h
  | f :: r, us, h => by
    simp only [FnMk] at h
    obtain ⟨u, v, fp, ut, h1, h2, h3, h4, h5, h6, h7⟩ := h
    simp only [FnRow]
    exact ⟨u, v, ut, h1, sep_len _ h2 h4 hP, (T.NIn.in_ _ h5).more hP _, h6, FnMk.row hP r h7⟩
theorem FnMk.snoc {w : World} {P : Nat → Prop} {f : Fn} {u v : Value} {fp : List Nat} (hs : f.sort.Sep w u fp) (hn : fp.Nodup) (hp : ∀ k ∈ fp, P k) (ht : f.body.NIn w P v) (hl : f.name.size ≤ maxLen) : ∀ {l : List Fn} {us : List Value}, FnMk w P l us →
    FnMk w P (l ++ [f]) (us ++ [.string f.name, u, .int .i64 f.body.kind, .int .i64 f.body.num, v])
  | [], us, h => by
    simp only [FnMk] at h
    subst h
    simp only [List.nil_append, FnMk]
    exact ⟨u, v, fp, [], rfl, hs, hn, hp, ht, hl, rfl⟩
  | g :: r, us, h => by
    simp only [FnMk] at h
    obtain ⟨u', v', fp', ut, rfl, h2, h3, h4, h5, h6, h7⟩ := h
    simp only [List.cons_append, FnMk]
    exact ⟨u', v', fp', _, rfl, h2, h3, h4, h5, h6, h7.snoc hs hn hp ht hl⟩
/-- A function with another body. -/
def Fn.withBody (f : Fn) (x : T) : Fn := ⟨f.name, f.sort, x⟩
theorem FnMk.put {w : World} {P : Nat → Prop} {x : T} {v : Value} (ht : x.NIn w P v) : ∀ {l : List Fn} {us : List Value}, FnMk w P l us → ∀ {k : Nat} {f : Fn}, l[k]? = some f →
    FnMk w P (l.set k (f.withBody x)) (((us.set (k * 5 + 2) (.int .i64 x.kind)).set (k * 5 + 3) (.int .i64 x.num)).set (k * 5 + 4) v)
  | [], us, h, k, f, hx => by simp at hx
  | g :: r, us, h, k, f, hx => by
    simp only [FnMk] at h
    obtain ⟨u', v', fp', ut, rfl, h2, h3, h4, h5, h6, h7⟩ := h
    cases k with
    | zero =>
      simp at hx
      subst hx
      simp only [List.set_cons_zero, FnMk]
      exact ⟨u', v, fp', ut, rfl, h2, h3, h4, ht, h6, h7⟩
    | succ k =>
      simp at hx
      have := h7.put ht hx
      rw [show (k + 1) * 5 + 2 = k * 5 + 2 + 1 + 1 + 1 + 1 + 1 from by omega, show (k + 1) * 5 + 3 = k * 5 + 3 + 1 + 1 + 1 + 1 + 1 from by omega, show (k + 1) * 5 + 4 = k * 5 + 4 + 1 + 1 + 1 + 1 + 1 from by omega]
      simp only [List.set_cons_succ, FnMk]
      exact ⟨u', v', fp', _, rfl, h2, h3, h4, h5, h6, this⟩
end Go.Proofs.YtbbejhhohppdhaaGreatDoor

namespace Go.Proofs.YtbbejhhohppdhaaGreatDoor
open Go.RowKit Go.Shelf

/-- What has been made: the symbols sy in v0, the functions fs in v1, the bodies' strings bs in v2. -/
structure Rdg (B : Nat) (w : World) (sy : List Sy) (fs : List Fn) (bs : List (List UInt8)) (v0 v1 v2 : Value) (us : List Value) : Prop where
  osy : w.ownsRow B 98 2 v0 sy.length (syCells sy)
  ofn : w.ownsRow B 64 5 v1 fs.length us
  obs : w.ownsRow B 9 1 v2 bs.length (bs.map fun t => .string ⟨t.toArray⟩)
  row : FnMk w (fun b => B ≤ b ∧ b < w.heap.size ∧ v0.ownBlock ≠ some b ∧ v1.ownBlock ≠ some b ∧ v2.ownBlock ≠ some b) fs us
  d0 : ∀ b, v0.ownBlock = some b → v1.ownBlock ≠ some b ∧ v2.ownBlock ≠ some b
  d1 : ∀ b, v1.ownBlock = some b → v2.ownBlock ≠ some b
  nms : ∀ x ∈ sy, x.name.size ≤ maxLen
theorem Rdg.nil (B : Nat) (w : World) : Rdg B w [] [] [] (.slice none 0 0) (.slice none 0 0) (.slice none 0 0) [] :=
  ⟨⟨by simp [syCells], .inl ⟨rfl, rfl⟩⟩, ⟨by simp, .inl ⟨rfl, rfl⟩⟩, ⟨by simp, .inl ⟨rfl, rfl⟩⟩, by simp [FnMk], by simp [Value.ownBlock], by simp [Value.ownBlock], by simp⟩
theorem Rdg.keep {B : Nat} {w w' : World} {sy : List Sy} {fs : List Fn} {bs : List (List UInt8)} {v0 v1 v2 : Value} {us : List Value} (h : Rdg B w sy fs bs v0 v1 v2 us) (hz : w.heap.size ≤ w'.heap.size) (hk : ∀ b, B ≤ b → b < w.heap.size → w'.heap[b]? = w.heap[b]?) :
    Rdg B w' sy fs bs v0 v1 v2 us :=
  ⟨owns_kept3 h.osy (fun b hb => hk b (h.osy.lt b hb).1 (h.osy.lt b hb).2), owns_kept3 h.ofn (fun b hb => hk b (h.ofn.lt b hb).1 (h.ofn.lt b hb).2), owns_kept3 h.obs (fun b hb => hk b (h.obs.lt b hb).1 (h.obs.lt b hb).2),
    (h.row.keep (w' := w') (fun b hb => hk b hb.1 hb.2.1) fs).more (fun _ hb => ⟨hb.1, Nat.lt_of_lt_of_le hb.2.1 hz, hb.2.2⟩) fs, h.d0, h.d1, h.nms⟩
theorem Rdg.saves {B : Nat} {M : Nat → Prop} {w w' : World} {sy : List Sy} {fs : List Fn} {bs : List (List UInt8)} {v0 v1 v2 : Value} {us : List Value} (h : Rdg B w sy fs bs v0 v1 v2 us) (hs : Saves M w w') (hM : ∀ k, M k → k < B) : Rdg B w' sy fs bs v0 v1 v2 us :=
  h.keep hs.size (fun b hb hl => hs.block b hl (fun hm => by have := hM b hm; omega))
theorem Rdg.put {B : Nat} {w : World} {sy : List Sy} {fs : List Fn} {bs : List (List UInt8)} {v0 v1 v2 : Value} {us : List Value} (h : Rdg B w sy fs bs v0 v1 v2 us) {b o : Nat} (hp : b < B) (u : Value) : Rdg B (w.setCell ⟨b, o, none⟩ u) sy fs bs v0 v1 v2 us :=
  h.keep (by simp [World.setCell]) (fun k hk _ => Below.heap_setCell w ⟨b, o, none⟩ u k (by show k ≠ b; omega))

theorem syCells_snoc : ∀ (l : List Sy) (x : Sy), syCells (l ++ [x]) = syCells l ++ [.string x.name, .int .i64 x.rank]
  | [], x => rfl
  | y :: r, x => by simp [syCells, syCells_snoc r x]

/-- What an append leaves of all else. -/
structure Grew (w w2 : World) (v v' : Value) : Prop where
  size : w.heap.size ≤ w2.heap.size
  keep : ∀ k, k < w.heap.size → v.ownBlock ≠ some k → w2.heap[k]? = w.heap[k]?
  at_ : ∀ k, v'.ownBlock = some k → v.ownBlock = some k ∨ (w.heap.size ≤ k ∧ k < w2.heap.size)
  os : w2.os = w.os
  tape : w2.tape = w.tape
  output : w2.output = w.output
theorem Grew.of {w w2 : World} {v : Value} {o1 : Obj} {gg n cap : Nat} (hgrow : (w.alloc o1).grownBy w2 v.ownBlock) (hat : v.ownBlock = some gg ∨ gg = w.heap.size + 1) (hl : gg < w2.heap.size) : Grew w w2 v (.slice (some ⟨gg, 0, none⟩) n cap) := by
  have hz := hgrow.size
  simp only [World.size_alloc] at hz
  refine ⟨by omega, fun k hk hne => ?_, fun k hk => ?_, hgrow.os, hgrow.tape, hgrow.output⟩
  · rw [hgrow.block k (by simp; omega) (fun e => hne e.symm), Below.heap_alloc _ _ _ hk]
  · have e' : gg = k := by simpa [Value.ownBlock] using hk
    subst e'
    rcases hat with h | h
    · exact .inl h
    · exact .inr ⟨by omega, hl⟩
theorem Rdg.pushSy {B : Nat} {w w2 : World} {sy : List Sy} {fs : List Fn} {bs : List (List UInt8)} {v0 v1 v2 v0' : Value} {us : List Value} (h : Rdg B w sy fs bs v0 v1 v2 us) (x : Sy) (hx : x.name.size ≤ maxLen) (hg : Grew w w2 v0 v0')
    (ho : w2.ownsRow B 98 2 v0' (sy.length + 1) (syCells sy ++ [.string x.name, .int .i64 x.rank])) : Rdg B w2 (sy ++ [x]) fs bs v0' v1 v2 us := by
  have l1 := h.ofn.lt
  have l2 := h.obs.lt
  refine ⟨?_, owns_kept3 h.ofn (fun b hb => hg.keep b (l1 b hb).2 (fun e => (h.d0 b e).1 hb)), owns_kept3 h.obs (fun b hb => hg.keep b (l2 b hb).2 (fun e => (h.d0 b e).2 hb)), ?_, fun b hb => ?_, h.d1, ?_⟩
  · rw [syCells_snoc, List.length_append]; exact ho
  · refine (h.row.keep (w' := w2) (fun b hb => hg.keep b hb.2.1 hb.2.2.1) fs).more (fun b hb => ⟨hb.1, Nat.lt_of_lt_of_le hb.2.1 hg.size, fun e => ?_, hb.2.2.2⟩) fs
    rcases hg.at_ b e with e1 | e1
    · exact hb.2.2.1 e1
    · have := hb.2.1; omega
  · rcases hg.at_ b hb with e1 | e1
    · exact h.d0 b e1
    · exact ⟨fun e => by have := (l1 b e).2; omega, fun e => by have := (l2 b e).2; omega⟩
  · intro y hy
    rcases List.mem_append.1 hy with hy | hy
    · exact h.nms y hy
    · rw [List.mem_singleton.1 hy]; exact hx
theorem Rdg.pushFn {B : Nat} {w w2 : World} {sy : List Sy} {fs : List Fn} {bs : List (List UInt8)} {v0 v1 v2 v1' : Value} {us : List Value} (h : Rdg B w sy fs bs v0 v1 v2 us) (f : Fn) {u v : Value} {fp : List Nat} (hg : Grew w w2 v1 v1')
    (hs : f.sort.Sep w u fp) (hn : fp.Nodup) (hp : ∀ k ∈ fp, B ≤ k ∧ k < w.heap.size ∧ v0.ownBlock ≠ some k ∧ v1.ownBlock ≠ some k ∧ v2.ownBlock ≠ some k)
    (ht : f.body.NIn w (fun k => B ≤ k ∧ k < w.heap.size ∧ v0.ownBlock ≠ some k ∧ v1.ownBlock ≠ some k ∧ v2.ownBlock ≠ some k) v) (hl : f.name.size ≤ maxLen)
    (ho : w2.ownsRow B 64 5 v1' (fs.length + 1) (us ++ [.string f.name, u, .int .i64 f.body.kind, .int .i64 f.body.num, v])) : Rdg B w2 sy (fs ++ [f]) bs v0 v1' v2 (us ++ [.string f.name, u, .int .i64 f.body.kind, .int .i64 f.body.num, v]) := by
  have l0 := h.osy.lt
  have l2 := h.obs.lt
  have hQ : ∀ b, (B ≤ b ∧ b < w.heap.size ∧ v0.ownBlock ≠ some b ∧ v1.ownBlock ≠ some b ∧ v2.ownBlock ≠ some b) → (B ≤ b ∧ b < w2.heap.size ∧ v0.ownBlock ≠ some b ∧ v1'.ownBlock ≠ some b ∧ v2.ownBlock ≠ some b) := fun b hb =>
    ⟨hb.1, Nat.lt_of_lt_of_le hb.2.1 hg.size, hb.2.2.1, fun e => by
      rcases hg.at_ b e with e1 | e1
      · exact hb.2.2.2.1 e1
      · have := hb.2.1; omega, hb.2.2.2.2⟩
  refine ⟨owns_kept3 h.osy (fun b hb => hg.keep b (l0 b hb).2 (h.d0 b hb).1), by rw [List.length_append]; exact ho, owns_kept3 h.obs (fun b hb => hg.keep b (l2 b hb).2 (fun e => h.d1 b e hb)), ?_, fun b hb => ⟨fun e => ?_, (h.d0 b hb).2⟩, fun b hb => ?_, h.nms⟩
  · exact (((h.row.snoc hs hn hp ht hl).keep (w' := w2) (fun b hb => hg.keep b hb.2.1 hb.2.2.2.1) _).more hQ _)
  · rcases hg.at_ b e with e1 | e1
    · exact (h.d0 b hb).1 e1
    · have := (l0 b hb).2; omega
  · rcases hg.at_ b hb with e1 | e1
    · exact h.d1 b e1
    · exact fun e => by have := (l2 b e).2; omega
theorem Rdg.pushBs {B : Nat} {w w2 : World} {sy : List Sy} {fs : List Fn} {bs : List (List UInt8)} {v0 v1 v2 v2' : Value} {us : List Value} (h : Rdg B w sy fs bs v0 v1 v2 us) (t : List UInt8) (hg : Grew w w2 v2 v2')
    (ho : w2.ownsRow B 9 1 v2' (bs.length + 1) ((bs.map fun t => .string ⟨t.toArray⟩) ++ [.string ⟨t.toArray⟩])) : Rdg B w2 sy fs (bs ++ [t]) v0 v1 v2' us := by
  have l0 := h.osy.lt
  have l1 := h.ofn.lt
  refine ⟨owns_kept3 h.osy (fun b hb => hg.keep b (l0 b hb).2 (h.d0 b hb).2), owns_kept3 h.ofn (fun b hb => hg.keep b (l1 b hb).2 (h.d1 b hb)), by rw [List.length_append, List.map_append]; exact ho, ?_, fun b hb => ⟨(h.d0 b hb).1, fun e => ?_⟩, fun b hb e => ?_, h.nms⟩
  · refine (h.row.keep (w' := w2) (fun b hb => hg.keep b hb.2.1 hb.2.2.2.2) fs).more (fun b hb => ⟨hb.1, Nat.lt_of_lt_of_le hb.2.1 hg.size, hb.2.2.1, hb.2.2.2.1, fun e => ?_⟩) fs
    rcases hg.at_ b e with e1 | e1
    · exact hb.2.2.2.2 e1
    · have := hb.2.1; omega
  · rcases hg.at_ b e with e1 | e1
    · exact (h.d0 b hb).2 e1
    · have := (l0 b hb).2; omega
  · rcases hg.at_ b e with e1 | e1
    · exact h.d1 b hb e1
    · have := (l1 b hb).2; omega
/-- Its two slices are a scheme. -/
theorem Rdg.scheme {B : Nat} {w : World} {sy : List Sy} {fs : List Fn} {bs : List (List UInt8)} {v0 v1 v2 : Value} {us : List Value} (h : Rdg B w sy fs bs v0 v1 v2 us) : ScIn w w.heap.size ⟨sy, fs⟩ v0 v1 := by
  refine ⟨?_, ?_⟩
  · rcases h.osy.2 with ⟨rfl, h0⟩ | ⟨g, cap, cur, rfl, h1, h2, h3, h4, h5, h6⟩
    · have : sy = [] := List.eq_nil_of_length_eq_zero h0
      subst this
      exact ⟨none, 0, 0, rfl, rfl, Nat.le_refl _, by omega, .inl rfl, by simp⟩
    · exact ⟨_, _, _, rfl, rfl, h3, by simpa [maxLen] using h4, .inr ⟨_, rfl, (h.osy.lt g rfl).2, h.osy.cells (g := g) rfl⟩, h.nms⟩
  · have hr := h.row.row (fun b hb => hb.2.1) fs
    rcases h.ofn.2 with ⟨rfl, h0⟩ | ⟨g, cap, cur, rfl, h1, h2, h3, h4, h5, h6⟩
    · have : fs = [] := List.eq_nil_of_length_eq_zero h0
      subst this
      exact ⟨none, 0, 0, us, rfl, rfl, Nat.le_refl _, by omega, .inl (by simpa [FnRow] using hr), hr⟩
    · exact ⟨_, _, _, us, rfl, rfl, h3, by simpa [maxLen] using h4, .inr ⟨_, rfl, (h.ofn.lt g rfl).2, h.ofn.cells (g := g) rfl⟩, hr⟩
end Go.Proofs.YtbbejhhohppdhaaGreatDoor

namespace Go.Proofs.YtbbejhhohppdhaaGreatDoor
open Go.RowKit Go.Shelf

def symWord : List UInt8 := [115, 121, 109, 98, 111, 108, 32]
def funWord : List UInt8 := [102, 117, 110, 32]
/-- A reader that goes on while a word stands ahead; p: one line behind its word. -/
def linesF {α : Type} (word : List UInt8) (p : List UInt8 → Option (α × List UInt8)) : Nat → List α → List UInt8 → Option (List α × List UInt8)
  | 0, _, _ => none
  | n + 1, acc, t => match strip word t with
    | none => some (acc, t)
    | some r => (match p r with
      | some (x, q) => linesF word p n (acc ++ [x]) q
      | none => none)
theorem linesF_succ {α : Type} (word : List UInt8) (p : List UInt8 → Option (α × List UInt8)) (n : Nat) (acc : List α) (t : List UInt8) : linesF word p (n + 1) acc t = match strip word t with
    | none => some (acc, t)
    | some r => (match p r with
      | some (x, q) => linesF word p n (acc ++ [x]) q
      | none => none) := rfl
theorem linesF_stable {α : Type} {word : List UInt8} {p : List UInt8 → Option (α × List UInt8)} (hp : ∀ t x r, p t = some (x, r) → r.length < t.length) : ∀ (n m : Nat) (acc : List α) (t : List UInt8), t.length < n → t.length < m → linesF word p n acc t = linesF word p m acc t := by
  intro n
  induction n with
  | zero => intro m acc t h; omega
  | succ n ih =>
    intro m acc t hn hm
    cases m with
    | zero => omega
    | succ m =>
      rw [linesF_succ, linesF_succ]
      cases hs : strip word t with
      | none => rfl
      | some r =>
        have l1 := strip_len hs
        simp only
        cases hx : p r with
        | none => rfl
        | some y =>
          obtain ⟨x, q⟩ := y
          have l2 := hp _ _ _ hx
          exact ih m _ _ (by omega) (by omega)
def linesP {α : Type} (word : List UInt8) (p : List UInt8 → Option (α × List UInt8)) (acc : List α) (t : List UInt8) : Option (List α × List UInt8) := linesF word p (t.length + 1) acc t
theorem linesP_eq {α : Type} {word : List UInt8} {p : List UInt8 → Option (α × List UInt8)} (hp : ∀ t x r, p t = some (x, r) → r.length < t.length) (acc : List α) (t : List UInt8) : linesP word p acc t = match strip word t with
    | none => some (acc, t)
    | some r => (match p r with
      | some (x, q) => linesP word p (acc ++ [x]) q
      | none => none) := by
  rw [linesP, linesF_succ]
  cases hs : strip word t with
  | none => rfl
  | some r =>
    have l1 := strip_len hs
    simp only
    cases hx : p r with
    | none => rfl
    | some y =>
      obtain ⟨x, q⟩ := y
      have l2 := hp _ _ _ hx
      exact linesF_stable hp _ _ _ _ (by omega) (by omega)
/-- A function's line behind its word: its name, the strings of its sort and of its body. -/
def funLineP (t : List UInt8) : Option ((List UInt8 × List UInt8 × List UInt8) × List UInt8) := match funP t with
  | some ((s, p), r) => (match cutP [10] r with
    | some (bd, q) => some ((s, p, bd), q)
    | none => none)
  | none => none
theorem funLineP_le {t r : List UInt8} {x : List UInt8 × List UInt8 × List UInt8} (h : funLineP t = some (x, r)) : r.length < t.length := by
  rw [funLineP] at h
  split at h
  · rename_i s p q hn
    have l1 := funP_le hn
    split at h
    · rename_i bd q2 h2
      have l2 := cutP_le h2
      cases h
      omega
    · cases h
  · cases h
/-- Functions without bodies. -/
def bare (x : List UInt8 × List UInt8 × List UInt8) : Fn := ⟨⟨x.1.toArray⟩, getS x.2.1, .mk 0 0 []⟩
/-- The first functions with bodies. -/
def withB : List T → List Fn → List Fn
  | x :: ts, f :: r => f.withBody x :: withB ts r
  | [], r => r
  | _ :: _, [] => []
theorem withB_length : ∀ (ts : List T) (l : List Fn), (withB ts l).length = l.length
  | x :: ts, f :: r => by simp [withB, withB_length ts r]
  | [], r => rfl
  | _ :: _, [] => rfl
theorem withB_at : ∀ (ts : List T) (l : List Fn) (k : Nat), ts.length ≤ k → (withB ts l)[k]? = l[k]?
  | x :: ts, f :: r, 0, h => by simp at h
  | x :: ts, f :: r, k + 1, h => by simpa [withB] using withB_at ts r k (by simpa using h)
  | [], r, k, h => rfl
  | _ :: _, [], k, h => rfl
theorem withB_snoc : ∀ (ts : List T) (l : List Fn) (x : T) (f : Fn), l[ts.length]? = some f → withB (ts ++ [x]) l = (withB ts l).set ts.length (f.withBody x)
  | [], [], x, f, h => by simp at h
  | [], g :: r, x, f, h => by simp at h; subst h; cases r <;> simp [withB]
  | y :: ts, [], x, f, h => by simp at h
  | y :: ts, g :: r, x, f, h => by simpa [withB] using withB_snoc ts r x f (by simpa using h)
/-- The bodies, each by the reader of terms. -/
def bodiesP (f g : List UInt8 → Option Nat) (acc : List T) : List (List UInt8) → Option (List T)
  | [] => some acc
  | b :: r => match wholeT f g b with
    | some x => bodiesP f g (acc ++ [x]) r
    | none => none
/-- The number of the first that is k, from i on. -/
def firstAt (i : Nat) : List (List UInt8) → List UInt8 → Option Nat
  | [], _ => none
  | n :: r, k => if k = n then some i else firstAt (i + 1) r k
theorem firstAt_lt : ∀ {l : List (List UInt8)} {i : Nat} {k : List UInt8} {j : Nat}, firstAt i l k = some j → j < i + l.length
  | [], i, k, j, h => by simp [firstAt] at h
  | n :: r, i, k, j, h => by
    rw [firstAt] at h
    split at h
    · cases h; simp
    · have := firstAt_lt h
      simp; omega
/-- Whether a sort was read that is not valid. -/
def badOf (xs : List (List UInt8 × List UInt8 × List UInt8)) : Bool := xs.any fun x => !decide (getE x.2.1 = 0)
theorem badOf_snoc (xs : List (List UInt8 × List UInt8 × List UInt8)) (x : List UInt8 × List UInt8 × List UInt8) : badOf (xs ++ [x]) = (badOf xs || !decide (getE x.2.1 = 0)) := by simp [badOf]
/-- A scheme: its symbols, its functions, whether a sort was wrong; what is left of the text. -/
def schemeP (t : List UInt8) : Option ((List Sy × List Fn × Bool) × List UInt8) := match linesP symWord symP [] t with
  | some (sy, r) => (match linesP funWord funLineP [] r with
    | some (xs, r2) => (match bodiesP (firstAt 0 (sy.map nm)) (firstAt 0 (xs.map fun x => x.1)) [] (xs.map fun x => x.2.2) with
      | some ts => some ((sy, withB ts (xs.map bare), badOf xs), r2)
      | none => none)
    | none => none)
  | none => none
end Go.Proofs.YtbbejhhohppdhaaGreatDoor

namespace Go.Proofs.YtbbejhhohppdhaaGreatDoor
open Go.RowKit Go.Shelf

/-- What stands in memory: the text's rest, the reader, the scheme's box, what has been made. -/
structure SrM (b rb : Nat) (rc : Array Value) (w : World) (sy : List Sy) (fs : List Fn) (bs : List (List UInt8)) (t' : List UInt8) (v0 v1 v2 : Value) (us : List Value) (wr : World) : Prop where
  made : Rdg (w.heap.size + 2) wr sy fs bs v0 v1 v2 us
  box : Blk wr (w.heap.size + 1) 25 #[v0, v1]
  res : Blk wr w.heap.size 25 #[.slice none 0 0, .slice none 0 0]
  text : Blk wr b 161 #[.string ⟨t'.toArray⟩]
  rd : Blk wr rb 54 rc
  sav : Saves (fun k => k = b ∨ k = rb) w wr
  hb : b < w.heap.size
  hr : rb < w.heap.size
  hne : b ≠ rb
variable {b rb : Nat} {rc : Array Value} {w : World} {sy : List Sy} {fs : List Fn} {bs : List (List UInt8)} {t' : List UInt8} {v0 v1 v2 : Value} {us : List Value} {wr w1 w2 : World}
theorem SrM.step (h : SrM b rb rc w sy fs bs t' v0 v1 v2 us wr) {q : List UInt8} {rc' : Array Value} (hs : Saves (fun k => k = b ∨ k = rb) wr w1) (ht : Blk w1 b 161 #[.string ⟨q.toArray⟩]) (hr : Blk w1 rb 54 rc') :
    SrM b rb rc' w sy fs bs q v0 v1 v2 us w1 :=
  have h1 := h.hb
  have h2 := h.hr
  ⟨h.made.saves hs (fun k hk => by omega), h.box.saves hs (by omega), h.res.saves hs (by omega), ht, hr, h.sav.trans hs, h.hb, h.hr, h.hne⟩
theorem SrM.stepB (h : SrM b rb rc w sy fs bs t' v0 v1 v2 us wr) {q : List UInt8} (hs : Saves (fun k => k = b) wr w1) (ht : Blk w1 b 161 #[.string ⟨q.toArray⟩]) :
    SrM b rb rc w sy fs bs q v0 v1 v2 us w1 :=
  h.step (hs.mono (fun _ _ e => .inl e)) ht (h.rd.saves hs (fun e => h.hne e.symm))
theorem SrM.drew (h : SrM b rb rc w sy fs bs t' v0 v1 v2 us wr) : SrM b rb rc w sy fs bs t' v0 v1 v2 us wr.drew := h.step ((Saves.refl _ _).drew) h.text h.rd
theorem SrM.lt (h : SrM b rb rc w sy fs bs t' v0 v1 v2 us wr) : w.heap.size + 2 ≤ wr.heap.size := h.box.lt
theorem SrM.start (hb : Blk w b 161 #[.string ⟨t'.toArray⟩]) (hr : Blk w rb 54 rc) (hne : b ≠ rb) :
    SrM b rb rc w [] [] [] t' (.slice none 0 0) (.slice none 0 0) (.slice none 0 0) [] ((w.alloc (.cells #[.slice none 0 0, .slice none 0 0] 25)).alloc (.cells #[.slice none 0 0, .slice none 0 0] 25)) :=
  ⟨Rdg.nil _ _, by simpa using Blk.new (w.alloc (.cells #[.slice none 0 0, .slice none 0 0] 25)) 25 #[.slice none 0 0, .slice none 0 0], (Blk.new _ _ _).alloc _, (hb.alloc _).alloc _, (hr.alloc _).alloc _, ((Saves.refl _ _).alloc _).alloc _, hb.lt, hr.lt, hne⟩
/-- All but the row that an append made longer. -/
theorem SrM.rest (h : SrM b rb rc w sy fs bs t' v0 v1 v2 us w1) {v v' : Value} (hg : Grew w1 w2 v v') (hv : ∀ k, v.ownBlock = some k → w.heap.size + 2 ≤ k) :
    Blk w2 (w.heap.size + 1) 25 #[v0, v1] ∧ Blk w2 w.heap.size 25 #[.slice none 0 0, .slice none 0 0] ∧ Blk w2 b 161 #[.string ⟨t'.toArray⟩] ∧ Blk w2 rb 54 rc ∧ Saves (fun k => k = b ∨ k = rb) w w2 := by
  have h1 := h.hb
  have h2 := h.hr
  have hk : ∀ k, k < w.heap.size + 2 → w2.heap[k]? = w1.heap[k]? := fun k hk => hg.keep k (by have := h.lt; omega) (fun e => by have := hv k e; omega)
  refine ⟨(hk _ (by omega)).trans h.box, (hk _ (by omega)).trans h.res, (hk _ (by omega)).trans h.text, (hk _ (by omega)).trans h.rd, ?_⟩
  exact ⟨hg.os.trans h.sav.os, hg.tape.trans h.sav.tape, hg.output.trans h.sav.output, Nat.le_trans h.sav.size hg.size, fun k hl hne => (hk k (by omega)).trans (h.sav.block k hl hne)⟩
theorem SrM.pushSy (h : SrM b rb rc w sy fs bs t' v0 v1 v2 us w1) (x : Sy) (hx : x.name.size ≤ maxLen) {v0' : Value} (hg : Grew w1 w2 v0 v0')
    (ho : w2.ownsRow (w.heap.size + 2) 98 2 v0' (sy.length + 1) (syCells sy ++ [.string x.name, .int .i64 x.rank])) :
    SrM b rb rc w (sy ++ [x]) fs bs t' v0' v1 v2 us (w2.setCell ⟨w.heap.size + 1, 0, none⟩ v0') := by
  obtain ⟨r1, r2, r3, r4, r5⟩ := h.rest hg (fun k e => (h.made.osy.lt k e).1)
  have h1 := h.hb
  have h2 := h.hr
  exact ⟨(h.made.pushSy x hx hg ho).put (by omega) _, (r1.set_ 0 _).eq_ rfl, r2.far (by show w.heap.size ≠ w.heap.size + 1; omega) _, r3.far (by show b ≠ w.heap.size + 1; omega) _, r4.far (by show rb ≠ w.heap.size + 1; omega) _, r5.setCell (p := ⟨w.heap.size + 1, 0, none⟩) (.inr (Nat.le_succ _)) _, h1, h2, h.hne⟩
theorem SrM.pushFn (h : SrM b rb rc w sy fs bs t' v0 v1 v2 us w1) (f : Fn) {u v : Value} {fp : List Nat} {v1' : Value} (hg : Grew w1 w2 v1 v1')
    (hs : f.sort.Sep w1 u fp) (hn : fp.Nodup) (hp : ∀ k ∈ fp, w.heap.size + 2 ≤ k ∧ k < w1.heap.size ∧ v0.ownBlock ≠ some k ∧ v1.ownBlock ≠ some k ∧ v2.ownBlock ≠ some k)
    (ht : f.body.NIn w1 (fun k => w.heap.size + 2 ≤ k ∧ k < w1.heap.size ∧ v0.ownBlock ≠ some k ∧ v1.ownBlock ≠ some k ∧ v2.ownBlock ≠ some k) v) (hl : f.name.size ≤ maxLen)
    (ho : w2.ownsRow (w.heap.size + 2) 64 5 v1' (fs.length + 1) (us ++ [.string f.name, u, .int .i64 f.body.kind, .int .i64 f.body.num, v])) :
    SrM b rb rc w sy (fs ++ [f]) bs t' v0 v1' v2 (us ++ [.string f.name, u, .int .i64 f.body.kind, .int .i64 f.body.num, v]) (w2.setCell ⟨w.heap.size + 1, 1, none⟩ v1') := by
  obtain ⟨r1, r2, r3, r4, r5⟩ := h.rest hg (fun k e => (h.made.ofn.lt k e).1)
  have h1 := h.hb
  have h2 := h.hr
  exact ⟨(h.made.pushFn f hg hs hn hp ht hl ho).put (by omega) _, (r1.set_ 1 _).eq_ rfl, r2.far (by show w.heap.size ≠ w.heap.size + 1; omega) _, r3.far (by show b ≠ w.heap.size + 1; omega) _, r4.far (by show rb ≠ w.heap.size + 1; omega) _, r5.setCell (p := ⟨w.heap.size + 1, 1, none⟩) (.inr (Nat.le_succ _)) _, h1, h2, h.hne⟩
theorem SrM.pushBs (h : SrM b rb rc w sy fs bs t' v0 v1 v2 us w1) (x : List UInt8) {v2' : Value} (hg : Grew w1 w2 v2 v2')
    (ho : w2.ownsRow (w.heap.size + 2) 9 1 v2' (bs.length + 1) ((bs.map fun t => .string ⟨t.toArray⟩) ++ [.string ⟨x.toArray⟩])) :
    SrM b rb rc w sy fs (bs ++ [x]) t' v0 v1 v2' us w2 := by
  obtain ⟨r1, r2, r3, r4, r5⟩ := h.rest hg (fun k e => (h.made.obs.lt k e).1)
  exact ⟨h.made.pushBs x hg ho, r1, r2, r3, r4, r5, h.hb, h.hr, h.hne⟩
theorem SrM.setRd (h : SrM b rb rc w sy fs bs t' v0 v1 v2 us wr) (i : Nat) (u : Value) : SrM b rb (rc.setIfInBounds i u) w sy fs bs t' v0 v1 v2 us (wr.setCell ⟨rb, i, none⟩ u) := by
  have h1 := h.hb
  have h2 := h.hr
  have h3 := h.hne
  exact ⟨h.made.put (by omega) _, h.box.far (by show w.heap.size + 1 ≠ rb; omega) _, h.res.far (by show w.heap.size ≠ rb; omega) _, h.text.far h3 _, h.rd.set_ i u, h.sav.setCell (p := ⟨rb, i, none⟩) (.inl (.inr rfl)) _, h1, h2, h3⟩
theorem SrM.below (h : SrM b rb rc w sy fs bs t' v0 v1 v2 us wr) (hb : Below wr.heap.size wr w1) : SrM b rb rc w sy fs bs t' v0 v1 v2 us w1 :=
  h.step (Saves.of_below hb) (h.text.below hb h.text.lt) (h.rd.below hb h.rd.lt)
/-- A body is stored. -/
theorem SrM.setBody {g n cap k : Nat} {f : Fn} (h : SrM b rb rc w sy fs bs t' v0 (.slice (some ⟨g, 0, none⟩) n cap) v2 us wr) (hn : n = fs.length) (hk : fs[k]? = some f) (x : T) {v : Value}
    (ht : x.NIn wr (fun c => w.heap.size + 2 ≤ c ∧ c < wr.heap.size ∧ v0.ownBlock ≠ some c ∧ (Value.slice (some ⟨g, 0, none⟩) n cap).ownBlock ≠ some c ∧ v2.ownBlock ≠ some c) v) :
    SrM b rb rc w sy (fs.set k (f.withBody x)) bs t' v0 (.slice (some ⟨g, 0, none⟩) n cap) v2 (((us.set (k * 5 + 2) (.int .i64 x.kind)).set (k * 5 + 3) (.int .i64 x.num)).set (k * 5 + 4) v)
      (((wr.setCell ⟨g, k * 5 + 2, none⟩ (.int .i64 x.kind)).setCell ⟨g, k * 5 + 3, none⟩ (.int .i64 x.num)).setCell ⟨g, k * 5 + 4, none⟩ v) := by
  subst hn
  have h1 := h.hb
  have h2 := h.hr
  have hg := h.made.ofn.lt g rfl
  have a1 := (h.made.ofn.stored (k * 5 + 2) (.int .i64 x.kind)).1
  have a2 := (a1.stored (k * 5 + 3) (.int .i64 x.num)).1
  have a3 := (a2.stored (k * 5 + 4) v).1
  have hs : Saves (fun c => c = g) wr (((wr.setCell ⟨g, k * 5 + 2, none⟩ (.int .i64 x.kind)).setCell ⟨g, k * 5 + 3, none⟩ (.int .i64 x.num)).setCell ⟨g, k * 5 + 4, none⟩ v) :=
    (((Saves.refl (fun c => c = g) _).setCell (p := ⟨g, k * 5 + 2, none⟩) (.inl rfl) _).setCell (p := ⟨g, k * 5 + 3, none⟩) (.inl rfl) _).setCell (p := ⟨g, k * 5 + 4, none⟩) (.inl rfl) _
  generalize (((wr.setCell ⟨g, k * 5 + 2, none⟩ (.int .i64 x.kind)).setCell ⟨g, k * 5 + 3, none⟩ (.int .i64 x.num)).setCell ⟨g, k * 5 + 4, none⟩ v) = w9 at *
  have hsz := hs.size
  have l0 := h.made.osy.lt
  have l2 := h.made.obs.lt
  have hne : ∀ c, (Value.slice (some ⟨g, 0, none⟩) fs.length cap).ownBlock ≠ some c → c ≠ g := fun c hc e => hc (by rw [e] <;> rfl)
  refine ⟨⟨?_, ?_, ?_, ?_, h.made.d0, h.made.d1, h.made.nms⟩, h.box.saves hs (by omega), h.res.saves hs (by omega), h.text.saves hs (by omega), h.rd.saves hs (by omega), ?_, h1, h2, h.hne⟩
  · exact owns_kept3 h.made.osy (fun c hc => hs.block c (l0 c hc).2 (hne c (h.made.d0 c hc).1))
  · rw [List.length_set]; exact a3
  · exact owns_kept3 h.made.obs (fun c hc => hs.block c (l2 c hc).2 (fun e => h.made.d1 g rfl (by rw [← e]; exact hc)))
  · exact ((h.made.row.put ht hk).keep (w' := w9) (fun c hc => hs.block c hc.2.1 (hne c hc.2.2.2.1)) _).more (fun c hc => ⟨hc.1, Nat.lt_of_lt_of_le hc.2.1 hsz, hc.2.2⟩) _
  · have hsw := h.sav.size
    exact ⟨hs.os.trans h.sav.os, hs.tape.trans h.sav.tape, hs.output.trans h.sav.output, Nat.le_trans hsw hsz, fun c hc hne => (hs.block c (by omega) (by omega)).trans (h.sav.block c hc hne)⟩
end Go.Proofs.YtbbejhhohppdhaaGreatDoor

namespace Go.Proofs.YtbbejhhohppdhaaGreatDoor
open Go.RowKit Go.Shelf

theorem sy_look : ∀ (zs : List SyX) (i : Nat), (∀ k z, zs[k]? = some z → z.i = i + k) → SyX.look zs.reverse = firstAt i (zs.map fun z => z.name.data.toList)
  | [], i, _ => by funext k; simp [SyX.look, firstAt]
  | z :: r, i, h => by
    rw [List.reverse_cons, SyX.look_snoc, sy_look r (i + 1) (fun k z hz => by have := h (k + 1) z (by simpa using hz); omega)]
    have h0 : z.i = i := h 0 z rfl
    funext k
    simp [putN, firstAt, h0]
theorem fn_look : ∀ (zs : List FnX) (i : Nat), (∀ k z, zs[k]? = some z → z.i = i + k) → FnX.look zs.reverse = firstAt i (zs.map fun z => z.name.data.toList)
  | [], i, _ => by funext k; simp [FnX.look, firstAt]
  | z :: r, i, h => by
    rw [List.reverse_cons, FnX.look_snoc, fn_look r (i + 1) (fun k z hz => by have := h (k + 1) z (by simpa using hz); omega)]
    have h0 : z.i = i := h 0 z rfl
    funext k
    simp [putN, firstAt, h0]
theorem sy_zs : ∀ (l : List Sy) (i : Nat), (∀ x ∈ l, x.name.size ≤ maxLen) → i + l.length ≤ 100000 → ∃ zs : List SyX, zs.length = l.length ∧ (∀ k z, zs[k]? = some z → z.i = i + k ∧ ∃ x, l[k]? = some x ∧ z.name = x.name ∧ z.rank = x.rank) ∧ zs.map (fun z => z.name.data.toList) = l.map nm
  | [], i, _, _ => ⟨[], rfl, by simp, rfl⟩
  | x :: r, i, h, hl => by
    simp at hl
    obtain ⟨zs, h1, h2, h3⟩ := sy_zs r (i + 1) (fun y hy => h y (List.mem_cons_of_mem _ hy)) (by omega)
    refine ⟨⟨i, x.name, h x List.mem_cons_self, by omega, x.rank⟩ :: zs, by simp [h1], fun k z hz => ?_, by simp [h3, nm]⟩
    cases k with
    | zero => simp at hz; subst hz; exact ⟨rfl, x, rfl, rfl, rfl⟩
    | succ k =>
      obtain ⟨g1, y, g2, g3⟩ := h2 k z (by simpa using hz)
      exact ⟨by omega, y, by simpa using g2, g3⟩
theorem sy_numbers' {w : World} {l : List Sy} {A : Option Addr} {n c : Nat} (h : SyIn w (fun b => b < w.heap.size) l (.slice A n c)) (hl : l.length ≤ 100000) :
    Calls Tryz.prog 66 #[.slice A n c, .func (.func 67) #[] #[]] w fun e W' => e = .returned (.map (some (w.heap.size + 1))) ∧ MapN W' (w.heap.size + 1) l.length (firstAt 0 (l.map nm)) ∧ Below w.heap.size w W' := by
  obtain ⟨A', n', c', e1, h1, h2, h3, h4, h5⟩ := h
  injection e1 with ea en ec
  subst ea en ec h1
  obtain ⟨zs, g1, g2, g3⟩ := sy_zs l 0 h5 (by omega)
  have hlook := sy_look zs 0 (fun k z hz => (g2 k z hz).1)
  have := sy_numbers A c zs (by omega) h3 w (fun k z hz => by
    obtain ⟨q1, x, q2, q3, q4⟩ := g2 k z hz
    obtain ⟨ad, r1, r2, r3⟩ := sy_el h4 q2
    exact ⟨by omega, ad, r1, r2, by rw [q3]; exact r3.1, by rw [q4]; exact r3.2⟩)
  rw [g1, hlook, g3] at this
  exact this
theorem fn_zs {w : World} {hi : Nat} : ∀ (l : List Fn) (us : List Value) (i : Nat), FnRow w hi l us → i + l.length ≤ 100000 → ∃ zs : List FnX, zs.length = l.length ∧ (∀ k z, zs[k]? = some z → z.i = i + k ∧
      us[k * 5]? = some (.string z.name) ∧ us[k * 5 + 1]? = some (.slice z.a1 z.n1 z.c1) ∧ us[k * 5 + 2]? = some (.int .i64 z.kd) ∧ us[k * 5 + 3]? = some (.int .i64 z.nu) ∧ us[k * 5 + 4]? = some (.slice z.a2 z.n2 z.c2)) ∧ zs.map (fun z => z.name.data.toList) = l.map (fun f => f.name.data.toList)
  | [], us, i, _, _ => ⟨[], rfl, by simp, rfl⟩
  | x :: r, us, i, h, hl => by
    simp at hl
    simp only [FnRow] at h
    obtain ⟨u, v, ut, rfl, h2, h3, h4, h5⟩ := h
    obtain ⟨zs, g1, g2, g3⟩ := fn_zs r ut (i + 1) h5 (by omega)
    obtain ⟨a1, n1, c1, rfl⟩ := h2.form
    obtain ⟨a2, n2, c2, rfl⟩ := h3.form
    refine ⟨⟨i, x.name, h4, by omega, a1, n1, c1, x.body.kind, x.body.num, a2, n2, c2⟩ :: zs, by simp [g1], fun k z hz => ?_, by simp [g3]⟩
    cases k with
    | zero => simp at hz; subst hz; exact ⟨rfl, rfl, rfl, rfl, rfl, rfl⟩
    | succ k =>
      obtain ⟨q0, q1, q2, q3, q4, q5⟩ := g2 k z (by simpa using hz)
      rw [show (k + 1) * 5 = k * 5 + 1 + 1 + 1 + 1 + 1 from by omega]
      exact ⟨by omega, by simpa using q1, by simpa using q2, by simpa using q3, by simpa using q4, by simpa using q5⟩
theorem fn_numbers' {w : World} {l : List Fn} {A : Option Addr} {n c : Nat} (h : FnIn w w.heap.size l (.slice A n c)) (hl : l.length ≤ 100000) :
    Calls Tryz.prog 68 #[.slice A n c, .func (.func 69) #[] #[]] w fun e W' => e = .returned (.map (some (w.heap.size + 1))) ∧ MapN W' (w.heap.size + 1) l.length (firstAt 0 (l.map fun f => f.name.data.toList)) ∧ Below w.heap.size w W' := by
  obtain ⟨A', n', c', us, e1, h1, h2, h3, h4, h5⟩ := h
  injection e1 with ea en ec
  subst ea en ec h1
  obtain ⟨zs, g1, g2, g3⟩ := fn_zs l us 0 h5 (by omega)
  have hlook := fn_look zs 0 (fun k z hz => (g2 k z hz).1)
  have := fn_numbers A c zs (by omega) h3 w (fun k z hz => by
    obtain ⟨q0, q1, q2, q3, q4, q5⟩ := g2 k z hz
    rcases h4 with rfl | ⟨ad, r1, r2, r3⟩
    · simp at q1
    · exact ⟨by omega, ad, r1, r2, r3 _ _ q1, by rw [← add_one_more ad (k * 5) 0]; exact r3 _ _ q2, by rw [← add_one_more ad (k * 5) 1]; exact r3 _ _ q3, by rw [← add_one_more ad (k * 5) 2]; exact r3 _ _ q4, by rw [← add_one_more ad (k * 5) 3]; exact r3 _ _ q5⟩)
  rw [g1, hlook, g3] at this
  exact this
end Go.Proofs.YtbbejhhohppdhaaGreatDoor

namespace Go.Proofs.YtbbejhhohppdhaaGreatDoor
open Go.RowKit Go.Shelf

theorem sym_info : (Tryz.prog.info? 98).map (fun i => (i.zero, i.size, i.bytes)) = some (some (.agg #[.string ⟨#[]⟩, .int .i64 0]), 2, 24) := by kernel_rfl
theorem str_info : (Tryz.prog.info? 9).map (fun i => (i.zero, i.size, i.bytes)) = some (some (.string ⟨#[]⟩), 1, 16) := by kernel_rfl

/-- What scheme leaves. -/
def SchPost (t : List UInt8) (b rb : Nat) (w : World) (e : Ending) (w' : World) : Prop :=
  (schemeP t = none ∧ e = pan ∧ Saves (fun k => k = b ∨ k = rb) w w') ∨
  (∃ sy fs bad r v0 v1 v2 bs us m1 m2, schemeP t = some ((sy, fs, bad), r) ∧ e = .returned (.agg #[v0, v1]) ∧ Rdg (w.heap.size + 2) w' sy fs bs v0 v1 v2 us ∧ Blk w' b 161 #[.string ⟨r.toArray⟩] ∧ Blk w' rb 54 #[m1, m2, .bool bad] ∧ Saves (fun k => k = b ∨ k = rb) w w')
theorem schRd_results {tmps : Array Value} {w : World} {a : Nat} {x y : Value} (h2 : tmps.getD 4 undef = .pointer (some ⟨a, 0, none⟩))
    (ha : Blk w a 25 #[x, y]) : (results Tryz.f33 tmps).run Tryz.prog w = .ok (.agg #[x, y]) w := by
  have h0 := ha.cell 0
  have h1 := ha.cell 1
  simp at h0 h1
  have h2' : tmps[4]?.getD undef = .pointer (some ⟨a, 0, none⟩) := by simpa using h2
  simp [results, Tryz.results33, go_sem, h2', h0, h1]
theorem SchPost.none_ {t : List UInt8} {b rb : Nat} {w w' : World} (h : schemeP t = none) (hs : Saves (fun k => k = b ∨ k = rb) w w') : SchPost t b rb w pan w' := .inl ⟨h, rfl, hs⟩

set_option maxRecDepth 100000 in
set_option maxHeartbeats 6400000 in
theorem schemeRd_any (t : List UInt8) (b rb : Nat) (w : World) (hgv : GV w) (hb8 : 8 ≤ b) (hr8 : 8 ≤ rb) (hbr : b ≠ rb) (hb : Blk w b 161 #[.string ⟨t.toArray⟩]) (hr : Blk w rb 54 #[.map none, .map none, .bool false]) (hL : t.length ≤ 65536) :
    Calls Tryz.prog 33 #[.pointer (some ⟨rb, 0, none⟩), .pointer (some ⟨b, 0, none⟩)] w (SchPost t b rb w) := by
  have hbw := hb.lt
  obtain ⟨i0, hi0, hz0, hz1, hz2⟩ := info_parts sym_info
  obtain ⟨j0, hj0, hy0, hy1, hy2⟩ := info_parts fn_info
  obtain ⟨k0, hk0, hx0, hx1, hx2⟩ := info_parts str_info
  have HS := Lib.hid (SrM.start hb hr hbr)
  have HG := Lib.hid (fun W (hs : Saves (fun k => k = b ∨ k = rb) w W) => hgv.saves hs (by omega) (fun k hk e => by omega))
  go_enter Tryz.func33, Tryz.ntmps33
  go_wp2_with fail
  go_loopw [] (fun wr => ∃ sy t' v0, SrM b rb #[.map none, .map none, .bool false] w sy [] [] t' v0 (.slice none 0 0) (.slice none 0 0) [] wr ∧ linesP symWord symP [] t = linesP symWord symP sy t' ∧ sy.length + t'.length ≤ t.length) (fun wr => leftIn (wr.cell? ⟨b, 0, none⟩))
  case atStart => exact ⟨[], t, _, HS.out, rfl, by simp⟩
  case round =>
    obtain ⟨sy, t', v0, hm, hsame, hlen⟩ := hrel
    rw [linesP_eq (fun t x r h => symP_le h) sy t'] at hsame
    cases hst : strip symWord t' with
    | none =>
      have H3 := Lib.hid (skip_no hst b wr hm.text)
      rw [hst] at hsame
      have HN : Hid (linesP symWord symP [] t = some (sy, t')) := Lib.hid hsame
      clear hsame hst
      have HM := Lib.hid hm
      clear hm HS
      unfold symWord at H3
      go_wp2_with fail
      refine H3.out.mono ?_
      rintro e w2 ⟨rfl, b3, s3⟩
      have hm2 := HM.out.stepB s3 b3
      have hsl := hlen
      clear hlen
      go_wp2_with fail
      go_loopw [6] (fun p wr => ∃ xs t2 v1 us, SrM b rb #[.map none, .map none, .bool (badOf xs)] w sy (xs.map bare) (xs.map fun x => x.2.2) t2 v0 v1 p us wr ∧ linesP funWord funLineP [] t' = linesP funWord funLineP xs t2 ∧ xs.length + t2.length ≤ t.length ∧ ∀ x ∈ xs, x.2.2.length ≤ 65536) (fun _ wr => leftIn (wr.cell? ⟨b, 0, none⟩))
      case atStart => exact ⟨[], t', _, _, hm2, rfl, by simp; omega, by simp⟩
      case round =>
        obtain ⟨xs, t2, v1, us, hn, hsame, hlen, hbds⟩ := hrel
        rw [linesP_eq (fun t x r h => funLineP_le h) xs t2] at hsame
        cases hst : strip funWord t2 with
        | none =>
          have H4 := Lib.hid (skip_no hst b wr hn.text)
          rw [hst] at hsame
          have HF : Hid (linesP funWord funLineP [] t' = some (xs, t2)) := Lib.hid hsame
          clear hsame hst
          have HM2 := Lib.hid hn
          have HB := Lib.hid hbds
          clear hn hm2 hbds
          unfold funWord at H4
          go_wp2_with fail
          refine H4.out.mono ?_
          rintro e w3 ⟨rfl, b4, s4⟩
          have hm3 := HM2.out.stepB s4 b4
          have hsc := hm3.made.scheme
          obtain ⟨⟨A0, n0, c0, rfl⟩, ⟨A1, n1, c1, rfl⟩⟩ := hsc.form
          have d0 := hm3.box.cell 0
          simp at d0
          have N1 := Lib.hid (sy_numbers' (l := sy) hsc.sy (by omega))
          go_wp2_with fail
          refine N1.out.mono ?_
          rintro e w4 ⟨rfl, mp1, bl1⟩
          have hm4 := hm3.below bl1
          have r0 := hm4.rd.cell 0
          have f0 := hm4.rd.frozen 0
          simp at r0
          have hm5 := hm4.setRd 0 (.map (some (w3.heap.size + 1)))
          simp at hm5
          have d1 := hm5.box.cell 1
          simp at d1
          have hsc2 := hm5.made.scheme
          have N2 := Lib.hid (fn_numbers' (l := xs.map bare) hsc2.fn (by simp only [List.length_map]; omega))
          go_wp2_with fail
          refine N2.out.mono ?_
          rintro e w5 ⟨rfl, mp2, bl2⟩
          have hm6 := hm5.below bl2
          have r1 := hm6.rd.cell 1
          have f1 := hm6.rd.frozen 1
          simp at r1
          have hsz4 : (w4.setCell ⟨rb, 0, none⟩ (.map (some (w3.heap.size + 1)))).heap.size = w4.heap.size := by simp [World.setCell]
          rw [hsz4] at mp2
          have hm7 := hm6.setRd 1 (.map (some (w4.heap.size + 1)))
          simp at hm7
          have hz3 := hm3.lt
          have hz1 := bl1.size
          have hz2 := bl2.size
          simp [World.setCell] at hz2
          have hrw := hm3.hr
          have ml1 := mp1.lt
          have ml2 := mp2.lt
          have mp1' : MapN (w5.setCell ⟨rb, 1, none⟩ (.map (some (w4.heap.size + 1)))) (w3.heap.size + 1) sy.length (firstAt 0 (sy.map nm)) :=
            ((mp1.same (Below.heap_setCell _ _ _ _ (by show w3.heap.size + 1 ≠ rb; omega))).same (bl2.block _ (by simp [World.setCell]; omega))).same (Below.heap_setCell _ _ _ _ (by show w3.heap.size + 1 ≠ rb; omega))
          have mp2' : MapN (w5.setCell ⟨rb, 1, none⟩ (.map (some (w4.heap.size + 1)))) (w4.heap.size + 1) (xs.map bare).length (firstAt 0 ((xs.map bare).map fun f => f.name.data.toList)) :=
            mp2.same (Below.heap_setCell _ _ _ _ (by show w4.heap.size + 1 ≠ rb; omega))
          obtain ⟨A2, c2, hv2⟩ : ∃ A2 c2, u6 = .slice A2 xs.length c2 := by
            rcases hm3.made.obs.2 with ⟨h1, h2⟩ | ⟨g, cap, cur, h1, _⟩
            · rw [List.length_map] at h2; exact ⟨none, 0, by rw [h1, h2]⟩
            · rw [List.length_map] at h1; exact ⟨_, _, h1⟩
          subst hv2
          have hnames : ((xs.map bare).map fun f => f.name.data.toList) = xs.map fun x => x.1 := by rw [List.map_map] <;> rfl
          rw [hnames] at mp2'
          have HFB : Hid (∀ s i, firstAt 0 (sy.map nm) s = some i → i ≤ 1000000) := Lib.hid (fun s i h => by have := firstAt_lt h; simp at this; omega)
          have HGB : Hid (∀ s i, firstAt 0 (xs.map fun x => x.1) s = some i → i ≤ 1000000) := Lib.hid (fun s i h => by have := firstAt_lt h; simp at this; omega)
          have HP : Hid (schemeP t = match bodiesP (firstAt 0 (sy.map nm)) (firstAt 0 (xs.map fun x => x.1)) [] (xs.map fun x => x.2.2) with
            | some ts => some ((sy, withB ts (xs.map bare), badOf xs), t2)
            | none => none) := Lib.hid (by rw [schemeP, HN.out]; simp only []; rw [HF.out] <;> rfl)
          generalize firstAt 0 (sy.map nm) = ff at *
          generalize (firstAt 0 (xs.map fun x => x.1)) = gg at *
          have M1 := Lib.hid mp1'
          have M2 := Lib.hid mp2'
          have HM7 := Lib.hid hm7
          clear mp1 mp2 mp1' mp2' hm3 hm4 hm5 hm6 hm7 hsc hsc2 hnames
          have hl0 := HM7.out.made.osy.lt
          have hl1 : ∀ k, (Value.slice A1 n1 c1).ownBlock = some k → k < w3.heap.size := fun k e => (HM2.out.stepB s4 b4).made.ofn.lt k e |>.2
          go_wp2_with fail
          go_loopw [47] (fun i wr => ∃ ts us', ts.length ≤ xs.length ∧ i = .int .i64 (ts.length : Nat) ∧
            SrM b rb #[.map (some (w3.heap.size + 1)), .map (some (w4.heap.size + 1)), .bool (badOf xs)] w sy (withB ts (xs.map bare)) (xs.map fun x => x.2.2) t2 (.slice A0 n0 c0) (.slice A1 n1 c1) (.slice A2 xs.length c2) us' wr ∧
            MapN wr (w3.heap.size + 1) sy.length ff ∧ MapN wr (w4.heap.size + 1) (xs.map bare).length gg ∧
            bodiesP ff gg [] (xs.map fun x => x.2.2) = bodiesP ff gg ts ((xs.map fun x => x.2.2).drop ts.length)) (fun i _ => xs.length - (intOf i).toNat)
          case atStart => exact ⟨[], us, Nat.zero_le _, rfl, HM7.out, M1.out, M2.out, rfl⟩
          case round =>
            obtain ⟨ts, us', hk, rfl, hn, q1, q2, hbod⟩ := hrel
            by_cases hlt : ts.length < xs.length
            · obtain ⟨g1, rfl, rfl⟩ : ∃ g1, A1 = some ⟨g1, 0, none⟩ ∧ n1 = xs.length := by
                rcases hn.made.ofn.2 with ⟨_, h0⟩ | ⟨g, cap, cur, hv, _⟩
                · rw [withB_length, List.length_map] at h0; omega
                · rw [withB_length, List.length_map] at hv
                  injection hv with h1 h2 h3
                  exact ⟨g, h1, h2⟩
              obtain ⟨g2, rfl⟩ : ∃ g2, A2 = some ⟨g2, 0, none⟩ := by
                rcases hn.made.obs.2 with ⟨_, h0⟩ | ⟨g, cap, cur, hv, _⟩
                · rw [List.length_map] at h0; omega
                · injection hv with h1 h2 h3
                  exact ⟨g, h1⟩
              have hx : xs[ts.length]? = some xs[ts.length] := List.getElem?_eq_getElem hlt
              have hbl := HB.out _ (List.getElem_mem hlt)
              have hcell : wr.cell? ⟨g2, ts.length, none⟩ = some (.string ⟨xs[ts.length].2.2.toArray⟩) := by
                have := hn.made.obs
                rw [List.length_map] at this
                rw [this.cellAt ts.length (by omega)]
                simp [hx]
              have hxx : (xs.map fun x => x.2.2)[ts.length]? = some xs[ts.length].2.2 := by simp [hx]
              have hfk : (withB ts (xs.map bare))[ts.length]? = some (bare xs[ts.length]) := by rw [withB_at _ _ _ (Nat.le_refl _)]; simp [hx]
              have hwb := fun y => withB_snoc ts (xs.map bare) y (bare xs[ts.length]) (by simp [hx])
              have hdrop : (xs.map fun x => x.2.2).drop ts.length = xs[ts.length].2.2 :: (xs.map fun x => x.2.2).drop (ts.length + 1) := by
                rw [← List.getElem_cons_drop (by simpa using hlt)]
                simp
              rw [hdrop, bodiesP] at hbod
              generalize xs[ts.length].2.2 = bd at *
              have HNone : Hid (wholeT ff gg bd = none → schemeP t = none) := Lib.hid (fun h => by rw [HP.out, hbod]; simp only [h])
              have HSome : Hid (∀ y, wholeT ff gg bd = some y → bodiesP ff gg [] (xs.map fun x => x.2.2) = bodiesP ff gg (ts ++ [y]) ((xs.map fun x => x.2.2).drop (ts.length + 1))) := Lib.hid (fun y h => by rw [hbod]; simp only [h])
              have HFK := Lib.hid hfk
              have HWB := Lib.hid hwb
              have HN3 := Lib.hid hn
              have hgv3 : GV wr.drew := HG.out _ hn.sav.drew
              have hl3 := hn.lt
              have hd3 := hn.drew
              have HA : Hid (∀ W, RdBase rb (w3.heap.size + 1) (w4.heap.size + 1) sy.length (xs.map bare).length (badOf xs) ff gg W → _) := Lib.hid (fun W hW => allTerm_any HFB.out HGB.out bd W hbl hW)
              have hbase : RdBase rb (w3.heap.size + 1) (w4.heap.size + 1) sy.length (xs.map bare).length (badOf xs) ff gg wr.drew := ⟨hd3.rd, q1.same rfl, q2.same rfl, hgv3, by show 8 ≤ wr.heap.size; omega⟩
              have hmf : ∀ (fn : Go.Fn) (first cap : Array Value) (w : World), (Instr.makeFunc fn first cap).run Tryz.prog w = .ok (.func fn first cap) w := fun _ _ _ _ => rfl
              have b1 := hn.box.cell 1
              simp at b1
              have hfl : hn.made.ofn = hn.made.ofn := rfl
              clear hbod hdrop hxx hx hfk hwb hfl
              go_wp2_with fail
              go_region_law
                (go_simp; go_at_call 70; refine (HA.out _ (by exact hbase)).mono ?_; intro e w6 h6; rcases h6.cases_ with ⟨hn6, rfl, s6⟩ | ⟨y, v6, us6, ha6, rfl, hm6, bl6⟩
                 · exact ⟨rfl, SchPost.none_ (HNone.out hn6) (HN3.out.sav.drew.trans (Saves.of_below s6))⟩
                 have HAQ := Lib.hid ha6
                 clear ha6
                 obtain ⟨A6, c6, rfl⟩ := hm6.form
                 have hn6 := hd3.below bl6
                 have of6 := hn6.made.ofn
                 rw [withB_length, List.length_map] at of6
                 obtain ⟨e2, he2⟩ : ∃ z, us'[ts.length * 5 + 2]? = some z := ⟨_, List.getElem?_eq_getElem (by have := of6.1; omega)⟩
                 obtain ⟨e3, he3⟩ : ∃ z, us'[ts.length * 5 + 3]? = some z := ⟨_, List.getElem?_eq_getElem (by have := of6.1; omega)⟩
                 obtain ⟨e4, he4⟩ : ∃ z, us'[ts.length * 5 + 4]? = some z := ⟨_, List.getElem?_eq_getElem (by have := of6.1; omega)⟩
                 have st2 : w6.cell? ⟨g1, ts.length * 5 + 2, none⟩ = some e2 := (of6.cellAt _ (by omega)).trans he2
                 have st3 : w6.cell? ⟨g1, ts.length * 5 + 2 + 1, none⟩ = some e3 := (of6.cellAt _ (by omega)).trans he3
                 have st4 : w6.cell? ⟨g1, ts.length * 5 + 2 + 2, none⟩ = some e4 := (of6.cellAt _ (by omega)).trans he4
                 have st3' : w6.cell? ⟨g1, ts.length * 5 + 3, none⟩ = some e3 := st3
                 have st4' : w6.cell? ⟨g1, ts.length * 5 + 4, none⟩ = some e4 := st4
                 have fz2 := of6.frozenAt (ts.length * 5 + 2)
                 have fz3 := of6.frozenAt (ts.length * 5 + 3)
                 have fz4 := of6.frozenAt (ts.length * 5 + 4)
                 have bx6 := hn6.box.cell 1
                 simp at bx6
                 have of6L := Lib.hid of6
                 clear of6 he2 he3 he4)
              all_goals
                have hg1 := hl1 g1 rfl
                have hO0 := HN3.out.made.osy.lt
                have hO1 := HN3.out.made.ofn.lt
                have hO2 := HN3.out.made.obs.lt
                have hnt := (hm6.nterm (t := y)).more (Q := fun c => w.heap.size + 2 ≤ c ∧ c < w6.heap.size ∧ (Value.slice A0 n0 c0).ownBlock ≠ some c ∧ (Value.slice (some ⟨g1, 0, none⟩) xs.length c1).ownBlock ≠ some c ∧ (Value.slice (some ⟨g2, 0, none⟩) xs.length c2).ownBlock ≠ some c)
                  (fun c hc => by
                    have h1 : wr.heap.size ≤ c := hc.1
                    exact ⟨by omega, hc.2, fun e => by have := (hO0 c e).2; omega, fun e => by have := (hO1 c e).2; omega, fun e => by have := (hO2 c e).2; omega⟩)
                have hsb := hn6.setBody (by rw [withB_length, List.length_map]) HFK.out y hnt
                rw [← HWB.out y] at hsb
                have hq1 := q1.same (w' := w6) (bl6.block _ (by show _ < wr.heap.size; exact q1.lt))
                have hq2 := q2.same (w' := w6) (bl6.block _ (by show _ < wr.heap.size; exact q2.lt))
                have hq1' := ((hq1.same (Below.heap_setCell w6 ⟨g1, ts.length * 5 + 2, none⟩ (.int .i64 y.kind) _ (by show w3.heap.size + 1 ≠ g1; omega))).same (Below.heap_setCell _ ⟨g1, ts.length * 5 + 3, none⟩ (.int .i64 y.num) _ (by show w3.heap.size + 1 ≠ g1; omega))).same (Below.heap_setCell _ ⟨g1, ts.length * 5 + 4, none⟩ (.slice A6 y.args.length c6) _ (by show w3.heap.size + 1 ≠ g1; omega))
                have hq2' := ((hq2.same (Below.heap_setCell w6 ⟨g1, ts.length * 5 + 2, none⟩ (.int .i64 y.kind) _ (by show w4.heap.size + 1 ≠ g1; omega))).same (Below.heap_setCell _ ⟨g1, ts.length * 5 + 3, none⟩ (.int .i64 y.num) _ (by show w4.heap.size + 1 ≠ g1; omega))).same (Below.heap_setCell _ ⟨g1, ts.length * 5 + 4, none⟩ (.slice A6 y.args.length c6) _ (by show w4.heap.size + 1 ≠ g1; omega))
                have HSB := Lib.hid hsb
                have HQ1 := Lib.hid hq1'
                have HQ2 := Lib.hid hq2'
                clear hsb hq1 hq2 hq1' hq2' hnt hO0 hO1 hO2
                go_wp2_with fail
                go_roundw
                case rel => exact ⟨ts ++ [y], _, by simp; omega, by simp, HSB.out, HQ1.out, HQ2.out, (HSome.out y HAQ.out).trans (by simp)⟩
                case measure => simp [intOf]; omega
            · have hll : ts.length = xs.length := by omega
              have hb2 : schemeP t = some ((sy, withB ts (xs.map bare), badOf xs), t2) := by
                rw [HP.out, hbod, hll, List.drop_of_length_le (by simp)]
                rfl
              have HB2 := Lib.hid hb2
              have HN3 := Lib.hid hn
              have x0 := hn.box.cell 0
              have x1 := hn.box.cell 1
              have y0 := hn.res.cell 0
              have y1 := hn.res.cell 1
              have z0 := hn.res.frozen 0
              have z1 := hn.res.frozen 1
              simp at x0 x1 y0 y1
              clear hb2 hbod hn
              go_wp2_with fail
              refine bodyPost_ret (schRd_results rfl (((HN3.out.res.set_ 0 _).set_ 1 _).eq_ rfl)) rfl ?_
              have hbs := HN3.out.hb
              have hrs := HN3.out.hr
              exact .inr ⟨sy, _, _, t2, _, _, _, _, us', _, _, HB2.out, rfl, (HN3.out.made.put (by omega) _).put (by omega) _, (HN3.out.text.far (p := ⟨w.heap.size, 0, none⟩) (by show b ≠ w.heap.size; omega) _).far (p := ⟨w.heap.size, 1, none⟩) (by show b ≠ w.heap.size; omega) _,
                (HN3.out.rd.far (p := ⟨w.heap.size, 0, none⟩) (by show rb ≠ w.heap.size; omega) _).far (p := ⟨w.heap.size, 1, none⟩) (by show rb ≠ w.heap.size; omega) _, (HN3.out.sav.setCell (p := ⟨w.heap.size, 0, none⟩) (.inr (Nat.le_refl _)) _).setCell (p := ⟨w.heap.size, 1, none⟩) (.inr (Nat.le_refl _)) _⟩
        | some r =>
          have lr := strip_len hst
          have lsw : funWord.length = 4 := rfl
          rw [lsw] at lr
          have H4 := Lib.hid (skip_yes hst b wr hn.text)
          unfold funWord at H4
          rw [hst] at hsame
          have HC : Hid (∀ W, GV W → Blk W b 161 #[.string ⟨r.toArray⟩] → Blk W rb 54 #[.map none, .map none, .bool (badOf xs)] → Calls Tryz.prog 64 #[.pointer (some ⟨rb, 0, none⟩), .pointer (some ⟨b, 0, none⟩)] W (FunPost r b rb (badOf xs) W)) :=
            Lib.hid (fun W hg' hb' hr' => funRd_any r b rb (badOf xs) W hg' hb8 hr8 hbr hb' hr' (by omega))
          have HU := Lib.hid (fun q W hg' hb' (hl : q.length ≤ 65536) => until_or [10] q b W hg' hb' hl)
          have HY : Hid (∀ s p q bd q2, funP r = some ((s, p), q) → cutP [10] q = some (bd, q2) → linesP funWord funLineP [] t' = linesP funWord funLineP (xs ++ [(s, p, bd)]) q2 ∧ q2.length < r.length) :=
            Lib.hid (fun s p q bd q2 h1 h2 => ⟨by rw [hsame]; simp [funLineP, h1, h2], by have := (funP_le h1).1; have := (cutP_le h2).2; omega⟩)
          have HZ1 : Hid (funP r = none → schemeP t = none) := Lib.hid (fun h => by rw [schemeP, HN.out]; simp only []; rw [hsame]; simp [funLineP, h])
          have HZ2 : Hid (∀ s p q, funP r = some ((s, p), q) → cutP [10] q = none → schemeP t = none) := Lib.hid (fun s p q h1 h2 => by rw [schemeP, HN.out]; simp only []; rw [hsame]; simp [funLineP, h1, h2])
          have HBD : Hid (∀ s p q bd q2, funP r = some ((s, p), q) → cutP [10] q = some (bd, q2) → ∀ x ∈ xs ++ [(s, p, bd)], x.2.2.length ≤ 65536) := Lib.hid (fun s p q bd q2 h1 h2 x hx => by
            rcases List.mem_append.1 hx with hx | hx
            · exact hbds x hx
            · rw [List.mem_singleton.1 hx]
              have := (funP_le h1).1; have := (cutP_le h2).1
              show bd.length ≤ 65536
              omega)
          have hacc : xs.length ≤ 65536 := by omega
          have HM2 := Lib.hid hn
          clear hbds
          clear hsame hst hn hm2 lsw
          go_wp2_with fail
          refine H4.out.mono ?_
          rintro e w3 ⟨rfl, b4, s4⟩
          have hm3 := HM2.out.stepB s4 b4
          have d3 := hm3.box.cell 1
          simp at d3
          have hg3d : GV w3.drew := HG.out _ hm3.sav.drew
          have hz3 := hm3.lt
          have h0l := hm3.made.osy.lt
          have h1l := hm3.made.ofn.lt
          have h2l := hm3.made.obs.lt
          go_wp2_with fail
          go_region_law
            (first
              | (go_simp; go_at_call 64; refine (HC.out _ (by exact hg3d) (by exact b4) (by exact hm3.rd)).mono ?_; intro e w4 h4; rcases h4 with ⟨hn, rfl, s5⟩ | ⟨s, p, q, A, n, c, fp, ha, rfl, g1, g2, g3, hb4, hrd4, hs4⟩
                 · exact ⟨rfl, SchPost.none_ (HZ1.out hn) (hm3.sav.drew.trans s5)⟩
                 have HAQ := Lib.hid ha
                 clear ha
                 have hss : Saves (fun k => k = b ∨ k = rb) w3 w4 := ((Saves.refl _ _).drew).trans hs4
                 have hm4 := hm3.step hss hb4 hrd4
                 have hown4 := hm4.made.ofn
                 have p1 := hm4.box.cell 1
                 have p2 : (w4.alloc (.cells #[.string ⟨s.toArray⟩, .slice A n c, .int .i64 0, .int .i64 0, .slice none 0 0] 64)).cell? ⟨w.heap.size + 1, 1, none⟩ = some v1 := (hm4.box.alloc _).cell 1
                 simp at p1)
              | (refine step_append_lies _ (by rfl) _ _ _ (by rfl) (w.heap.size + 2) 64 j0 _ 5 80 Tryz.underlying23 hj0 hy0 hy1 hy2 rfl (by omega) v1 _ us (by rfl) (by exact (hown4.alloc _))
                  ⟨w4.heap.size, 0, none⟩ 1 1 [.string ⟨s.toArray⟩, .slice A n c, .int .i64 0, .int .i64 0, .slice none 0 0] (by rfl) (by rfl) (by exact World.news_of_block (cs := #[.string ⟨s.toArray⟩, .slice A n c, .int .i64 0, .int .i64 0, .slice none 0 0]) (t := 64) (fr := (0, 0)) (heap_alloc_new w4 _)) (by simp [Value.oneCell']) (by omega) (by simp only [maxLen, List.length_map]; omega) (by simp only [List.length_map]; omega) (by have := hm4.lt; simp; omega) (w4.heap.size + 1) (by simp) ?_; intro gg cap w5 hown2 hgrow hat hlt2
                 have hG5 := Grew.of (n := (xs.map bare).length + 1) (cap := cap) hgrow hat hlt2
                 have hR5 := hm4.rest hG5 (fun k e => (hm4.made.ofn.lt k e).1)
                 have q1 := hR5.1.cell 1
                 have q2 := hR5.1.frozen 1
                 simp at q1))
          all_goals
            have hm5 := hm4.pushFn ⟨⟨s.toArray⟩, getS p, .mk 0 0 []⟩ hG5 g1 g2
              (fun k hk => by
                have := g3 k hk
                have hh : w3.heap.size ≤ k := this.1
                exact ⟨by omega, this.2, fun e => by have := h0l k e; omega, fun e => by have := h1l k e; omega, fun e => by have := h2l k e; omega⟩)
              (T.NIn.nil _ _) (by have := (funP_le HAQ.out).2.1; simp [ByteArray.size, maxLen]; omega) hown2
            simp only [List.length_map] at hm5
            go_wp2_with fail
            refine (HU.out q _ (HG.out _ hm5.sav) hm5.text (by have := (funP_le HAQ.out).1; omega)).mono ?_
            rintro e w6 (⟨hn, rfl, s6⟩ | ⟨bd, q3, hcut, rfl, b6, s6⟩)
            · exact ⟨rfl, SchPost.none_ (HZ2.out _ _ _ HAQ.out hn) (hm5.sav.trans (s6.mono (fun _ _ e => .inl e)))⟩
            have HCQ := Lib.hid hcut
            clear hcut
            have hm6 := hm5.stepB s6 b6
            have hown6 := hm6.made.obs
            simp only [List.length_map] at hown6
            have hz6 := hm6.lt
            go_wp2_with (at_builtin; go_loud (refine wpList_append_lies _ rfl (.tmp 28) (.tmp 31) 105 rfl (w.heap.size + 2) 9 k0 _ 1 16 Tryz.underlying105 hk0 hx0 hx1 hx2 rfl (by decide) u6 _ _ rfl (hown6.alloc _) ⟨w6.heap.size, 0, none⟩ 1 1 [.string ⟨bd.toArray⟩] rfl rfl ?c1 ?c2 (by omega) ?c3 ?c4 ?c5 (w6.heap.size + 1) (by simp) ?_))
            case c1 => exact World.news_of_block (cs := #[.string ⟨bd.toArray⟩]) (t := 9) (fr := (0, 0)) (heap_alloc_new w6 _)
            case c2 => intro u hu; rw [List.mem_singleton.1 hu]; rfl
            case c3 => simp only [maxLen]; omega
            case c4 => omega
            case c5 => simp; omega
            intro gg2 cap2 w7 hown7 hgrow7 hat7 hlt7
            have hG7 := Grew.of (n := xs.length + 1) (cap := cap2) hgrow7 hat7 hlt7
            have hm7 := hm6.pushBs bd hG7 (by rw [List.length_map, List.map_map]; exact hown7)
            have e1 : (badOf xs || !decide (getE p = 0)) = badOf (xs ++ [(s, p, bd)]) := (badOf_snoc xs (s, p, bd)).symm
            have e2 : xs.map bare ++ [⟨⟨s.toArray⟩, getS p, .mk 0 0 []⟩] = (xs ++ [(s, p, bd)]).map bare := by rw [List.map_append] <;> rfl
            have e3 : (xs.map fun x => x.2.2) ++ [bd] = (xs ++ [(s, p, bd)]).map fun x => x.2.2 := by rw [List.map_append] <;> rfl
            have hm8 := hm7
            rw [e1, e2, e3] at hm8
            clear e1 e2 e3
            go_wp2_with fail
            go_roundw
            case rel => exact ⟨xs ++ [(s, p, bd)], q3, _, _, hm8, (HY.out _ _ _ _ _ HAQ.out HCQ.out).1, by have := (HY.out _ _ _ _ _ HAQ.out HCQ.out).2; simp only [List.length_append, List.length_cons, List.length_nil]; omega, HBD.out s p q bd q3 HAQ.out HCQ.out⟩
            case measure =>
              have hq := hm8.text.cell 0
              have ht := HM2.out.text.cell 0
              simp only [List.getElem?_toArray, List.getElem?_cons_zero] at hq ht
              rw [hq, ht]
              have := (HY.out _ _ _ _ _ HAQ.out HCQ.out).2
              show q3.toArray.size < t2.toArray.size
              simp
              omega
    | some r =>
      have lr := strip_len hst
      have lsw : symWord.length = 7 := rfl
      rw [lsw] at lr
      have H3 := Lib.hid (skip_yes hst b wr hm.text)
      unfold symWord at H3
      rw [hst] at hsame
      have HC : Hid (∀ W, GV W → Blk W b 161 #[.string ⟨r.toArray⟩] → Calls Tryz.prog 63 #[.pointer (some ⟨b, 0, none⟩)] W (StepPost (symP r) (fun x => .agg #[.string x.name, .int .i64 x.rank]) b W)) :=
        Lib.hid (fun W hg' hb' => symRd_any r b W hg' hb8 hb' (by omega))
      have HY : Hid (∀ x q, symP r = some (x, q) → linesP symWord symP [] t = linesP symWord symP (sy ++ [x]) q) := Lib.hid (fun x q ha => by rw [hsame]; simp [ha])
      have HN : Hid (symP r = none → linesP symWord symP [] t = none) := Lib.hid (fun ha => by rw [hsame]; simp [ha])
      have hacc : sy.length ≤ 65536 := by omega
      have HM := Lib.hid hm
      clear hsame hst hm HS lsw
      go_wp2_with fail
      refine H3.out.mono ?_
      rintro e w2 ⟨rfl, b3, s3⟩
      have hm2 := HM.out.stepB s3 b3
      have d2 := hm2.box.cell 0
      simp at d2
      have hg2d : GV w2.drew := HG.out _ hm2.sav.drew
      go_wp2_with fail
      go_region_law
        (first
          | (go_simp; go_at_call 63; refine (HC.out _ (by exact hg2d) (by exact b3)).mono ?_; intro e w3 h4; rcases h4 with ⟨hn, rfl, s4⟩ | ⟨x, q, ha, rfl, hb1, hs1⟩
             · exact ⟨rfl, SchPost.none_ (by rw [schemeP, HN.out hn]) (hm2.sav.drew.trans (s4.mono (fun _ _ e => .inl e)))⟩
             have HAQ := Lib.hid ha
             clear ha
             have hss : Saves (fun k => k = b) w2 w3 := ((Saves.refl _ _).drew).trans hs1
             have hm3 := hm2.stepB hss hb1
             have hown1 := hm3.made.osy
             have p1 := hm3.box.cell 0
             have p2 : (w3.alloc (.cells #[.string x.name, .int .i64 x.rank] 98)).cell? ⟨w.heap.size + 1, 0, none⟩ = some v0 := (hm3.box.alloc _).cell 0
             simp at p1)
          | (refine step_append_lies _ (by rfl) _ _ _ (by rfl) (w.heap.size + 2) 98 i0 _ 2 24 Tryz.underlying22 hi0 hz0 hz1 hz2 rfl (by omega) v0 _ (syCells sy) (by rfl) (by exact (hown1.alloc _))
              ⟨w3.heap.size, 0, none⟩ 1 1 [.string x.name, .int .i64 x.rank] (by rfl) (by rfl) (by exact World.news_of_block (cs := #[.string x.name, .int .i64 x.rank]) (t := 98) (fr := (0, 0)) (heap_alloc_new w3 _)) (by simp [Value.oneCell']) (by omega) (by simp only [maxLen]; omega) (by omega) (by have := hm3.lt; simp; omega) (w3.heap.size + 1) (by simp) ?_; intro gg cap w4 hown2 hgrow hat hlt2
             have hG4 := Grew.of (n := sy.length + 1) (cap := cap) hgrow hat hlt2
             have hR4 := hm3.rest hG4 (fun k e => (hm3.made.osy.lt k e).1)
             have q1 := hR4.1.cell 0
             have q2 := hR4.1.frozen 0
             simp at q1))
      all_goals
        go_wp2_with fail
        go_roundw
        case rel => exact ⟨_, q, _, hm3.pushSy x (symP_name HAQ.out) hG4 hown2, HY.out _ _ HAQ.out, by have := symP_le HAQ.out; simp; omega⟩
        case measure =>
          have hq := (hm3.pushSy x (symP_name HAQ.out) hG4 hown2).text.cell 0
          have ht := HM.out.text.cell 0
          simp only [List.getElem?_toArray, List.getElem?_cons_zero] at hq ht
          rw [hq, ht]
          have := symP_le HAQ.out
          show q.toArray.size < t'.toArray.size
          simp
          omega
end Go.Proofs.YtbbejhhohppdhaaGreatDoor
