/-
  sorts.Get and the reference's Get; reading back what was written.
-/
import Derived.Test.YtbifnkjfjndjjaaRead
import Derived.Test.YtbifnkjfjndjjaaRefGet
import Derived.Test.YtbifnkjfjndjjaaOrd
namespace Go.Proofs.Ytbifnkjfjndjjaa
open Go.RowKit

/-- The sort whose string a list of bytes is. -/
def whole (t : List UInt8) : Option S := match parse [] t with
  | some (s, []) => some s
  | _ => none
def getE (t : List UInt8) : Int := if 65536 < t.length then 3 else match whole t with
  | some s => errOf s.ok
  | none => 4
def getS (t : List UInt8) : S := if getE t = 0 then (whole t).getD (.mk []) else .mk []

/-- What Get leaves. -/
def Gets (t : List UInt8) (w : World) (e : Ending) (w' : World) : Prop :=
  ∃ v fp, e = .returned (.tuple #[.agg #[v], .int .i64 (getE t)]) ∧ (getS t).Sep w' v fp ∧ fp.Nodup ∧ (∀ b ∈ fp, w.heap.size ≤ b ∧ b < w'.heap.size) ∧ Below w.heap.size w w'
theorem Gets.no {t : List UInt8} {w w' : World} {i : Int} (h : getE t = i) (hi : i ≠ 0) (hb : Below w.heap.size w w') : Gets t w (.returned (.tuple #[.agg #[.slice none 0 0], .int .i64 i])) w' := by
  refine ⟨_, [], by rw [h], ?_, by simp, by simp, hb⟩
  rw [getS, if_neg (by rw [h]; exact hi)]
  exact sep_nil' _
theorem Gets.yes {t : List UInt8} {s : S} {w w' : World} {v : Value} {fp : List Nat} (hl : ¬ 65536 < t.length) (h : whole t = some s) (hok : s.ok = true) (h1 : s.Sep w' v fp) (h2 : fp.Nodup) (h3 : ∀ b ∈ fp, w.heap.size ≤ b ∧ b < w'.heap.size)
    (hb : Below w.heap.size w w') : Gets t w (.returned (.tuple #[.agg #[v], .int .i64 0])) w' := by
  have hE : getE t = 0 := by simp [getE, hl, h, hok, errOf]
  refine ⟨v, fp, by rw [hE], ?_, h2, h3, hb⟩
  rw [getS, if_pos hE, h]
  exact h1

theorem get_results {tmps : Array Value} {w : World} {a : Nat} {x y : Value} (h2 : tmps.getD 2 undef = .pointer (some ⟨a, 0, none⟩)) (h3 : tmps.getD 3 undef = y)
    (ha : Blk w a 24 #[x]) : (results Try.f26 tmps).run Try.prog w = .ok (.tuple #[.agg #[x], y]) w := by
  have h4 := ha.cell 0
  simp at h4
  have h2' : tmps[2]?.getD undef = .pointer (some ⟨a, 0, none⟩) := by simpa using h2
  have h3' : tmps[3]?.getD undef = y := by simpa using h3
  simp [results, Try.results26, go_sem, h2', h3', h4]
theorem scanGet_results {tmps : Array Value} {w : World} {a : Nat} {x y : Value} (h2 : tmps.getD 6 undef = .pointer (some ⟨a, 0, none⟩)) (h3 : tmps.getD 7 undef = y)
    (ha : Blk w a 24 #[x]) : (results Try.f47 tmps).run Try.prog w = .ok (.tuple #[.agg #[x], y]) w := by
  have h4 := ha.cell 0
  simp at h4
  have h2' : tmps[6]?.getD undef = .pointer (some ⟨a, 0, none⟩) := by simpa using h2
  have h3' : tmps[7]?.getD undef = y := by simpa using h3
  simp [results, Try.results47, go_sem, h2', h3', h4]
theorem refGet_results {tmps : Array Value} {w : World} {a : Nat} {x y : Value} (h2 : tmps.getD 2 undef = .pointer (some ⟨a, 0, none⟩)) (h3 : tmps.getD 3 undef = y)
    (ha : Blk w a 24 #[x]) : (results Try.f27 tmps).run Try.prog w = .ok (.tuple #[.agg #[x], y]) w := by
  have h4 := ha.cell 0
  simp at h4
  have h2' : tmps[2]?.getD undef = .pointer (some ⟨a, 0, none⟩) := by simpa using h2
  have h3' : tmps[3]?.getD undef = y := by simpa using h3
  simp [results, Try.results27, go_sem, h2', h3', h4]

/-- The arguments of scan.Get. -/
def scanArgs (t : List UInt8) : Array Value := #[.string ⟨t.toArray⟩, .func (.func 48) #[] #[], .func (.func 15) #[] #[]]

set_option maxHeartbeats 1600000 in
theorem scanGet_any (t : List UInt8) (w : World) (hm : t.length ≤ 9223372036854775807) : Calls Try.prog 47 (scanArgs t) w (Gets t w) := by
  unfold scanArgs
  have hw0 : Below w.heap.size w ((w.alloc (.cells #[.slice none 0 0] 24)).alloc (.cells #[.slice none 0 0] 24)) := ((Below.refl _ _).alloc (Nat.le_refl _) _).alloc (by simp) _
  have hr0 : Blk ((w.alloc (.cells #[.slice none 0 0] 24)).alloc (.cells #[.slice none 0 0] 24)) w.heap.size 24 #[.slice none 0 0] := (Blk.new _ _ _).alloc _
  have hn0 : Blk ((w.alloc (.cells #[.slice none 0 0] 24)).alloc (.cells #[.slice none 0 0] 24)) (w.heap.size + 1) 24 #[.slice none 0 0] := by
    have := Blk.new (w.alloc (.cells #[.slice none 0 0] 24)) 24 #[.slice none 0 0]
    simpa using this
  by_cases hl : 65536 < t.length
  · have HE : Hid (getE t = 3) := Lib.hid (by simp [getE, hl])
    have c1 := hr0.cell 0
    have f1 := hr0.frozen 0
    have c2 := hn0.cell 0
    go_enter Try.func47, Try.ntmps47
    go_wp2_with fail
    refine bodyPost_ret (scanGet_results (y := .int .i64 3) rfl rfl hr0) rfl ?_
    exact Gets.no HE.out (by decide) hw0
  · have HR := Lib.hid (read_any t ((w.alloc (.cells #[.slice none 0 0] 24)).alloc (.cells #[.slice none 0 0] 24)) (by omega))
    by_cases hp : ∃ s, parse [] t = some (s, [])
    · obtain ⟨s, hp⟩ := hp
      have HQ : Hid (∀ W e w', ReadPost t W e w' → ∃ v fp, e = .returned (.tuple #[.agg #[v], .bool true]) ∧ s.Sep w' v fp ∧ fp.Nodup ∧ (∀ k ∈ fp, W.heap.size ≤ k ∧ k < w'.heap.size) ∧ Below W.heap.size W w') := Lib.hid (fun W e w' h => by rw [ReadPost, hp] at h; exact h)
      have hwh : whole t = some s := by simp [whole, hp]
      have HC := Lib.hid (fun v W lo hi => check_any s v W lo hi)
      cases hok : s.ok with
      | true =>
        have HW := Lib.hid hwh
        have HOK := Lib.hid hok
        have HL := Lib.hid hl
        rw [hok] at HC
        clear hp hok hwh
        go_enter Try.func47, Try.ntmps47
        go_wp2_with fail
        refine HR.out.mono ?_
        intro e w1 h1
        obtain ⟨v, fp, rfl, g1, g2, g3, b1⟩ := HQ.out _ _ _ h1
        obtain ⟨A, n, c, rfl⟩ := g1.form
        simp only [World.size_alloc] at b1 g3
        have r1 := (hr0.below b1 (by omega)).alloc (.cells #[.slice A n c] 24)
        have x1 := Blk.new w1 24 #[.slice A n c]
        have z1 := b1.size
        simp only [World.size_alloc] at z1
        have hwx := below_new' w1 (.cells #[.slice A n c] 24)
        have g4 := g1.keep (w' := w1.alloc (.cells #[.slice A n c] 24)) _ (fun k hk => Below.heap_alloc _ _ _ (g3 k hk).2)
        have i4 := g4.in_ (lo := 0) (hi := w1.heap.size) _ (fun k hk => ⟨Nat.zero_le _, (g3 k hk).2⟩)
        have HD := Lib.hid (HC.out _ _ _ _ i4 (by simp))
        rw [show errOf true = 0 from rfl] at HD
        have cx1 := x1.cell 0
        go_wp2_with fail
        refine HD.out.mono ?_
        rintro e w2 ⟨rfl, b2⟩
        have r2 := r1.below b2 (by simp; omega)
        have x2 := x1.below b2 (by simp)
        have c2 := x2.cell 0
        have c3 := r2.cell 0
        have f3 := r2.frozen 0
        have z2 := b2.size
        simp only [World.size_alloc] at b2 z2
        go_wp2_with fail
        refine bodyPost_ret (scanGet_results (y := .int .i64 0) rfl rfl (r2.set_ 0 _)) rfl ?_
        refine Gets.yes (fp := fp) HL.out HW.out HOK.out (g4.keep _ fun k hk => ?_) g2 (fun k hk => ?_) ((((hw0.trans (b1.mono (by omega))).trans (hwx.mono (by omega))).trans (b2.mono (by omega))).setCell (p := ⟨w.heap.size, 0, none⟩) (Nat.le_refl _) _)
        · have := g3 k hk
          rw [Below.heap_setCell _ _ _ _ (by show k ≠ w.heap.size; omega)]
          exact b2.block k (by omega)
        · have := g3 k hk
          simp [World.setCell]
          omega
      | false =>
        have HE : Hid (getE t = 6) := Lib.hid (by simp [getE, hl, hwh, hok, errOf])
        rw [hok] at HC
        clear hp hok hwh
        go_enter Try.func47, Try.ntmps47
        go_wp2_with fail
        refine HR.out.mono ?_
        intro e w1 h1
        obtain ⟨v, fp, rfl, g1, g2, g3, b1⟩ := HQ.out _ _ _ h1
        obtain ⟨A, n, c, rfl⟩ := g1.form
        simp only [World.size_alloc] at b1 g3
        have r1 := (hr0.below b1 (by omega)).alloc (.cells #[.slice A n c] 24)
        have n1 := (hn0.below b1 (by omega)).alloc (.cells #[.slice A n c] 24)
        have z1 := b1.size
        simp only [World.size_alloc] at z1
        have hwx := below_new' w1 (.cells #[.slice A n c] 24)
        have g4 := g1.keep (w' := w1.alloc (.cells #[.slice A n c] 24)) _ (fun k hk => Below.heap_alloc _ _ _ (g3 k hk).2)
        have i4 := g4.in_ (lo := 0) (hi := w1.heap.size) _ (fun k hk => ⟨Nat.zero_le _, (g3 k hk).2⟩)
        have HD := Lib.hid (HC.out _ _ _ _ i4 (by simp))
        rw [show errOf false = 6 from rfl] at HD
        have cx1 := (Blk.new w1 24 #[.slice A n c]).cell 0
        go_wp2_with fail
        refine HD.out.mono ?_
        rintro e w2 ⟨rfl, b2⟩
        have r2 := r1.below b2 (by simp; omega)
        have n2 := n1.below b2 (by simp; omega)
        have c3 := r2.cell 0
        have f3 := r2.frozen 0
        have c4 := n2.cell 0
        have z2 := b2.size
        simp only [World.size_alloc] at b2 z2
        go_wp2_with fail
        refine bodyPost_ret (scanGet_results (y := .int .i64 6) rfl rfl (r2.set_ 0 _)) rfl ?_
        exact Gets.no HE.out (by decide) ((((hw0.trans (b1.mono (by omega))).trans (hwx.mono (by omega))).trans (b2.mono (by omega))).setCell (p := ⟨w.heap.size, 0, none⟩) (Nat.le_refl _) _)
    · have HQ : Hid (∀ W e w', ReadPost t W e w' → e = .returned (.tuple #[.agg #[.slice none 0 0], .bool false]) ∧ Below W.heap.size W w') := Lib.hid (fun W e w' h => by
        rw [ReadPost] at h
        split at h
        · rename_i s h1; exact absurd ⟨s, h1⟩ hp
        · exact h)
      have HE : Hid (getE t = 4) := Lib.hid (by
        have hwh : whole t = none := by
          rw [whole]
          split
          · rename_i s h1; exact absurd ⟨s, h1⟩ hp
          · rfl
        simp [getE, hl, hwh])
      clear hp
      go_enter Try.func47, Try.ntmps47
      go_wp2_with fail
      refine HR.out.mono ?_
      intro e w1 h1
      obtain ⟨rfl, b1⟩ := HQ.out _ _ _ h1
      simp only [World.size_alloc] at b1
      have r1 := (hr0.below b1 (by omega)).alloc (.cells #[.slice none 0 0] 24)
      have n1 := (hn0.below b1 (by omega)).alloc (.cells #[.slice none 0 0] 24)
      have c1 := r1.cell 0
      have f1 := r1.frozen 0
      have c2 := n1.cell 0
      have z1 := b1.size
      simp only [World.size_alloc] at z1
      go_wp2_with fail
      refine bodyPost_ret (scanGet_results (x := .slice none 0 0) (y := .int .i64 4) rfl rfl (r1.set_ 0 _)) rfl ?_
      exact Gets.no HE.out (by decide) (((hw0.trans (b1.mono (by omega))).alloc (by omega) _).setCell (p := ⟨w.heap.size, 0, none⟩) (Nat.le_refl _) _)

theorem Gets.form {t : List UInt8} {w w' : World} {e : Ending} (h : Gets t w e w') : ∃ A n c fp, e = .returned (.tuple #[.agg #[.slice A n c], .int .i64 (getE t)]) ∧ (getS t).Sep w' (.slice A n c) fp ∧ fp.Nodup ∧ (∀ b ∈ fp, w.heap.size ≤ b ∧ b < w'.heap.size) ∧ Below w.heap.size w w' := by
  obtain ⟨v, fp, h1, h2, h3, h4, h5⟩ := h
  obtain ⟨A, n, c, rfl⟩ := h2.form
  exact ⟨A, n, c, fp, h1, h2, h3, h4, h5⟩

set_option maxHeartbeats 800000 in
theorem get_any (t : List UInt8) (w : World) (hm : t.length ≤ 9223372036854775807) : Calls Try.prog 26 #[.string ⟨t.toArray⟩] w (Gets t w) := by
  have hw0 := below_new' w (.cells #[.slice none 0 0] 24)
  have hr0 := Blk.new w 24 #[.slice none 0 0]
  have HG := Lib.hid (scanGet_any t (w.alloc (.cells #[.slice none 0 0] 24)) hm)
  have HF : Hid (∀ e w', Gets t (w.alloc (.cells #[.slice none 0 0] 24)) e w' → _) := Lib.hid (fun e w' h => h.form)
  unfold scanArgs at HG
  go_enter Try.func26, Try.ntmps26
  go_wp2_with fail
  refine HG.out.mono ?_
  intro e w1 h1
  obtain ⟨A, n, c, fp, rfl, g1, g2, g3, b1⟩ := HF.out _ _ h1
  simp only [World.size_alloc] at b1 g3
  have z1 := b1.size
  simp only [World.size_alloc] at z1
  have r1 := hr0.below b1 (by omega)
  have c1 := r1.cell 0
  have f1 := r1.frozen 0
  go_wp2_with fail
  refine bodyPost_ret (get_results rfl rfl (r1.set_ 0 _)) rfl ?_
  refine ⟨.slice A n c, fp, rfl, g1.keep _ (fun k hk => ?_), g2, (fun k hk => ?_), (hw0.trans (b1.mono (by omega))).setCell (p := ⟨w.heap.size, 0, none⟩) (Nat.le_refl _) _⟩
  · have := g3 k hk
    exact Below.heap_setCell _ _ _ _ (by show k ≠ w.heap.size; omega)
  · have := g3 k hk
    simp [World.setCell]
    omega
end Go.Proofs.Ytbifnkjfjndjjaa
