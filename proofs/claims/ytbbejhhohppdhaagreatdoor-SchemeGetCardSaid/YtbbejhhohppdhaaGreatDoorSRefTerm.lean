/-
  The reference's reading of terms: parseTerm.
-/
import Derived.Test.YtbbejhhohppdhaaGreatDoorSRefHead
import Derived.Test.YtbbejhhohppdhaaGreatDoorGH
import Derived.Test.YtbbejhhohppdhaaGreatDoorGC
namespace Go.Proofs.YtbbejhhohppdhaaGreatDoor
open Go.RowKit

abbrev Sc.fs (s : Sc) : List UInt8 → Option Nat := firstAt 0 (s.syms.map nm)
abbrev Sc.gs (s : Sc) : List UInt8 → Option Nat := firstAt 0 (s.funs.map fnm)
def T.snoc (y z : T) : T := .mk y.kind y.num (y.args ++ [z])
/-- What parseTerm leaves. -/
def TermPost3 (s : Sc) (t : List UInt8) (a : Nat) (w : World) (e : Ending) (w' : World) : Prop :=
  ∃ (y : T) (v : Value) (us : List Value) (nx : Nat) (ok : Bool), e = .returned (.tuple #[.agg #[.int .i64 y.kind, .int .i64 y.num, v], .int .i64 (nx : Int), .bool ok]) ∧ nx ≤ 2 * t.length + 5 - a ∧
    (match termP s.fs s.gs (t.drop a) with | some (x, r) => ok = true ∧ x = y ∧ nx ≤ t.length ∧ t.drop nx = r | none => ok = false) ∧ Mk w.heap.size w' y.args v us ∧ Below w.heap.size w w'
/-- What is known of the text behind m. -/
def TermSt (s : Sc) (t : List UInt8) (a : Nat) (y : T) (m : Nat) (ok : Bool) : Prop :=
  y.args.length ≤ (if ok = true then m else t.length + 2) ∧ m ≤ 2 * t.length + 5 - a ∧ if ok = true then m ≤ t.length ∧ termP s.fs s.gs (t.drop a) = (match argsP s.fs s.gs y.args (t.drop m) with | some (l, z) => some (.mk y.kind y.num l, z) | none => none) else termP s.fs s.gs (t.drop a) = none
theorem termSt_start {s : Sc} {t : List UInt8} {a nx : Nat} {k n : Int} {ok : Bool} (ha : a ≤ t.length) (hnx : nx ≤ t.length) (h : match headP s.fs s.gs (t.drop a) with | some (h, r) => ok = true ∧ h = (k, n) ∧ t.drop nx = r | none => ok = false) : TermSt s t a (.mk k n []) nx ok := by
  refine ⟨by simp [T.args], by omega, ?_⟩
  cases hh : headP s.fs s.gs (t.drop a) with
  | none =>
    rw [hh] at h
    simp only at h
    subst h
    rw [if_neg (by simp), termP_eq, hh]
  | some y =>
    obtain ⟨y, r⟩ := y
    rw [hh] at h
    obtain ⟨rfl, rfl, h3⟩ := h
    rw [if_pos rfl, termP_eq, hh]
    subst h3
    exact ⟨hnx, rfl⟩
theorem argP_open {f g : List UInt8 → Option Nat} {t r : List UInt8} (h : strip [40] t = some r) : argP f g t = match termP f g r with | some (x, q) => if x.args.isEmpty then none else (match strip [41] q with | some z => some (x, z) | none => none) | none => none := by
  simp only [argP_eq, h]
  cases termP f g r <;> rfl
theorem argP_head {f g : List UInt8 → Option Nat} {t : List UInt8} (h : strip [40] t = none) : argP f g t = match headP f g t with | some (h, q) => some (.mk h.1 h.2 [], q) | none => none := by
  simp only [argP_eq, h]
  cases headP f g t <;> rfl
/-- One more argument has been read, or none. -/
theorem TermSt.more {s : Sc} {t : List UInt8} {a m nx : Nat} {y z : T} {ok : Bool} (h : TermSt s t a y m true) {r : List UInt8} (hs : strip [32] (t.drop m) = some r) (hnx : nx ≤ 2 * t.length + 5 - a) (hlt : ok = true → m < nx) (ho : ok = true → nx ≤ t.length)
    (hz : match argP s.fs s.gs r with | some (x, q) => ok = true ∧ x = z ∧ t.drop nx = q | none => ok = false) : TermSt s t a (y.snoc z) nx ok := by
  obtain ⟨h1, h2, h3⟩ := h
  rw [if_pos rfl] at h3
  refine ⟨?_, hnx, ?_⟩
  · rw [if_pos rfl] at h1
    have h4 := h3.1
    have h5 : (y.snoc z).args.length = y.args.length + 1 := by simp [T.snoc, T.args]
    rw [h5]
    split
    · have := hlt (by assumption); omega
    · omega
  rw [argsP_eq, hs] at h3
  simp only at h3
  cases hx : argP s.fs s.gs r with
  | none =>
    rw [hx] at hz h3
    simp only at hz h3
    subst hz
    rw [if_neg (by simp)]
    exact h3.2
  | some x =>
    obtain ⟨x, q⟩ := x
    rw [hx] at hz h3
    obtain ⟨rfl, rfl, rfl⟩ := hz
    rw [if_pos rfl]
    exact ⟨ho rfl, h3.2⟩
/-- No argument is ahead. -/
theorem TermSt.stop {s : Sc} {t : List UInt8} {a m : Nat} {y : T} (h : TermSt s t a y m true) (hs : strip [32] (t.drop m) = none) : m ≤ t.length ∧ termP s.fs s.gs (t.drop a) = some (y, t.drop m) := by
  obtain ⟨_, _, h3⟩ := h
  rw [if_pos rfl, argsP_eq, hs] at h3
  obtain ⟨k, n, l⟩ := y
  exact h3
theorem TermSt.bad {s : Sc} {t : List UInt8} {a m : Nat} {y : T} (h : TermSt s t a y m false) : termP s.fs s.gs (t.drop a) = none := by
  obtain ⟨_, _, h3⟩ := h
  rw [if_neg (by simp)] at h3
  exact h3

theorem arg_head {s : Sc} {t r : List UInt8} {k n : Int} {nx : Nat} {ok : Bool} (h : strip [40] r = none) (hh : match headP s.fs s.gs r with | some (h, q) => ok = true ∧ h = (k, n) ∧ t.drop nx = q | none => ok = false) :
    match argP s.fs s.gs r with | some (x, q) => ok = true ∧ x = .mk k n [] ∧ t.drop nx = q | none => ok = false := by
  rw [argP_head h]
  cases hx : headP s.fs s.gs r with
  | none => rw [hx] at hh; exact hh
  | some y =>
    obtain ⟨y, q⟩ := y
    rw [hx] at hh
    obtain ⟨h1, rfl, h3⟩ := hh
    exact ⟨h1, rfl, h3⟩
theorem head_gt {s : Sc} {t r : List UInt8} {k n : Int} {m nx : Nat} {ok : Bool} (hr : t.drop (m + 1) = r) (hh : match headP s.fs s.gs r with | some (h, q) => ok = true ∧ h = (k, n) ∧ t.drop nx = q | none => ok = false) (ho : ok = true) : m < nx := by
  cases hx : headP s.fs s.gs r with
  | none => rw [hx] at hh; simp only at hh; rw [hh] at ho; cases ho
  | some y =>
    obtain ⟨y, q⟩ := y
    rw [hx] at hh
    have h1 := headP_le hx
    rw [← hr, ← hh.2.2, List.length_drop, List.length_drop] at h1
    omega
theorem arg_open {s : Sc} {t r r2 : List UInt8} {z : T} {nx : Nat} {ok : Bool} (h : strip [40] r = some r2) (hh : match termP s.fs s.gs r2 with | some (x, q) => ok = true ∧ x = z ∧ nx ≤ t.length ∧ t.drop nx = q | none => ok = false) :
    match argP s.fs s.gs r with | some (x, q) => (ok && (decide (0 < z.args.length) && (strip [41] (t.drop nx)).isSome)) = true ∧ x = z ∧ t.drop (nx + 1) = q | none => (ok && (decide (0 < z.args.length) && (strip [41] (t.drop nx)).isSome)) = false := by
  rw [argP_open h]
  cases hx : termP s.fs s.gs r2 with
  | none => rw [hx] at hh; simp only at hh; rw [hh]; rfl
  | some y =>
    obtain ⟨y, q⟩ := y
    rw [hx] at hh
    obtain ⟨h1, rfl, h2, h3⟩ := hh
    subst h1 h3
    by_cases hl : y.args.isEmpty = true
    · have hl0 : y.args = [] := List.isEmpty_iff.1 hl
      simp only [if_pos hl]
      simp [hl0]
    · have hl1 : 0 < y.args.length := by
        rw [Nat.pos_iff_ne_zero]
        intro e
        exact hl (List.isEmpty_iff.2 (List.eq_nil_of_length_eq_zero e))
      simp only [if_neg hl]
      cases h4 : strip [41] (t.drop nx) with
      | none => simp
      | some q2 =>
        have := (strip_drop (by decide) h4).1
        simp only [List.length_singleton] at this
        exact ⟨by simp [hl1], rfl, this⟩
theorem term_gt {s : Sc} {t r2 : List UInt8} {z : T} {m nx : Nat} {ok : Bool} (hr : t.drop (m + 2) = r2) (hh : match termP s.fs s.gs r2 with | some (x, q) => ok = true ∧ x = z ∧ nx ≤ t.length ∧ t.drop nx = q | none => ok = false) (ho : ok = true) : m < nx ∧ nx ≤ t.length := by
  cases hx : termP s.fs s.gs r2 with
  | none => rw [hx] at hh; simp only at hh; rw [hh] at ho; cases ho
  | some y =>
    obtain ⟨y, q⟩ := y
    rw [hx] at hh
    have h1 := termP_le hx
    rw [← hr, ← hh.2.2.2, List.length_drop, List.length_drop] at h1
    exact ⟨by omega, hh.2.2.1⟩
def okB : Value → Nat
  | .bool true => 1
  | _ => 0
/-- What the loop of parseTerm holds. -/
structure RoundP (s : Sc) (v0 v1 : Value) (hi B tb : Nat) (y : T) (v : Value) (us : List Value) (w0 w : World) : Prop where
  kp : ScKept s v0 v1 hi B w0 w
  res : Blk w (B + 1) 34 #[.int .i64 0, .int .i64 0, .slice none 0 0]
  out : Blk w tb 34 #[.int .i64 y.kind, .int .i64 y.num, v]
  lst : Mk (tb + 1) w y.args v us
  ge : B + 2 ≤ tb
theorem RoundP.step {s : Sc} {v0 v1 : Value} {hi B tb : Nat} {y z : T} {v u : Value} {us us2 : List Value} {w0 wr w2 w3 : World} {o o1 : Obj} {gg cap : Nat} (hr : RoundP s v0 v1 hi B tb y v us w0 wr)
    (hm : Mk (wr.heap.size + 1) w2 z.args u us2) (hb2 : Below (wr.heap.size + 1) (wr.alloc o) w2)
    (hown3 : w3.ownsRow (tb + 1) 34 3 (.slice (some ⟨gg, 0, none⟩) (y.args.length + 1) cap) (y.args.length + 1) (us ++ [.int .i64 z.kind, .int .i64 z.num, u]))
    (hgrow : (((((w2.setCell ⟨wr.heap.size, 0, none⟩ (.int .i64 z.kind)).setCell ⟨wr.heap.size, 1, none⟩ (.int .i64 z.num)).setCell ⟨wr.heap.size, 2, none⟩ u)).alloc o1).grownBy w3 v.ownBlock)
    (hat : v.ownBlock = some gg ∨ gg = w2.heap.size + 1) :
    RoundP s v0 v1 hi B tb (y.snoc z) (.slice (some ⟨gg, 0, none⟩) (y.args.length + 1) cap) (us ++ [.int .i64 z.kind, .int .i64 z.num, u]) w0 (w3.setCell ⟨tb, 2, none⟩ (.slice (some ⟨gg, 0, none⟩) (y.args.length + 1) cap)) := by
  have htb := hr.out.lt
  have hge := hr.ge
  have hz2 : wr.heap.size + 1 ≤ w2.heap.size := by have := hb2.size; simpa using this
  have hv : ∀ b, v.ownBlock = some b → tb + 1 ≤ b ∧ b < wr.heap.size := fun b hb => hr.lst.lt hb
  obtain ⟨w1, hw1⟩ : ∃ w1, ((w2.setCell ⟨wr.heap.size, 0, none⟩ (.int .i64 z.kind)).setCell ⟨wr.heap.size, 1, none⟩ (.int .i64 z.num)).setCell ⟨wr.heap.size, 2, none⟩ u = w1 := ⟨_, rfl⟩
  have hs1 : w1.heap.size = w2.heap.size := by rw [← hw1]; simp [World.setCell]
  have hk21 : ∀ b, b ≠ wr.heap.size → w1.heap[b]? = w2.heap[b]? := fun b hb => by
    rw [← hw1, Below.heap_setCell _ _ _ _ hb, Below.heap_setCell _ _ _ _ hb, Below.heap_setCell _ _ _ _ hb]
  have hb1 : Below wr.heap.size wr w1 := by
    rw [← hw1]
    exact (((((Below.refl _ _).alloc (Nat.le_refl _) o).trans (hb2.mono (Nat.le_succ _))).setCell (Nat.le_refl _) _).setCell (Nat.le_refl _) _).setCell (Nat.le_refl _) _
  rw [hw1] at hgrow
  have hz3 := hgrow.size
  simp only [World.size_alloc] at hz3
  have hk : ∀ b, b < wr.heap.size → w1.heap[b]? = wr.heap[b]? := fun b hb => hb1.block b hb
  have hk3 : ∀ b, b < wr.heap.size → v.ownBlock ≠ some b → w3.heap[b]? = wr.heap[b]? := fun b hb hne => by
    rw [hgrow.block b (by simp; omega) (fun e => hne e.symm), Below.heap_alloc _ _ _ (by omega), hk b hb]
  have hb3 : Below (tb + 1) wr w3 := ((hb1.mono (by omega)).alloc (by omega) o1).grown hgrow (by simp; omega) (fun b hb => (hv b hb).1)
  have hb4 : Below tb wr (w3.setCell ⟨tb, 2, none⟩ (.slice (some ⟨gg, 0, none⟩) (y.args.length + 1) cap)) := (hb3.mono (Nat.le_succ _)).setCell (Nat.le_refl _) _
  refine ⟨⟨hr.kp.b.below hb4 (by omega), hr.kp.i.below hb4 (by have := hr.kp.hi; omega), hr.kp.hi, hr.kp.bel.trans (hb4.mono (by omega))⟩, hr.res.below hb4 (by omega), ?_, ?_, hge⟩
  · have h1 : Blk w3 tb 34 #[.int .i64 y.kind, .int .i64 y.num, v] := (hk3 _ htb (fun e => by have := (hv _ e).1; omega)).trans hr.out
    exact h1.set_ 2 _
  · refine Mk.set ?_ (by show tb < tb + 1; omega) _
    refine hr.lst.push (w1 := w1) (by omega) hk (by omega) ?_ hown3 hgrow (by rw [hs1]; exact hat)
    have hy1 := T.NIn.keep (w' := w1) (fun b hb => hk21 b (by omega)) z hm.nterm
    exact hy1.more (fun b hb => by omega) _

theorem term3_results {tmps : Array Value} {w : World} {b : Nat} {x y z u v : Value} (h2 : tmps.getD 6 undef = .pointer (some ⟨b, 0, none⟩)) (h3 : tmps.getD 7 undef = u) (h4 : tmps.getD 8 undef = v)
    (ha : Blk w b 34 #[x, y, z]) : (results Tryz.f36 tmps).run Tryz.prog w = .ok (.tuple #[.agg #[x, y, z], u, v]) w := by
  have h5 := ha.cell 0
  have h6 := ha.cell 1
  have h7 := ha.cell 2
  simp at h5 h6 h7
  have h2' : tmps[6]?.getD undef = .pointer (some ⟨b, 0, none⟩) := by simpa using h2
  have h3' : tmps[7]?.getD undef = u := by simpa using h3
  have h4' : tmps[8]?.getD undef = v := by simpa using h4
  simp [results, Tryz.results36, go_sem, h2', h3', h4', h5, h6, h7]

set_option maxRecDepth 100000 in
set_option maxHeartbeats 6400000 in
theorem parseTerm3_any (s : Sc) (v0 v1 : Value) (t : List UInt8) (hnm : s.named) (ht : t.length ≤ 65536) (N : Nat) : ∀ (a : Nat) (w : World) (hi : Nat), t.length - a < N → ScIn w hi s v0 v1 → hi ≤ w.heap.size → a ≤ t.length →
    Calls Tryz.prog 36 #[.agg #[v0, v1], .string ⟨t.toArray⟩, .int .i64 (a : Int)] w (TermPost3 s t a w) := by
  induction N with
  | zero => intro a w hi h; omega
  | succ N ih =>
    intro a w hi hN hin hhi ha
    have k0 := ScKept.start hin hhi
    obtain ⟨⟨A0, n0, c0, rfl⟩, ⟨A1, n1, c1, rfl⟩⟩ := hin.form
    obtain ⟨i0, hi0, hz0, hz1, hz2⟩ := info_parts term_info
    have HZ1 := Lib.hid hz1
    have HZ2 := Lib.hid hz2
    clear hz1 hz2
    have hbel := ((Below.refl w.heap.size w).alloc (Nat.le_refl _) (.cells #[.slice A0 n0 c0, .slice A1 n1 c1] 25)).alloc (by simp) (.cells #[.int .i64 0, .int .i64 0, .slice none 0 0] 34)
    have hR0 : Blk ((w.alloc (.cells #[.slice A0 n0 c0, .slice A1 n1 c1] 25)).alloc (.cells #[.int .i64 0, .int .i64 0, .slice none 0 0] 34)) (w.heap.size + 1) 34 #[.int .i64 0, .int .i64 0, .slice none 0 0] := by
      have := Blk.new (w.alloc (.cells #[.slice A0 n0 c0, .slice A1 n1 c1] 25)) 34 #[.int .i64 0, .int .i64 0, .slice none 0 0]
      simpa using this
    have k1 := k0.next ((Below.refl _ _).alloc (Nat.le_refl _) (.cells #[.int .i64 0, .int .i64 0, .slice none 0 0] 34))
    have d0 := k1.b.cell 0
    have d1 := k1.b.cell 1
    simp at d0 d1
    have HH := Lib.hid (fun W (k : ScKept s (.slice A0 n0 c0) (.slice A1 n1 c1) hi w.heap.size w W) (b : Nat) (I : Int) (hb : b ≤ t.length) (hI : I = (b : Int)) => (by subst hI; exact parseHead3_any s _ _ t b W hi k.i (by have := k.bel.size; have := k.hi; omega) hnm hb ht : Calls Tryz.prog 76 #[.agg #[.slice A0 n0 c0, .slice A1 n1 c1], .string ⟨t.toArray⟩, .int .i64 I] W (HeadPost3 s t b W)))
    have HT := Lib.hid (fun W (k : ScKept s (.slice A0 n0 c0) (.slice A1 n1 c1) hi w.heap.size w W) (b : Nat) (I : Int) (hb : b ≤ t.length) (hba : a < b) (hI : I = (b : Int)) => (by subst hI; exact ih b W hi (by omega) k.i (by have := k.bel.size; have := k.hi; omega) hb : Calls Tryz.prog 36 #[.agg #[.slice A0 n0 c0, .slice A1 n1 c1], .string ⟨t.toArray⟩, .int .i64 I] W (TermPost3 s t b W)))
    have HB := Lib.hid (fun W (b : Nat) (I : Int) (p : List UInt8) (hb : b ≤ t.length + 1) (hp : 1 ≤ p.length ∧ p.length ≤ 10) (hI : I = (b : Int)) => (by subst hI; exact begins3_any t p b W hb ht hp : Calls Tryz.prog 37 #[.string ⟨t.toArray⟩, .int .i64 I, .string ⟨p.toArray⟩] W fun e w' => e = .returned (.bool (strip p (t.drop b)).isSome) ∧ W = w'))
    have HK1 := Lib.hid k1
    have HR0 := Lib.hid hR0
    clear ih
    go_enter Tryz.func36, Tryz.ntmps36
    go_wp2_with fail
    refine (HH.out _ HK1.out a _ ha (by first | rfl | simp)).mono ?_
    rintro e w1 ⟨k, n, nx, ok, rfl, hnx, hst, hb1⟩
    have hst1 := termSt_start ha hnx hst
    have k2 := HK1.out.next hb1
    have hr2 := HR0.out.below hb1 (by simp)
    have hz1' : w.heap.size + 2 ≤ w1.heap.size := by have := hb1.size; simpa using this
    have hst2 := Lib.hid hst1
    have hRP : Hid (RoundP s (.slice A0 n0 c0) (.slice A1 n1 c1) hi w.heap.size w1.heap.size (.mk k n []) (.slice none 0 0) [] w (w1.alloc (.cells #[.int .i64 k, .int .i64 n, .slice none 0 0] 34))) :=
      Lib.hid ⟨k2.next ((Below.refl _ _).alloc (Nat.le_refl _) _), hr2.alloc _, Blk.new _ _ _, Mk.nil _ _, hz1'⟩
    have HNX := Lib.hid (show a ≤ t.length by omega)
    have hmax : Hid (a ≤ nx ∨ ok = false) := Lib.hid (by
      cases hh : headP s.fs s.gs (t.drop a) with
      | none => rw [hh] at hst; exact .inr hst
      | some y =>
        obtain ⟨y, r⟩ := y
        rw [hh] at hst
        have h1 := headP_le hh
        rw [← hst.2.2, List.length_drop, List.length_drop] at h1
        left; omega)
    clear hst hst1 k2 hr2 k1 k0 hbel hR0 d0 d1
    go_wp2_with fail
    go_loopw [2, 10] (fun i o wr => ∃ (m : Nat) (ok : Bool) (y : T) (v : Value) (us : List Value), i = .int .i64 (m : Int) ∧ o = .bool ok ∧ (a ≤ m ∨ ok = false) ∧ Hid (TermSt s t a y m ok) ∧ Hid (RoundP s (.slice A0 n0 c0) (.slice A1 n1 c1) hi w.heap.size w1.heap.size y v us w wr)) (fun i o _ => okB o * (t.length + 3 - (intOf i).toNat))
    case atStart => exact ⟨nx, ok, _, _, _, rfl, rfl, hmax.out, hst2, hRP⟩
    case round =>
      obtain ⟨m, ok, y, v, us, rfl, rfl, ham, hst, hrp⟩ := hrel
      have HP := hrp
      have hvl : ∀ b, v.ownBlock = some b → w1.heap.size + 1 ≤ b ∧ b < wr.heap.size := fun b hb => HP.out.lst.lt hb
      have hwr : w1.heap.size < wr.heap.size := HP.out.out.lt
      have hR9 := HP.out.res
      have hT9 := HP.out.out
      have HL9 := Lib.hid HP.out.lst
      have HBL := Lib.hid HP.out.kp.bel
      have HM1 : Hid (m ≤ 2 * t.length + 5 - a) := Lib.hid hst.out.2.1
      have HYL : Hid (y.args.length ≤ t.length + 2) := Lib.hid (by have h1 := hst.out.1; have h2 := hst.out.2.2; split at h1; (rw [if_pos (by assumption)] at h2; have := h2.1; omega); omega)
      obtain ⟨Av, cv, hv9⟩ := HP.out.lst.form
      have hml9 := HYL.out
      cases ok with
      | false =>
        have r0 := hR9.cell 0
        have r1 := hR9.cell 1
        have r2 := hR9.cell 2
        have g0 := hR9.frozen 0
        have g1 := hR9.frozen 1
        have g2 := hR9.frozen 2
        have t0 := hT9.cell 0
        have t1 := hT9.cell 1
        have t2 := hT9.cell 2
        simp at r0 r1 r2 t0 t1 t2
        have HBAD := Lib.hid hst.out.bad
        have hv8 := hv9
        clear hst hrp HP
        subst hv8
        go_wp2_with fail
        refine bodyPost_ret (term3_results rfl rfl rfl ((((hR9.set_ 0 _).set_ 1 _).set_ 2 _).eq_ rfl)) rfl ⟨y, _, us, m, false, rfl, HM1.out, by rw [HBAD.out], (((HL9.out.set (by show w.heap.size + 1 < w1.heap.size + 1; omega) _).set (by show w.heap.size + 1 < w1.heap.size + 1; omega) _).set (by show w.heap.size + 1 < w1.heap.size + 1; omega) _).less (by omega), ((HBL.out.setCell (Nat.le_succ _) _).setCell (Nat.le_succ _) _).setCell (Nat.le_succ _) _⟩
      | true =>
        have hml : m ≤ t.length := by
          have := hst.out.2.2
          rw [if_pos rfl] at this
          exact this.1
        have ham' : a ≤ m := by rcases ham with h | h; exact h; cases h
        have e0 := HP.out.kp.b.cell 0
        have e1 := HP.out.kp.b.cell 1
        simp at e0 e1
        go_wp2_with fail
        refine (HB.out _ m _ [32] (by omega) ⟨by decide, by decide⟩ (by first | rfl | simp)).mono ?_
        rintro e w5 ⟨rfl, rfl⟩
        cases hs : strip [32] (t.drop m) with
        | none =>
          have r0 := hR9.cell 0
          have r1 := hR9.cell 1
          have r2 := hR9.cell 2
          have g0 := hR9.frozen 0
          have g1 := hR9.frozen 1
          have g2 := hR9.frozen 2
          have t0 := hT9.cell 0
          have t1 := hT9.cell 1
          have t2 := hT9.cell 2
          simp at r0 r1 r2 t0 t1 t2
          have HSTOP := Lib.hid (hst.out.stop hs)
          clear hst hrp HP hs
          have hv8 := hv9
          subst hv8
          go_wp2_with fail
          refine bodyPost_ret (term3_results rfl rfl rfl ((((hR9.set_ 0 _).set_ 1 _).set_ 2 _).eq_ rfl)) rfl ⟨y, _, us, m, true, rfl, HM1.out, by rw [HSTOP.out.2]; exact ⟨rfl, rfl, HSTOP.out.1, rfl⟩, (((HL9.out.set (by show w.heap.size + 1 < w1.heap.size + 1; omega) _).set (by show w.heap.size + 1 < w1.heap.size + 1; omega) _).set (by show w.heap.size + 1 < w1.heap.size + 1; omega) _).less (by omega), ((HBL.out.setCell (Nat.le_succ _) _).setCell (Nat.le_succ _) _).setCell (Nat.le_succ _) _⟩
        | some r =>
          obtain ⟨hdr, hlr⟩ := strip_drop (by decide) hs
          simp only [List.length_singleton] at hdr hlr
          have hkx := HP.out.kp.next ((Below.refl _ _).alloc (Nat.le_refl _) (.cells #[.int .i64 0, .int .i64 0, .slice none 0 0] 34))
          have u0 := hkx.b.cell 0
          have u1 := hkx.b.cell 1
          simp at u0 u1
          have hs12 : strip [32, 40] (t.drop m) = strip [40] r := by
            have := strip_two (p := [32]) (q := [40]) (t := t.drop m)
            rw [hs] at this
            exact this
          go_wp2_with fail
          refine (HB.out _ m _ [32, 40] (by omega) ⟨by decide, by decide⟩ (by first | rfl | simp)).mono ?_
          rintro e w5 ⟨rfl, rfl⟩
          rw [hs12]
          have HST := Lib.hid (fun (z : T) (nx : Nat) (ok : Bool) hnx hlt ho hz => TermSt.more (z := z) (nx := nx) (ok := ok) hst.out hs hnx hlt ho hz)
          cases hs2 : strip [40] r with
          | none =>
            have HAP := Lib.hid hs2
            clear hs hs2 hs12 hst
            go_wp2_with fail
            refine (HH.out _ hkx (m + 1) _ hlr (by first | rfl | simp)).mono ?_
            rintro e w2 ⟨k2, n2, nx, ok2, rfl, hnx, hht, hb2⟩
            rw [hdr] at hht
            have hzz2 : wr.heap.size + 1 ≤ w2.heap.size := by have := hb2.size; simpa using this
            have hb2' : Below (wr.heap.size + 1) (wr.alloc (.cells #[.int .i64 0, .int .i64 0, .slice none 0 0] 34)) w2 := hb2.mono (by simp)
            have hx2 : Blk w2 wr.heap.size 34 #[.int .i64 0, .int .i64 0, .slice none 0 0] := (Blk.new wr _ _).below hb2' (by omega)
            have hT2 : Blk w2 w1.heap.size 34 #[.int .i64 y.kind, .int .i64 y.num, v] := (HP.out.out.alloc _).below hb2' (by omega)
            have own2 : w2.ownsRow (w1.heap.size + 1) 34 3 v y.args.length us := owns_kept3 HP.out.lst.own (fun b hb => by have := hvl b hb; rw [hb2'.block b (by omega), Below.heap_alloc _ _ _ (by omega)])
            have hTX : Blk (((w2.setCell ⟨wr.heap.size, 0, none⟩ (.int .i64 k2)).setCell ⟨wr.heap.size, 1, none⟩ (.int .i64 n2)).setCell ⟨wr.heap.size, 2, none⟩ (.slice none 0 0)) w1.heap.size 34 #[.int .i64 y.kind, .int .i64 y.num, v] := ((hT2.far (by show w1.heap.size ≠ wr.heap.size; omega) _).far (by show w1.heap.size ≠ wr.heap.size; omega) _).far (by show w1.heap.size ≠ wr.heap.size; omega) _
            have hXX : Blk (((w2.setCell ⟨wr.heap.size, 0, none⟩ (.int .i64 k2)).setCell ⟨wr.heap.size, 1, none⟩ (.int .i64 n2)).setCell ⟨wr.heap.size, 2, none⟩ (.slice none 0 0)) wr.heap.size 34 #[.int .i64 k2, .int .i64 n2, .slice none 0 0] := (((hx2.set_ 0 _).set_ 1 _).set_ 2 _).eq_ rfl
            have ownX : (((w2.setCell ⟨wr.heap.size, 0, none⟩ (.int .i64 k2)).setCell ⟨wr.heap.size, 1, none⟩ (.int .i64 n2)).setCell ⟨wr.heap.size, 2, none⟩ (.slice none 0 0)).ownsRow (w1.heap.size + 1) 34 3 v y.args.length us := owns_kept3 own2 (fun b hb => by
              have h1 : b ≠ wr.heap.size := by have := hvl b hb; omega
              rw [Below.heap_setCell _ _ _ _ h1, Below.heap_setCell _ _ _ _ h1, Below.heap_setCell _ _ _ _ h1])
            have x0 := hx2.cell 0
            have x1 := hx2.cell 1
            have x2 := hx2.cell 2
            have f0 := hx2.frozen 0
            have f1 := hx2.frozen 1
            have f2 := hx2.frozen 2
            have q2 := hTX.cell 2
            have p0 := hXX.cell 0
            have p1 := hXX.cell 1
            have p2 := hXX.cell 2
            simp at x0 x1 x2 q2 p0 p1 p2
            have HHT := Lib.hid hht
            have HV9 := Lib.hid hv9
            clear hht hT2 hXX own2 hv9
            go_wp2_with
              (at_builtin
               refine wpList_append_lies _ rfl _ _ _ rfl (w1.heap.size + 1) 34 i0 _ 3 40 Tryz.underlying32 hi0 hz0 HZ1.out HZ2.out rfl (by omega) v _ us (by rfl) (ownX.alloc _)
                 ⟨w2.heap.size, 0, none⟩ 1 1 [.int .i64 k2, .int .i64 n2, .slice none 0 0] (by rfl) (by rfl) (World.news_of_block (cs := #[.int .i64 k2, .int .i64 n2, .slice none 0 0]) (t := 34) (fr := (0, 0)) (by have := heap_alloc_new (((w2.setCell ⟨wr.heap.size, 0, none⟩ (.int .i64 k2)).setCell ⟨wr.heap.size, 1, none⟩ (.int .i64 n2)).setCell ⟨wr.heap.size, 2, none⟩ (.slice none 0 0)) (.cells #[.int .i64 k2, .int .i64 n2, .slice none 0 0] 34); simpa [World.setCell] using this)) (hones _ _ _ (by rfl)) (by omega) (by simp only [maxLen]; omega) (by omega) (by simp [World.setCell]; omega) (w2.heap.size + 1) (by simp [World.setCell]) ?_
               intro gg cap2 w3 hown3 hgrow hat3 hlt3
               have hT3 : Blk w3 w1.heap.size 34 #[.int .i64 y.kind, .int .i64 y.num, v] := (hgrow.block _ (by simp [World.setCell]; omega) (fun e => by have := hvl _ e.symm; omega)).trans (hTX.alloc _)
               have s1 := hT3.cell 2
               have s5 := hT3.frozen 2
               simp at s1)
            go_roundw
            case rel =>
              have hgt := head_gt hdr HHT.out
              exact ⟨nx, ok2, y.snoc (.mk k2 n2 []), _, us ++ [.int .i64 k2, .int .i64 n2, .slice none 0 0], rfl, rfl, (by cases ok2 with | true => (left; have := hgt rfl; omega) | false => exact .inr rfl), Lib.hid (HST.out (.mk k2 n2 []) nx ok2 (by omega) hgt (fun _ => hnx) (arg_head HAP.out HHT.out)), Lib.hid (HP.out.step (z := .mk k2 n2 []) (u := .slice none 0 0) (us2 := []) (Mk.nil _ _) hb2' hown3 hgrow hat3)⟩
            case measure =>
              have hgt := head_gt hdr HHT.out
              cases ok2 with
              | true => have := hgt rfl; simp [okB, intOf]; omega
              | false => simp [okB, intOf]; omega
          | some r2 =>
            obtain ⟨hdr2, hlr2⟩ := strip_drop (p := [32, 40]) (by decide) (hs12.trans hs2)
            have e32 : m + [32, 40].length = m + 2 := rfl
            rw [show m + ([32, 40] : List UInt8).length = m + 2 from rfl] at hdr2 hlr2
            have HS2 := Lib.hid hs2
            clear hs hs2 hs12 hst e32
            go_wp2_with fail
            refine (HT.out _ hkx (m + 2) _ hlr2 (by omega) (by first | rfl | simp)).mono ?_
            rintro e w2 ⟨z, u, us2, nx, ok2, rfl, hnx, hmt, hm2, hb2⟩
            rw [hdr2] at hmt
            obtain ⟨Az, cz, rfl⟩ := hm2.form
            have hm2' : Mk (wr.heap.size + 1) w2 z.args (.slice Az z.args.length cz) us2 := by simpa using hm2
            have HMT := Lib.hid hmt
            clear hmt hm2
            have hzz2 : wr.heap.size + 1 ≤ w2.heap.size := by have := hb2.size; simpa using this
            have hb2' : Below (wr.heap.size + 1) (wr.alloc (.cells #[.int .i64 0, .int .i64 0, .slice none 0 0] 34)) w2 := hb2.mono (by simp)
            have hx2 : Blk w2 wr.heap.size 34 #[.int .i64 0, .int .i64 0, .slice none 0 0] := (Blk.new wr _ _).below hb2' (by omega)
            have hT2 : Blk w2 w1.heap.size 34 #[.int .i64 y.kind, .int .i64 y.num, v] := (HP.out.out.alloc _).below hb2' (by omega)
            have own2 : w2.ownsRow (w1.heap.size + 1) 34 3 v y.args.length us := owns_kept3 HP.out.lst.own (fun b hb => by have := hvl b hb; rw [hb2'.block b (by omega), Below.heap_alloc _ _ _ (by omega)])
            have hTX : Blk (((w2.setCell ⟨wr.heap.size, 0, none⟩ (.int .i64 z.kind)).setCell ⟨wr.heap.size, 1, none⟩ (.int .i64 z.num)).setCell ⟨wr.heap.size, 2, none⟩ (.slice Az z.args.length cz)) w1.heap.size 34 #[.int .i64 y.kind, .int .i64 y.num, v] := ((hT2.far (by show w1.heap.size ≠ wr.heap.size; omega) _).far (by show w1.heap.size ≠ wr.heap.size; omega) _).far (by show w1.heap.size ≠ wr.heap.size; omega) _
            have hXX : Blk (((w2.setCell ⟨wr.heap.size, 0, none⟩ (.int .i64 z.kind)).setCell ⟨wr.heap.size, 1, none⟩ (.int .i64 z.num)).setCell ⟨wr.heap.size, 2, none⟩ (.slice Az z.args.length cz)) wr.heap.size 34 #[.int .i64 z.kind, .int .i64 z.num, .slice Az z.args.length cz] := (((hx2.set_ 0 _).set_ 1 _).set_ 2 _).eq_ rfl
            have ownX : (((w2.setCell ⟨wr.heap.size, 0, none⟩ (.int .i64 z.kind)).setCell ⟨wr.heap.size, 1, none⟩ (.int .i64 z.num)).setCell ⟨wr.heap.size, 2, none⟩ (.slice Az z.args.length cz)).ownsRow (w1.heap.size + 1) 34 3 v y.args.length us := owns_kept3 own2 (fun b hb => by
              have h1 : b ≠ wr.heap.size := by have := hvl b hb; omega
              rw [Below.heap_setCell _ _ _ _ h1, Below.heap_setCell _ _ _ _ h1, Below.heap_setCell _ _ _ _ h1])
            have x0 := hx2.cell 0
            have x1 := hx2.cell 1
            have x2 := hx2.cell 2
            have f0 := hx2.frozen 0
            have f1 := hx2.frozen 1
            have f2 := hx2.frozen 2
            have q2 := hTX.cell 2
            have p0 := hXX.cell 0
            have p1 := hXX.cell 1
            have p2 := hXX.cell 2
            simp at x0 x1 x2 q2 p0 p1 p2
            have HV9 := Lib.hid hv9
            clear hT2 hXX own2 hv9
            have hgt := term_gt hdr2 HMT.out
            have hopen := arg_open HS2.out HMT.out
            have HOP := Lib.hid hopen
            have HGT := Lib.hid hgt
            clear hopen hgt
            cases ok2 with
            | false =>
              go_wp2_with
                (at_builtin
                 refine wpList_append_lies _ rfl _ _ _ rfl (w1.heap.size + 1) 34 i0 _ 3 40 Tryz.underlying32 hi0 hz0 HZ1.out HZ2.out rfl (by omega) v _ us (by rfl) (ownX.alloc _)
                   ⟨w2.heap.size, 0, none⟩ 1 1 [.int .i64 z.kind, .int .i64 z.num, .slice Az z.args.length cz] (by rfl) (by rfl) (World.news_of_block (cs := #[.int .i64 z.kind, .int .i64 z.num, .slice Az z.args.length cz]) (t := 34) (fr := (0, 0)) (by have := heap_alloc_new (((w2.setCell ⟨wr.heap.size, 0, none⟩ (.int .i64 z.kind)).setCell ⟨wr.heap.size, 1, none⟩ (.int .i64 z.num)).setCell ⟨wr.heap.size, 2, none⟩ (.slice Az z.args.length cz)) (.cells #[.int .i64 z.kind, .int .i64 z.num, .slice Az z.args.length cz] 34); simpa [World.setCell] using this)) (hones _ _ _ (by rfl)) (by omega) (by simp only [maxLen]; omega) (by omega) (by simp [World.setCell]; omega) (w2.heap.size + 1) (by simp [World.setCell]) ?_
                 intro gg cap2 w3 hown3 hgrow hat3 hlt3
                 have hT3 : Blk w3 w1.heap.size 34 #[.int .i64 y.kind, .int .i64 y.num, v] := (hgrow.block _ (by simp [World.setCell]; omega) (fun e => by have := hvl _ e.symm; omega)).trans (hTX.alloc _)
                 have s1 := hT3.cell 2
                 have s5 := hT3.frozen 2
                 simp at s1)
              go_roundw
              case rel =>
                exact ⟨nx + 1, false, y.snoc z, _, us ++ [.int .i64 z.kind, .int .i64 z.num, .slice Az z.args.length cz], by go_num, rfl, .inr rfl, Lib.hid (HST.out z (nx + 1) false (by omega) (fun h => by cases h) (fun h => by cases h) HOP.out), Lib.hid (HP.out.step (z := z) hm2' hb2' hown3 hgrow hat3)⟩
              case measure => simp [okB, intOf]; omega
            | true =>
              have hnl := (HGT.out rfl).2
              have HG1 := Lib.hid (HGT.out rfl).1
              by_cases hz0 : z.args.length = 0
              · have hdec : decide (0 < z.args.length) = false := by simp [hz0]
                have hdp : ¬ 0 < z.args.length := by omega
                have hdi : decide ((0 : Int) < (z.args.length : Int)) = false := by simp [hz0]
                have HOP2 := HOP.out
                rw [hdec] at HOP2
                have HOP3 := Lib.hid HOP2
                clear HOP2 hz0
                go_wp2_with
                  (at_builtin
                   refine wpList_append_lies _ rfl _ _ _ rfl (w1.heap.size + 1) 34 i0 _ 3 40 Tryz.underlying32 hi0 hz0 HZ1.out HZ2.out rfl (by omega) v _ us (by rfl) (ownX.alloc _)
                     ⟨w2.heap.size, 0, none⟩ 1 1 [.int .i64 z.kind, .int .i64 z.num, .slice Az z.args.length cz] (by rfl) (by rfl) (World.news_of_block (cs := #[.int .i64 z.kind, .int .i64 z.num, .slice Az z.args.length cz]) (t := 34) (fr := (0, 0)) (by have := heap_alloc_new (((w2.setCell ⟨wr.heap.size, 0, none⟩ (.int .i64 z.kind)).setCell ⟨wr.heap.size, 1, none⟩ (.int .i64 z.num)).setCell ⟨wr.heap.size, 2, none⟩ (.slice Az z.args.length cz)) (.cells #[.int .i64 z.kind, .int .i64 z.num, .slice Az z.args.length cz] 34); simpa [World.setCell] using this)) (hones _ _ _ (by rfl)) (by omega) (by simp only [maxLen]; omega) (by omega) (by simp [World.setCell]; omega) (w2.heap.size + 1) (by simp [World.setCell]) ?_
                   intro gg cap2 w3 hown3 hgrow hat3 hlt3
                   have hT3 : Blk w3 w1.heap.size 34 #[.int .i64 y.kind, .int .i64 y.num, v] := (hgrow.block _ (by simp [World.setCell]; omega) (fun e => by have := hvl _ e.symm; omega)).trans (hTX.alloc _)
                   have s1 := hT3.cell 2
                   have s5 := hT3.frozen 2
                   simp at s1)
                go_roundw
                case rel =>
                  exact ⟨nx + 1, false, y.snoc z, _, us ++ [.int .i64 z.kind, .int .i64 z.num, .slice Az z.args.length cz], by go_num, rfl, .inr rfl, Lib.hid (HST.out z (nx + 1) false (by omega) (fun h => by cases h) (fun h => by cases h) HOP3.out), Lib.hid (HP.out.step (z := z) hm2' hb2' hown3 hgrow hat3)⟩
                case measure => simp [okB, intOf]; omega
              · have hdec : decide (0 < z.args.length) = true := decide_eq_true (by omega)
                have hdi : decide ((0 : Int) < (z.args.length : Int)) = true := decide_eq_true (by omega)
                have HOP2 := HOP.out
                rw [hdec] at HOP2
                have HOP3 := Lib.hid HOP2
                have HSD : Hid ((strip [41] (t.drop nx)).isSome = true → nx + 1 ≤ t.length) := Lib.hid (fun h => by
                  cases h4 : strip [41] (t.drop nx) with
                  | none => rw [h4] at h; cases h
                  | some q2 => have := (strip_drop (by decide) h4).2; simpa using this)
                have hdp : 0 < z.args.length := by omega
                clear HOP2 hz0
                go_wp2_with fail
                refine (HB.out _ nx _ [41] (by omega) ⟨by decide, by decide⟩ (by first | rfl | simp)).mono ?_
                rintro e w5 ⟨rfl, rfl⟩
                obtain ⟨bz, hbz⟩ : ∃ bz, (strip [41] (t.drop nx)).isSome = bz := ⟨_, rfl⟩
                rw [hbz] at HSD
                rw [hbz]
                have HBZ := Lib.hid hbz
                clear hbz
                go_wp2_with
                  (at_builtin
                   refine wpList_append_lies _ rfl _ _ _ rfl (w1.heap.size + 1) 34 i0 _ 3 40 Tryz.underlying32 hi0 hz0 HZ1.out HZ2.out rfl (by omega) v _ us (by rfl) (ownX.alloc _)
                     ⟨w2.heap.size, 0, none⟩ 1 1 [.int .i64 z.kind, .int .i64 z.num, .slice Az z.args.length cz] (by rfl) (by rfl) (World.news_of_block (cs := #[.int .i64 z.kind, .int .i64 z.num, .slice Az z.args.length cz]) (t := 34) (fr := (0, 0)) (by have := heap_alloc_new (((w2.setCell ⟨wr.heap.size, 0, none⟩ (.int .i64 z.kind)).setCell ⟨wr.heap.size, 1, none⟩ (.int .i64 z.num)).setCell ⟨wr.heap.size, 2, none⟩ (.slice Az z.args.length cz)) (.cells #[.int .i64 z.kind, .int .i64 z.num, .slice Az z.args.length cz] 34); simpa [World.setCell] using this)) (hones _ _ _ (by rfl)) (by omega) (by simp only [maxLen]; omega) (by omega) (by simp [World.setCell]; omega) (w2.heap.size + 1) (by simp [World.setCell]) ?_
                   intro gg cap2 w3 hown3 hgrow hat3 hlt3
                   have hT3 : Blk w3 w1.heap.size 34 #[.int .i64 y.kind, .int .i64 y.num, v] := (hgrow.block _ (by simp [World.setCell]; omega) (fun e => by have := hvl _ e.symm; omega)).trans (hTX.alloc _)
                   have s1 := hT3.cell 2
                   have s5 := hT3.frozen 2
                   simp at s1)
                go_roundw
                case rel =>
                  have hop4 := HOP3.out
                  rw [HBZ.out] at hop4
                  exact ⟨nx + 1, bz, y.snoc z, _, us ++ [.int .i64 z.kind, .int .i64 z.num, .slice Az z.args.length cz], by go_num, rfl, .inl (by have := HG1.out; omega), Lib.hid (HST.out z (nx + 1) bz (by omega) (fun _ => by have := HG1.out; omega) HSD.out hop4), Lib.hid (HP.out.step (z := z) hm2' hb2' hown3 hgrow hat3)⟩
                case measure =>
                  have hgt := HG1.out
                  cases bz with
                  | true => simp [okB, intOf]; omega
                  | false => simp [okB, intOf]; omega
end Go.Proofs.YtbbejhhohppdhaaGreatDoor
