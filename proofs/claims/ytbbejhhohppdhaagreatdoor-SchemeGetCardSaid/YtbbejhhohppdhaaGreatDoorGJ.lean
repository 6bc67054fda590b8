/-
  scan.All and scan.attempt at the reader of schemes.
  scan.attempt at the reader of schemes; reader.check.
  scheme.Get.
  The statements' check that the chapter's example comes out.
-/
import Derived.Test.YtbbejhhohppdhaaGreatDoorGI
import Derived.Test.YtbbejhhohppdhaaGreatDoorGB
import Derived.Test.YtbbejhhohppdhaaGreatDoorSchemeCk
import Derived.Test.YtbbejhhohppdhaaGreatDoorGG
namespace Go.Proofs.YtbbejhhohppdhaaGreatDoor
open Go.RowKit Go.Shelf

theorem Saves.after {M N : Nat → Prop} {w w1 w2 : World} (h : Saves M w w1) (k : Saves N w1 w2) (hN : ∀ b, b < w.heap.size → N b → M b) : Saves M w w2 :=
  ⟨k.os.trans h.os, k.tape.trans h.tape, k.output.trans h.output, Nat.le_trans h.size k.size, fun b hb hm => (k.block b (Nat.lt_of_lt_of_le hb h.size) (fun e => hm (hN b hb e))).trans (h.block b hb hm)⟩
theorem Rdg.less {B B' : Nat} {w : World} {sy : List Sy} {fs : List Fn} {bs : List (List UInt8)} {v0 v1 v2 : Value} {us : List Value} (h : Rdg B w sy fs bs v0 v1 v2 us) (hb : B' ≤ B) : Rdg B' w sy fs bs v0 v1 v2 us :=
  ⟨owns_less h.osy hb, owns_less h.ofn hb, owns_less h.obs hb, h.row.more (fun b hh => ⟨by have := hh.1; omega, hh.2⟩) fs, h.d0, h.d1, h.nms⟩
/-- A scheme in memory of its own, from block B on. -/
def MkSc (B : Nat) (w : World) (s : Sc) (v0 v1 : Value) : Prop := ∃ v2 bs us, Rdg B w s.syms s.funs bs v0 v1 v2 us
theorem MkSc.nil (B : Nat) (w : World) : MkSc B w ⟨[], []⟩ (.slice none 0 0) (.slice none 0 0) := ⟨_, _, _, Rdg.nil B w⟩
theorem MkSc.keep {B : Nat} {w w' : World} {s : Sc} {v0 v1 : Value} (h : MkSc B w s v0 v1) (hz : w.heap.size ≤ w'.heap.size) (hk : ∀ b, B ≤ b → b < w.heap.size → w'.heap[b]? = w.heap[b]?) : MkSc B w' s v0 v1 := by
  obtain ⟨v2, bs, us, h⟩ := h
  exact ⟨v2, bs, us, h.keep hz hk⟩
theorem MkSc.below {B : Nat} {w w' : World} {s : Sc} {v0 v1 : Value} (h : MkSc B w s v0 v1) (hb : Below w.heap.size w w') : MkSc B w' s v0 v1 := h.keep hb.size (fun _ _ hl => hb.block _ hl)
theorem MkSc.put {B : Nat} {w : World} {s : Sc} {v0 v1 : Value} (h : MkSc B w s v0 v1) {b o : Nat} (hp : b < B) (u : Value) : MkSc B (w.setCell ⟨b, o, none⟩ u) s v0 v1 := by
  obtain ⟨v2, bs, us, h⟩ := h
  exact ⟨v2, bs, us, h.put hp u⟩
theorem MkSc.less {B B' : Nat} {w : World} {s : Sc} {v0 v1 : Value} (h : MkSc B w s v0 v1) (hb : B' ≤ B) : MkSc B' w s v0 v1 := by
  obtain ⟨v2, bs, us, h⟩ := h
  exact ⟨v2, bs, us, h.less hb⟩
theorem MkSc.in_ {B : Nat} {w : World} {s : Sc} {v0 v1 : Value} (h : MkSc B w s v0 v1) : ScIn w w.heap.size s v0 v1 := by
  obtain ⟨v2, bs, us, h⟩ := h
  exact h.scheme

/-- The scheme whose string a list of bytes is, and whether a sort in it was wrong. -/
def wholeSc (t : List UInt8) : Option (Sc × Bool) := match schemeP t with
  | some ((sy, fs, bad), []) => some (⟨sy, fs⟩, bad)
  | _ => none
/-- What All leaves. -/
def AllSPost (t : List UInt8) (rb : Nat) (w : World) (e : Ending) (w' : World) : Prop :=
  (wholeSc t = none ∧ e = pan ∧ Saves (fun k => k = rb) w w') ∨
  (∃ s bad v0 v1 m1 m2, wholeSc t = some (s, bad) ∧ e = .returned (.agg #[v0, v1]) ∧ MkSc w.heap.size w' s v0 v1 ∧ Blk w' rb 54 #[m1, m2, .bool bad] ∧ Saves (fun k => k = rb) w w')

theorem allS_results {tmps : Array Value} {w : World} {a : Nat} {x y : Value} (h2 : tmps.getD 4 undef = .pointer (some ⟨a, 0, none⟩))
    (ha : Blk w a 25 #[x, y]) : (results Tryz.f107 tmps).run Tryz.prog w = .ok (.agg #[x, y]) w := by
  have h0 := ha.cell 0
  have h1 := ha.cell 1
  simp at h0 h1
  have h2' : tmps[4]?.getD undef = .pointer (some ⟨a, 0, none⟩) := by simpa using h2
  simp [results, Tryz.results107, go_sem, h2', h0, h1]

set_option maxRecDepth 100000 in
set_option maxHeartbeats 1600000 in
theorem allSch_any (t : List UInt8) (rb : Nat) (w : World) (hg : GV w) (hr8 : 8 ≤ rb) (hr : Blk w rb 54 #[.map none, .map none, .bool false]) (hL : t.length ≤ 65536) :
    Calls Tryz.prog 107 #[.string ⟨t.toArray⟩, .func (.func 33) #[.pointer (some ⟨rb, 0, none⟩)] #[]] w (AllSPost t rb w) := by
  have hrw := hr.lt
  have hr3 : Blk ((w.alloc (.cells #[.slice none 0 0, .slice none 0 0] 25)).alloc (.cells #[.string ⟨t.toArray⟩] 161)) w.heap.size 25 #[.slice none 0 0, .slice none 0 0] := (Blk.new _ _ _).alloc _
  have hw3 : Saves (fun k => k = rb) w ((w.alloc (.cells #[.slice none 0 0, .slice none 0 0] 25)).alloc (.cells #[.string ⟨t.toArray⟩] 161)) := ((Saves.refl _ _).alloc _).alloc _
  have hb3 : Blk ((w.alloc (.cells #[.slice none 0 0, .slice none 0 0] 25)).alloc (.cells #[.string ⟨t.toArray⟩] 161)) (w.heap.size + 1) 161 #[.string ⟨t.toArray⟩] := by
    have := Blk.new (w.alloc (.cells #[.slice none 0 0, .slice none 0 0] 25)) 161 #[.string ⟨t.toArray⟩]
    simpa using this
  have hrd3 := (hr.alloc (.cells #[.slice none 0 0, .slice none 0 0] 25)).alloc (.cells #[.string ⟨t.toArray⟩] 161)
  have HS := Lib.hid (schemeRd_any t (w.heap.size + 1) rb _ (hg.saves hw3 (by omega) (fun k hk e => by omega)) (by omega) hr8 (by omega) hb3 hrd3 hL)
  have AFT : ∀ {w1 : World}, Saves (fun k => k = w.heap.size + 1 ∨ k = rb) ((w.alloc (.cells #[.slice none 0 0, .slice none 0 0] 25)).alloc (.cells #[.string ⟨t.toArray⟩] 161)) w1 → Saves (fun k => k = rb) w w1 :=
    fun s => hw3.after s (fun k hk e => by omega)
  go_enter Tryz.func107, Tryz.ntmps107
  go_wp2_with fail
  refine HS.out.mono ?_
  rintro e w1 (⟨hn, rfl, s1⟩ | ⟨sy, fs, bad, r, v0, v1, v2, bs, us, m1, m2, hp, rfl, g1, g4, g5, s1⟩)
  · exact ⟨rfl, .inl ⟨by rw [wholeSc, hn], rfl, AFT s1⟩⟩
  obtain ⟨⟨A0, n0, c0, rfl⟩, ⟨A1, n1, c1, rfl⟩⟩ := g1.scheme.form
  simp only [World.size_alloc] at g1
  have hz1 := s1.size
  simp only [World.size_alloc] at hz1
  have hr1 := (hr3.saves s1 (by omega)).alloc (.cells #[.slice A0 n0 c0, .slice A1 n1 c1] 25)
  have g4' := g4.alloc (.cells #[.slice A0 n0 c0, .slice A1 n1 c1] 25)
  have g5' := g5.alloc (.cells #[.slice A0 n0 c0, .slice A1 n1 c1] 25)
  have mk : MkSc (w.heap.size + 1 + 1 + 2) w1 ⟨sy, fs⟩ (.slice A0 n0 c0) (.slice A1 n1 c1) := ⟨_, _, _, g1⟩
  have mk' := mk.below ((Below.refl _ _).alloc (Nat.le_refl _) (.cells #[.slice A0 n0 c0, .slice A1 n1 c1] 25))
  have sv := (AFT s1).alloc (.cells #[.slice A0 n0 c0, .slice A1 n1 c1] 25)
  have x0 := hr1.cell 0
  have x1 := hr1.cell 1
  have y0 := hr1.frozen 0
  have y1 := hr1.frozen 1
  have c3 := g4'.cell 0
  have xb := Blk.new w1 25 #[.slice A0 n0 c0, .slice A1 n1 c1]
  have u0 := xb.cell 0
  have u1 := xb.cell 1
  simp at x0 x1 u0 u1 c3
  have MK := Lib.hid mk'
  have SV := Lib.hid sv
  clear mk mk' sv g1 hr3 hb3 hrd3
  by_cases hre : r = []
  · subst hre
    have HN : Hid (wholeSc t = some (⟨sy, fs⟩, bad)) := Lib.hid (by rw [wholeSc, hp])
    clear hp
    go_wp2_with fail
    refine (must_yes _ _).mono ?_
    rintro e w2 ⟨rfl, rfl⟩
    go_wp2_with fail
    refine bodyPost_ret (allS_results rfl (((hr1.set_ 0 _).set_ 1 _).eq_ rfl)) rfl ?_
    exact .inr ⟨_, bad, _, _, m1, m2, HN.out, rfl, ((MK.out.put (b := w.heap.size) (by omega) _).put (b := w.heap.size) (by omega) _).less (by omega),
      (g5'.far (p := ⟨w.heap.size, 0, none⟩) (by show rb ≠ w.heap.size; omega) _).far (p := ⟨w.heap.size, 1, none⟩) (by show rb ≠ w.heap.size; omega) _,
      (SV.out.setCell (p := ⟨w.heap.size, 0, none⟩) (.inr (Nat.le_refl _)) _).setCell (p := ⟨w.heap.size, 1, none⟩) (.inr (Nat.le_refl _)) _⟩
  · have hrb : r.isEmpty = false := by simpa using hre
    have HN : Hid (wholeSc t = none) := Lib.hid (by
      rw [wholeSc, hp]
      cases r with
      | nil => exact absurd rfl hre
      | cons a r => rfl)
    clear hp hre
    go_wp2_with fail
    refine (must_no _ _).mono ?_
    rintro e w2 ⟨rfl, rfl⟩
    exact ⟨rfl, .inl ⟨HN.out, rfl, SV.out⟩⟩
end Go.Proofs.YtbbejhhohppdhaaGreatDoor

namespace Go.Proofs.YtbbejhhohppdhaaGreatDoor
open Go.RowKit Go.Shelf

theorem catchS_panicking (q : Addr) (y pv : Value) (u : TypeId) (older : List PanicEntry) (w : World) (hc : w.cell? q = some y) (hz : w.frozen? q = false) :
    CallsD Tryz.prog 106 #[.pointer (some q)] (.panicking ({ v := .iface u pv, recovered := false } :: older)) w fun e u' w' =>
      e = .returned (.tuple #[]) ∧ u' = .panicking ({ v := .iface u pv, recovered := true } :: older) ∧ w' = w.setCell q (.bool false) := by
  refine callsD_of_wpS Tryz.func106 rfl fun c₀ cs hu => ?_
  apply wpS_region
  simp [wpOpsS, go_sem, recoverD, hu, Tryz.ntmps106, hc, hz, bodyPostS, results, Tryz.results106]
theorem catchS_idle (q : Addr) (y : Value) (w : World) (hc : w.cell? q = some y) (hz : w.frozen? q = false) :
    CallsD Tryz.prog 106 #[.pointer (some q)] .returning w fun e u' w' => e = .returned (.tuple #[]) ∧ u' = .returning ∧ w' = w.setCell q (.bool true) := by
  refine callsD_of_wpS Tryz.func106 rfl fun c₀ cs hu => ?_
  apply wpS_region
  simp [wpOpsS, go_sem, recoverD, hu, Tryz.ntmps106, hc, hz, bodyPostS, results, Tryz.results106]
  cases c₀
  simp_all

/-- What attempt leaves. -/
def TryPost (t : List UInt8) (rb : Nat) (w : World) (e : Ending) (w' : World) : Prop :=
  (wholeSc t = none ∧ e = .returned (.tuple #[.agg #[.slice none 0 0, .slice none 0 0], .bool false]) ∧ Saves (fun k => k = rb) w w') ∨
  (∃ s bad A0 n0 c0 A1 n1 c1 m1 m2, wholeSc t = some (s, bad) ∧ e = .returned (.tuple #[.agg #[.slice A0 n0 c0, .slice A1 n1 c1], .bool true]) ∧ MkSc w.heap.size w' s (.slice A0 n0 c0) (.slice A1 n1 c1) ∧ Blk w' rb 54 #[m1, m2, .bool bad] ∧ Saves (fun k => k = rb) w w')

theorem tryS_results {tmps : Array Value} {w : World} {a b : Nat} {x z y : Value} (h2 : tmps.getD 4 undef = .pointer (some ⟨a, 0, none⟩)) (h3 : tmps.getD 5 undef = .pointer (some ⟨b, 0, none⟩))
    (ha : Blk w a 25 #[x, z]) (hb : Blk w b 4 #[y]) : (results Tryz.f61 tmps).run Tryz.prog w = .ok (.tuple #[.agg #[x, z], y]) w := by
  have h4 := ha.cell 0
  have h6 := ha.cell 1
  have h5 := hb.cell 0
  simp at h4 h5 h6
  have h2' : tmps[4]?.getD undef = .pointer (some ⟨a, 0, none⟩) := by simpa using h2
  have h3' : tmps[5]?.getD undef = .pointer (some ⟨b, 0, none⟩) := by simpa using h3
  simp [results, Tryz.results61, go_sem, h2', h3', h4, h5, h6]

set_option maxRecDepth 100000 in
set_option maxHeartbeats 1600000 in
theorem trySch_any (t : List UInt8) (rb : Nat) (w : World) (hg : GV w) (hr8 : 8 ≤ rb) (hr : Blk w rb 54 #[.map none, .map none, .bool false]) (hL : t.length ≤ 65536) :
    Calls Tryz.prog 61 #[.string ⟨t.toArray⟩, .func (.func 33) #[.pointer (some ⟨rb, 0, none⟩)] #[]] w (TryPost t rb w) := by
  have hmf : ∀ (fn : Go.Fn) (first cap : Array Value) (w : World), (Instr.makeFunc fn first cap).run Tryz.prog w = .ok (.func fn first cap) w := fun _ _ _ _ => rfl
  have hrw := hr.lt
  have hw3 : Saves (fun k => k = rb) w ((w.alloc (.cells #[.slice none 0 0, .slice none 0 0] 25)).alloc (.cells #[.bool false] 4)) := ((Saves.refl _ _).alloc _).alloc _
  have hr3 : Blk ((w.alloc (.cells #[.slice none 0 0, .slice none 0 0] 25)).alloc (.cells #[.bool false] 4)) w.heap.size 25 #[.slice none 0 0, .slice none 0 0] := (Blk.new _ _ _).alloc _
  have he3 : Blk ((w.alloc (.cells #[.slice none 0 0, .slice none 0 0] 25)).alloc (.cells #[.bool false] 4)) (w.heap.size + 1) 4 #[.bool false] := by
    have := Blk.new (w.alloc (.cells #[.slice none 0 0, .slice none 0 0] 25)) 4 #[.bool false]
    simpa using this
  have HS := Lib.hid (allSch_any t rb ((w.alloc (.cells #[.slice none 0 0, .slice none 0 0] 25)).alloc (.cells #[.bool false] 4)) (hg.saves hw3 (by omega) (fun k hk e => by omega)) hr8 ((hr.alloc _).alloc _) hL)
  go_enter_defers Tryz.func61, Tryz.ntmps61
  go_wp2_with fail
  refine HS.out.mono ?_
  rintro e w1 (⟨hn, rfl, s1⟩ | ⟨s, bad, v0, v1, m1, m2, hp, rfl, g1, g5, s1⟩)
  · have hr1 := hr3.saves s1 (by omega)
    have he1 := he3.saves s1 (by omega)
    have HN := Lib.hid hn
    clear hn
    change Leaves Tryz.prog Tryz.f61 _ (TryPost t rb w) _ (.panicking _) w1
    refine leaves_cons (f := 106) (args := #[.pointer (some ⟨w.heap.size + 1, 0, none⟩)]) (by simp) (by simp [go_sem]) ?_
    refine (catchS_panicking ⟨w.heap.size + 1, 0, none⟩ _ _ _ [] _ (he1.cell 0) (he1.frozen 0)).mono ?_
    rintro e u' w'' ⟨rfl, rfl, rfl⟩
    exact ⟨_, tryS_results rfl rfl (hr1.far (p := ⟨w.heap.size + 1, 0, none⟩) (by simp) _) (he1.set_ 0 _),
      .inl ⟨HN.out, rfl, (hw3.trans s1).setCell (p := ⟨w.heap.size + 1, 0, none⟩) (.inr (Nat.le_succ _)) _⟩⟩
  · obtain ⟨⟨A0, n0, c0, rfl⟩, ⟨A1, n1, c1, rfl⟩⟩ := g1.in_.form
    simp only [World.size_alloc] at g1
    have hr1 := hr3.saves s1 (by omega)
    have he1 := he3.saves s1 (by omega)
    have hz1 := s1.size
    simp only [World.size_alloc] at hz1
    have HN := Lib.hid hp
    have G1 := Lib.hid g1
    clear hp g1
    have c1' := hr1.cell 0
    have c1'' := hr1.cell 1
    have f1 := hr1.frozen 0
    have f1' := hr1.frozen 1
    have c2 := he1.cell 0
    have f2 := he1.frozen 0
    simp at c1' c1'' c2
    go_wp2_with fail
    refine leaves_cons (f := 106) (args := #[.pointer (some ⟨w.heap.size + 1, 0, none⟩)]) (by simp) (by simp [go_sem]) ?_
    have hr2 := ((hr1.set_ 0 (.slice A0 n0 c0)).set_ 1 (.slice A1 n1 c1)).far (p := ⟨w.heap.size + 1, 0, none⟩) (by simp) (.bool true)
    have he2 := ((he1.far (p := ⟨w.heap.size, 0, none⟩) (by simp) (.slice A0 n0 c0)).far (p := ⟨w.heap.size, 1, none⟩) (by simp) (.slice A1 n1 c1)).set_ 0 (.bool true)
    refine (catchS_idle ⟨w.heap.size + 1, 0, none⟩ _ _ (he2.cell 0) (he2.frozen 0)).mono ?_
    rintro e u' w'' ⟨rfl, rfl, rfl⟩
    refine ⟨_, tryS_results rfl rfl (hr2.far (p := ⟨w.heap.size + 1, 0, none⟩) (by simp) _) (he2.set_ 0 _), ?_⟩
    refine .inr ⟨s, bad, _, _, _, _, _, _, m1, m2, HN.out, rfl, ((((G1.out.put (b := w.heap.size) (by omega) _).put (b := w.heap.size) (by omega) _).put (b := w.heap.size + 1) (by omega) _).put (b := w.heap.size + 1) (by omega) _).less (by omega), ?_, ?_⟩
    · exact (((g5.far (p := ⟨w.heap.size, 0, none⟩) (by show rb ≠ w.heap.size; omega) _).far (p := ⟨w.heap.size, 1, none⟩) (by show rb ≠ w.heap.size; omega) _).far (p := ⟨w.heap.size + 1, 0, none⟩) (by show rb ≠ w.heap.size + 1; omega) _).far (p := ⟨w.heap.size + 1, 0, none⟩) (by show rb ≠ w.heap.size + 1; omega) _
    · exact ((((hw3.trans s1).setCell (p := ⟨w.heap.size, 0, none⟩) (.inr (Nat.le_refl _)) _).setCell (p := ⟨w.heap.size, 1, none⟩) (.inr (Nat.le_refl _)) _).setCell (p := ⟨w.heap.size + 1, 0, none⟩) (.inr (Nat.le_succ _)) _).setCell (p := ⟨w.heap.size + 1, 0, none⟩) (.inr (Nat.le_succ _)) _

set_option maxRecDepth 100000 in
set_option maxHeartbeats 800000 in
/-- reader.check: a sort that was wrong, or Check. -/
theorem checkRd_any (rb : Nat) (bad : Bool) (m1 m2 : Value) (s : Sc) (v0 v1 : Value) (w : World) (hr : Blk w rb 54 #[m1, m2, .bool bad]) (hin : ScIn w w.heap.size s v0 v1) :
    Calls Tryz.prog 34 #[.pointer (some ⟨rb, 0, none⟩), .agg #[v0, v1]] w fun e w' => e = .returned (.int .i64 (schErr (!bad && s.ok))) ∧ Below w.heap.size w w' := by
  obtain ⟨⟨A0, n0, c0, rfl⟩, ⟨A1, n1, c1, rfl⟩⟩ := hin.form
  have hwx := (Below.refl w.heap.size w).alloc (Nat.le_refl _) (.cells #[.slice A0 n0 c0, .slice A1 n1 c1] 25)
  have hr1 := hr.alloc (.cells #[.slice A0 n0 c0, .slice A1 n1 c1] 25)
  have xb := Blk.new w 25 #[.slice A0 n0 c0, .slice A1 n1 c1]
  have r2 := hr1.cell 2
  have u0 := xb.cell 0
  have u1 := xb.cell 1
  simp at r2 u0 u1
  cases bad with
  | true =>
    have hE : schErr (!true && s.ok) = 7 := rfl
    rw [hE]
    go_enter Tryz.func34, Tryz.ntmps34
    go_wp2_with fail
    go_ret
    exact ⟨rfl, hwx⟩
  | false =>
    have hE : schErr (!false && s.ok) = schErr s.ok := rfl
    rw [hE]
    have HC := Lib.hid (schemeCheck_any s _ _ (w.alloc (.cells #[.slice A0 n0 c0, .slice A1 n1 c1] 25)) w.heap.size ⟨hin.sy.below hwx (Nat.le_refl _), hin.fn.below hwx (Nat.le_refl _)⟩ (by simp))
    go_enter Tryz.func34, Tryz.ntmps34
    go_wp2_with fail
    refine HC.out.mono ?_
    rintro e w1 ⟨rfl, b1⟩
    go_wp2_with fail
    go_ret
    exact ⟨rfl, hwx.trans (b1.mono (by simp))⟩
end Go.Proofs.YtbbejhhohppdhaaGreatDoor

namespace Go.Proofs.YtbbejhhohppdhaaGreatDoor
open Go.RowKit Go.Shelf

def getSE (t : List UInt8) : Int := if 65536 < t.length then 3 else match wholeSc t with
  | some (s, bad) => schErr (!bad && s.ok)
  | none => 4
def getSS (t : List UInt8) : Sc := if getSE t = 0 then ((wholeSc t).map fun x => x.1).getD ⟨[], []⟩ else ⟨[], []⟩
theorem getSS_no {t : List UInt8} (h : getSE t ≠ 0) : getSS t = ⟨[], []⟩ := by rw [getSS, if_neg h]
theorem getSS_yes {t : List UInt8} {s : Sc} {bad : Bool} (h : getSE t = 0) (hw : wholeSc t = some (s, bad)) : getSS t = s := by rw [getSS, if_pos h, hw] <;> rfl

/-- What scan.Get leaves. -/
def GetSPost (t : List UInt8) (M : Nat → Prop) (w : World) (e : Ending) (w' : World) : Prop :=
  ∃ A0 n0 c0 A1 n1 c1, e = .returned (.tuple #[.agg #[.slice A0 n0 c0, .slice A1 n1 c1], .int .i64 (getSE t)]) ∧ MkSc w.heap.size w' (getSS t) (.slice A0 n0 c0) (.slice A1 n1 c1) ∧ Saves M w w'
theorem GetSPost.no {t : List UInt8} {M : Nat → Prop} {w w' : World} {i : Int} (h : getSE t = i) (hi : i ≠ 0) (hs : Saves M w w') : GetSPost t M w (.returned (.tuple #[.agg #[.slice none 0 0, .slice none 0 0], .int .i64 i])) w' := by
  refine ⟨_, _, _, _, _, _, by rw [h], ?_, hs⟩
  rw [getSS_no (by rw [h]; exact hi)]
  exact MkSc.nil _ _

theorem scanGetS_results {tmps : Array Value} {w : World} {a : Nat} {x z y : Value} (h2 : tmps.getD 6 undef = .pointer (some ⟨a, 0, none⟩)) (h3 : tmps.getD 7 undef = y)
    (ha : Blk w a 25 #[x, z]) : (results Tryz.f32 tmps).run Tryz.prog w = .ok (.tuple #[.agg #[x, z], y]) w := by
  have h4 := ha.cell 0
  have h5 := ha.cell 1
  simp at h4 h5
  have h2' : tmps[6]?.getD undef = .pointer (some ⟨a, 0, none⟩) := by simpa using h2
  have h3' : tmps[7]?.getD undef = y := by simpa using h3
  simp [results, Tryz.results32, go_sem, h2', h3', h4, h5]
theorem schGet_results {tmps : Array Value} {w : World} {a : Nat} {x z y : Value} (h2 : tmps.getD 2 undef = .pointer (some ⟨a, 0, none⟩)) (h3 : tmps.getD 3 undef = y)
    (ha : Blk w a 25 #[x, z]) : (results Tryz.f12 tmps).run Tryz.prog w = .ok (.tuple #[.agg #[x, z], y]) w := by
  have h4 := ha.cell 0
  have h5 := ha.cell 1
  simp at h4 h5
  have h2' : tmps[2]?.getD undef = .pointer (some ⟨a, 0, none⟩) := by simpa using h2
  have h3' : tmps[3]?.getD undef = y := by simpa using h3
  simp [results, Tryz.results12, go_sem, h2', h3', h4, h5]

/-- A result's box, written, and what else stays. -/
theorem sbox_end {w w2 : World} {gr : Nat} {x y x' y' : Value} {M : Nat → Prop} (hgr : w.heap.size ≤ gr) (r2 : Blk w2 gr 25 #[x', y']) (hs : Saves M w w2) :
    Blk ((w2.setCell ⟨gr, 0, none⟩ x).setCell ⟨gr, 1, none⟩ y) gr 25 #[x, y] ∧ Saves M w ((w2.setCell ⟨gr, 0, none⟩ x).setCell ⟨gr, 1, none⟩ y) :=
  ⟨((r2.set_ 0 _).set_ 1 _).eq_ rfl, (hs.setCell (p := ⟨gr, 0, none⟩) (.inr hgr) _).setCell (p := ⟨gr, 1, none⟩) (.inr hgr) _⟩

set_option maxRecDepth 100000 in
set_option maxHeartbeats 3200000 in
theorem scanGetS_any (t : List UInt8) (rb : Nat) (w : World) (hg : GV w) (hr8 : 8 ≤ rb) (hr : Blk w rb 54 #[.map none, .map none, .bool false]) (hm : t.length ≤ 9223372036854775807) :
    Calls Tryz.prog 32 #[.string ⟨t.toArray⟩, .func (.func 33) #[.pointer (some ⟨rb, 0, none⟩)] #[], .func (.func 34) #[.pointer (some ⟨rb, 0, none⟩)] #[]] w (GetSPost t (fun k => k = rb) w) := by
  have hrw := hr.lt
  have hw0 : Saves (fun k => k = rb) w ((w.alloc (.cells #[.slice none 0 0, .slice none 0 0] 25)).alloc (.cells #[.slice none 0 0, .slice none 0 0] 25)) := ((Saves.refl _ _).alloc _).alloc _
  have hr0 : Blk ((w.alloc (.cells #[.slice none 0 0, .slice none 0 0] 25)).alloc (.cells #[.slice none 0 0, .slice none 0 0] 25)) w.heap.size 25 #[.slice none 0 0, .slice none 0 0] := (Blk.new _ _ _).alloc _
  have hn0 : Blk ((w.alloc (.cells #[.slice none 0 0, .slice none 0 0] 25)).alloc (.cells #[.slice none 0 0, .slice none 0 0] 25)) (w.heap.size + 1) 25 #[.slice none 0 0, .slice none 0 0] := by
    have := Blk.new (w.alloc (.cells #[.slice none 0 0, .slice none 0 0] 25)) 25 #[.slice none 0 0, .slice none 0 0]
    simpa using this
  by_cases hl : 65536 < t.length
  · have HE : Hid (getSE t = 3) := Lib.hid (by simp [getSE, hl])
    have c1 := hr0.cell 0
    have c1' := hr0.cell 1
    have f1 := hr0.frozen 0
    have f1' := hr0.frozen 1
    have c2 := hn0.cell 0
    have c2' := hn0.cell 1
    simp at c1 c1' c2 c2'
    go_enter Tryz.func32, Tryz.ntmps32
    go_wp2_with fail
    first
      | exact bodyPost_ret (scanGetS_results (y := .int .i64 3) rfl rfl hr0) rfl (GetSPost.no HE.out (by decide) hw0)
      | exact bodyPost_ret (scanGetS_results (y := .int .i64 3) rfl rfl (sbox_end (M := fun k => k = rb) (Nat.le_refl _) hr0 hw0).1) rfl (GetSPost.no HE.out (by decide) (sbox_end (Nat.le_refl _) hr0 hw0).2)
  · have HT := Lib.hid (trySch_any t rb ((w.alloc (.cells #[.slice none 0 0, .slice none 0 0] 25)).alloc (.cells #[.slice none 0 0, .slice none 0 0] 25)) (hg.saves hw0 (by omega) (fun k hk e => by omega)) hr8 ((hr.alloc _).alloc _) (by omega))
    have HC := Lib.hid (fun bad m1 m2 s v0 v1 W => checkRd_any rb bad m1 m2 s v0 v1 W)
    go_enter Tryz.func32, Tryz.ntmps32
    go_wp2_with fail
    refine HT.out.mono ?_
    rintro e w1 (⟨hn, rfl, s1⟩ | ⟨s, bad, A0, n0, c0, A1, n1, c1, m1, m2, hp, rfl, g1, g5, s1⟩)
    · have HE : Hid (getSE t = 4) := Lib.hid (by simp [getSE, hl, hn])
      clear hn
      have r1 := (hr0.saves s1 (by omega)).alloc (.cells #[.slice none 0 0, .slice none 0 0] 25)
      have q1 := (hn0.saves s1 (by omega)).alloc (.cells #[.slice none 0 0, .slice none 0 0] 25)
      have sv := (hw0.trans s1).alloc (.cells #[.slice none 0 0, .slice none 0 0] 25)
      have c1 := r1.cell 0
      have c1' := r1.cell 1
      have f1 := r1.frozen 0
      have f1' := r1.frozen 1
      have c2 := q1.cell 0
      have c2' := q1.cell 1
      simp at c1 c1' c2 c2'
      go_wp2_with fail
      obtain ⟨z1, z2⟩ := sbox_end (x := .slice none 0 0) (y := .slice none 0 0) (M := fun k => k = rb) (Nat.le_refl w.heap.size) r1 sv
      exact bodyPost_ret (scanGetS_results (y := .int .i64 4) rfl rfl z1) rfl (GetSPost.no HE.out (by decide) z2)
    · have hEE : getSE t = schErr (!bad && s.ok) := by simp [getSE, hl, hp]
      simp only [World.size_alloc] at g1
      have hz1 := s1.size
      simp only [World.size_alloc] at hz1
      have r1 := (hr0.saves s1 (by omega)).alloc (.cells #[.slice A0 n0 c0, .slice A1 n1 c1] 25)
      have q1 := (hn0.saves s1 (by omega)).alloc (.cells #[.slice A0 n0 c0, .slice A1 n1 c1] 25)
      have sv := (hw0.trans s1).alloc (.cells #[.slice A0 n0 c0, .slice A1 n1 c1] 25)
      have x1 := Blk.new w1 25 #[.slice A0 n0 c0, .slice A1 n1 c1]
      have g5' := g5.alloc (.cells #[.slice A0 n0 c0, .slice A1 n1 c1] 25)
      have g1' := g1.below ((Below.refl _ _).alloc (Nat.le_refl _) (.cells #[.slice A0 n0 c0, .slice A1 n1 c1] 25))
      have HD := Lib.hid (HC.out bad m1 m2 s _ _ _ g5' g1'.in_)
      have u0 := x1.cell 0
      have u1 := x1.cell 1
      simp at u0 u1
      cases hok : (!bad && s.ok) with
      | true =>
        rw [hok] at HD hEE
        rw [show schErr true = 0 from rfl] at HD hEE
        have HE := Lib.hid hEE
        have HSS := Lib.hid (getSS_yes hEE hp)
        clear hEE hp hok
        go_wp2_with fail
        refine HD.out.mono ?_
        rintro e w2 ⟨rfl, b2⟩
        have r2 := r1.below b2 r1.lt
        have x2 := x1.below b2 x1.lt
        have g2 := g1'.below b2
        have sv2 := sv.trans (Saves.of_below b2)
        have d0 := x2.cell 0
        have d1 := x2.cell 1
        have e0 := r2.cell 0
        have e1 := r2.cell 1
        have f0 := r2.frozen 0
        have f1 := r2.frozen 1
        simp at d0 d1 e0 e1
        go_wp2_with fail
        obtain ⟨z1, z2⟩ := sbox_end (x := .slice A0 n0 c0) (y := .slice A1 n1 c1) (M := fun k => k = rb) (Nat.le_refl w.heap.size) r2 sv2
        refine bodyPost_ret (scanGetS_results (y := .int .i64 0) rfl rfl z1) rfl ⟨_, _, _, _, _, _, by rw [HE.out], ?_, z2⟩
        rw [HSS.out]
        exact ((g2.put (b := w.heap.size) (by omega) _).put (b := w.heap.size) (by omega) _).less (by omega)
      | false =>
        rw [hok] at HD hEE
        rw [show schErr false = 7 from rfl] at HD hEE
        have HE := Lib.hid hEE
        clear hEE hp hok
        go_wp2_with fail
        refine HD.out.mono ?_
        rintro e w2 ⟨rfl, b2⟩
        have r2 := r1.below b2 r1.lt
        have q2 := q1.below b2 q1.lt
        have sv2 := sv.trans (Saves.of_below b2)
        have d0 := q2.cell 0
        have d1 := q2.cell 1
        have e0 := r2.cell 0
        have e1 := r2.cell 1
        have f0 := r2.frozen 0
        have f1 := r2.frozen 1
        simp at d0 d1 e0 e1
        go_wp2_with fail
        obtain ⟨z1, z2⟩ := sbox_end (x := .slice none 0 0) (y := .slice none 0 0) (M := fun k => k = rb) (Nat.le_refl w.heap.size) r2 sv2
        exact bodyPost_ret (scanGetS_results (y := .int .i64 7) rfl rfl z1) rfl (GetSPost.no HE.out (by decide) z2)

set_option maxRecDepth 100000 in
set_option maxHeartbeats 800000 in
/-- scheme.Get: the scheme whose string t is, in memory of its own. -/
theorem schGet_any (t : List UInt8) (w : World) (hg : GV w) (h8 : 8 ≤ w.heap.size) (hm : t.length ≤ 9223372036854775807) :
    Calls Tryz.prog 12 #[.string ⟨t.toArray⟩] w (GetSPost t (fun _ => False) w) := by
  have hmf : ∀ (fn : Go.Fn) (first cap : Array Value) (w : World), (Instr.makeFunc fn first cap).run Tryz.prog w = .ok (.func fn first cap) w := fun _ _ _ _ => rfl
  have hw0 : Saves (fun _ => False) w ((w.alloc (.cells #[.slice none 0 0, .slice none 0 0] 25)).alloc (.cells #[.map none, .map none, .bool false] 54)) := ((Saves.refl _ _).alloc _).alloc _
  have hr0 : Blk ((w.alloc (.cells #[.slice none 0 0, .slice none 0 0] 25)).alloc (.cells #[.map none, .map none, .bool false] 54)) w.heap.size 25 #[.slice none 0 0, .slice none 0 0] := (Blk.new _ _ _).alloc _
  have hn0 : Blk ((w.alloc (.cells #[.slice none 0 0, .slice none 0 0] 25)).alloc (.cells #[.map none, .map none, .bool false] 54)) (w.heap.size + 1) 54 #[.map none, .map none, .bool false] := by
    have := Blk.new (w.alloc (.cells #[.slice none 0 0, .slice none 0 0] 25)) 54 #[.map none, .map none, .bool false]
    simpa using this
  have HG := Lib.hid (scanGetS_any t (w.heap.size + 1) _ (hg.saves hw0 h8 (fun _ _ e => e)) (by omega) hn0 hm)
  go_enter Tryz.func12, Tryz.ntmps12
  go_wp2_with fail
  refine HG.out.mono ?_
  rintro e w1 ⟨A0, n0, c0, A1, n1, c1, rfl, g1, s1⟩
  simp only [World.size_alloc] at g1
  have r1 := hr0.saves s1 (by omega)
  have sv := hw0.after s1 (fun k hk e => by omega)
  have e0 := r1.cell 0
  have e1 := r1.cell 1
  have f0 := r1.frozen 0
  have f1 := r1.frozen 1
  simp at e0 e1
  go_wp2_with fail
  obtain ⟨z1, z2⟩ := sbox_end (x := .slice A0 n0 c0) (y := .slice A1 n1 c1) (M := fun _ => False) (Nat.le_refl w.heap.size) r1 sv
  exact bodyPost_ret (schGet_results rfl rfl z1) rfl ⟨_, _, _, _, _, _, rfl, ((g1.put (b := w.heap.size) (by omega) _).put (b := w.heap.size) (by omega) _).less (by omega), z2⟩
end Go.Proofs.YtbbejhhohppdhaaGreatDoor

namespace Go.Proofs.YtbbejhhohppdhaaGreatDoor
open Go.RowKit Go.Shelf

def exText : List UInt8 := [115, 121, 109, 98, 111, 108, 32, 97, 32, 50, 10, 115, 121, 109, 98, 111, 108, 32, 98, 32, 49, 10, 115, 121, 109, 98, 111, 108, 32, 99, 32, 48, 10, 102, 117, 110, 32, 115, 32, 58, 32, 111, 32, 61, 32, 102, 32, 35, 99, 10, 102, 117, 110, 32, 102, 32, 58, 32, 111, 32, 62, 32, 111, 32, 61, 32, 35, 97, 32, 36, 48, 32, 40, 102, 32, 40, 35, 98, 32, 36, 48, 41, 41, 10]
theorem exS_E : getSE exText = 0 := by decide +kernel
theorem exS_ok : (getSS exText).ok = true := by decide +kernel
theorem exS_n : (getSS exText).funs.length = 2 := by decide +kernel
theorem exS_o : (getSS exText).orders = (1, 0) := by decide +kernel
theorem exS_pe : (getSS exText).putE = 0 := by decide +kernel
theorem exS_p : (getSS exText).puts = exText := by decide +kernel
theorem exS_get (w : World) (hg : GV w) (h8 : 8 ≤ w.heap.size) : Calls Tryz.prog 12 #[.string ⟨exText.toArray⟩] w fun e w' => ∃ A0 n0 c0 A1 c1, e = .returned (.tuple #[.agg #[.slice A0 n0 c0, .slice A1 2 c1], .int .i64 0]) ∧
    ScIn w' w'.heap.size (getSS exText) (.slice A0 n0 c0) (.slice A1 2 c1) ∧ Below w.heap.size w w' := by
  refine (schGet_any exText w hg h8 (by decide)).mono ?_
  rintro e w' ⟨A0, n0, c0, A1, n1, c1, rfl, h1, h2⟩
  have hi := h1.in_
  obtain ⟨A', n', c', us, e1, e2, _⟩ := hi.fn
  injection e1 with _ e1 _
  rw [exS_n] at e2
  have : n1 = 2 := by omega
  subst this
  rw [exS_E]
  exact ⟨_, _, _, _, _, rfl, hi, h2.below (Nat.le_refl _) (fun _ _ h => h)⟩
theorem exS_put {w : World} {hi : Nat} {v0 v1 : Value} (h : ScIn w hi (getSS exText) v0 v1) (hh : hi ≤ w.heap.size) :
    Calls Tryz.prog 40 #[.agg #[v0, v1]] w fun e w' => e = .returned (.tuple #[.string ⟨exText.toArray⟩, .int .i64 0]) ∧ Below w.heap.size w w' := by
  have := schemePut_any _ v0 v1 w hi h hh
  rw [exS_p, exS_pe] at this
  exact this
theorem exS_order {w : World} {hi : Nat} {v0 v1 : Value} (h : ScIn w hi (getSS exText) v0 v1) (hh : hi ≤ w.heap.size) :
    Calls Tryz.prog 41 #[.agg #[v0, v1]] w fun e w' => e = .returned (.tuple #[.int .i64 1, .int .i64 0]) ∧ Below w.heap.size w w' := by
  have := schemeOrder_any _ v0 v1 w hi h hh
  rw [exS_o] at this
  exact this
theorem exS_check {w : World} {hi : Nat} {v0 v1 : Value} (h : ScIn w hi (getSS exText) v0 v1) (hh : hi ≤ w.heap.size) :
    Calls Tryz.prog 42 #[.agg #[v0, v1]] w fun e w' => e = .returned (.int .i64 0) ∧ Below w.heap.size w w' := by
  have := schemeCheck_any _ v0 v1 w hi h hh
  rw [exS_ok] at this
  exact this

/-- The example's box and the scheme in it, kept. -/
structure ExS (w0 : World) (g : Nat) (A0 : Option Addr) (n0 c0 : Nat) (A1 : Option Addr) (c1 : Nat) (w : World) : Prop where
  b : Blk w g 25 #[.slice A0 n0 c0, .slice A1 2 c1]
  i : ScIn w w.heap.size (getSS exText) (.slice A0 n0 c0) (.slice A1 2 c1)
  bel : Below w0.heap.size w0 w
  le : w0.heap.size ≤ w.heap.size
theorem ExS.next {w0 : World} {g n0 c0 c1 : Nat} {A0 A1 : Option Addr} {w w' : World} (h : ExS w0 g A0 n0 c0 A1 c1 w) (hb : Below w.heap.size w w') : ExS w0 g A0 n0 c0 A1 c1 w' :=
  ⟨h.b.below hb h.b.lt, ⟨(h.i.sy.below hb (Nat.le_refl _)).more hb.size, (h.i.fn.below hb (Nat.le_refl _)).more hb.size⟩, h.bel.trans (hb.mono h.le), Nat.le_trans h.le hb.size⟩

set_option maxRecDepth 100000 in
set_option maxHeartbeats 1600000 in
theorem aliveS_any (w : World) (hg : GV w) (h8 : 8 ≤ w.heap.size) : Calls Tryz.prog 15 #[] w fun e w' => e = .returned (.bool true) ∧ Below w.heap.size w w' := by
  have H1 := Lib.hid (exS_get w hg h8)
  have HP := Lib.hid (fun w0 g A0 n0 c0 A1 c1 W (h : ExS w0 g A0 n0 c0 A1 c1 W) => exS_put h.i (Nat.le_refl _))
  have HO := Lib.hid (fun w0 g A0 n0 c0 A1 c1 W (h : ExS w0 g A0 n0 c0 A1 c1 W) => exS_order h.i (Nat.le_refl _))
  have HC := Lib.hid (fun w0 g A0 n0 c0 A1 c1 W (h : ExS w0 g A0 n0 c0 A1 c1 W) => exS_check h.i (Nat.le_refl _))
  go_enter Tryz.func15, Tryz.ntmps15
  go_wp2_with fail
  refine H1.out.mono ?_
  rintro e w1 ⟨A0, n0, c0, A1, c1, rfl, hi, b1⟩
  have k1 : ExS w w1.heap.size A0 n0 c0 A1 c1 (w1.alloc (.cells #[.slice A0 n0 c0, .slice A1 2 c1] 25)) := by
    have hb : Below w1.heap.size w1 (w1.alloc (.cells #[.slice A0 n0 c0, .slice A1 2 c1] 25)) := (Below.refl _ _).alloc (Nat.le_refl _) _
    exact ⟨Blk.new _ _ _, ⟨(hi.sy.below hb (Nat.le_refl _)).more hb.size, (hi.fn.below hb (Nat.le_refl _)).more hb.size⟩, b1.trans (hb.mono b1.size), Nat.le_trans b1.size hb.size⟩
  have u0 := k1.b.cell 0
  have u1 := k1.b.cell 1
  simp at u0 u1
  go_wp2_with fail
  refine (HP.out _ _ _ _ _ _ _ _ k1).mono ?_
  rintro e w2 ⟨rfl, b2⟩
  have k2 := k1.next b2
  have v0 := k2.b.cell 0
  have v1 := k2.b.cell 1
  simp at v0 v1
  go_wp2_with fail
  refine (HO.out _ _ _ _ _ _ _ _ k2).mono ?_
  rintro e w3 ⟨rfl, b3⟩
  have k3 := k2.next b3
  have y0 := k3.b.cell 0
  have y1 := k3.b.cell 1
  simp at y0 y1
  go_wp2_with fail
  refine (HC.out _ _ _ _ _ _ _ _ k3).mono ?_
  rintro e w4 ⟨rfl, b4⟩
  have k4 := k3.next b4
  go_wp2_with fail
  go_ret
  exact ⟨rfl, k4.bel⟩
end Go.Proofs.YtbbejhhohppdhaaGreatDoor
