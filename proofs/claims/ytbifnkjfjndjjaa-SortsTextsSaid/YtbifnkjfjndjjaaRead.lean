/-
  scan.All and scan.attempt at sorts' reader: what the deferred call does, and what they return.
-/
import Derived.Test.YtbifnkjfjndjjaaSortR
import Derived.Defers
import Derived.Recover
namespace Go.Proofs.Ytbifnkjfjndjjaa
open Go.RowKit

/-- What All leaves. -/
def AllPost (t : List UInt8) (w : World) (e : Ending) (w' : World) : Prop :=
  match parse [] t with
  | some (s, []) => ∃ v fp, e = .returned (.agg #[v]) ∧ s.Sep w' v fp ∧ fp.Nodup ∧ (∀ k ∈ fp, w.heap.size ≤ k ∧ k < w'.heap.size) ∧ Below w.heap.size w w'
  | _ => e = pan ∧ Below w.heap.size w w'
theorem AllPost.none_ {t : List UInt8} {w w' : World} (h : parse [] t = none) (hb : Below w.heap.size w w') : AllPost t w pan w' := by
  rw [AllPost, h]; exact ⟨rfl, hb⟩
theorem AllPost.rest {t r : List UInt8} {s : S} {w w' : World} (h : parse [] t = some (s, r)) (hr : r ≠ []) (hb : Below w.heap.size w w') : AllPost t w pan w' := by
  rw [AllPost, h]
  cases r with
  | nil => exact absurd rfl hr
  | cons a r => exact ⟨rfl, hb⟩
theorem AllPost.some_ {t : List UInt8} {s : S} {w w' : World} {v : Value} {fp : List Nat} (h : parse [] t = some (s, [])) (h1 : s.Sep w' v fp) (h2 : fp.Nodup) (h3 : ∀ k ∈ fp, w.heap.size ≤ k ∧ k < w'.heap.size) (hb : Below w.heap.size w w') :
    AllPost t w (.returned (.agg #[v])) w' := by
  rw [AllPost, h]; exact ⟨v, fp, rfl, h1, h2, h3, hb⟩

theorem all_results {tmps : Array Value} {w : World} {a : Nat} {x : Value} (h2 : tmps.getD 4 undef = .pointer (some ⟨a, 0, none⟩))
    (ha : Blk w a 24 #[x]) : (results Try.f65 tmps).run Try.prog w = .ok (.agg #[x]) w := by
  have h4 := ha.cell 0
  simp at h4
  have h2' : tmps[4]?.getD undef = .pointer (some ⟨a, 0, none⟩) := by simpa using h2
  simp [results, Try.results65, go_sem, h2', h4]

set_option maxHeartbeats 1600000 in
theorem all_any (t : List UInt8) (w : World) (hL : t.length ≤ 65536) :
    Calls Try.prog 65 #[.string ⟨t.toArray⟩, .func (.func 48) #[] #[]] w (AllPost t w) := by
  have hr3 : Blk ((w.alloc (.cells #[.slice none 0 0] 24)).alloc (.cells #[.string ⟨t.toArray⟩] 80)) w.heap.size 24 #[.slice none 0 0] := (Blk.new _ _ _).alloc _
  have hw3 : Below w.heap.size w ((w.alloc (.cells #[.slice none 0 0] 24)).alloc (.cells #[.string ⟨t.toArray⟩] 80)) :=
    ((Below.refl _ _).alloc (Nat.le_refl _) _).alloc (by simp) _
  have hb3 : Blk ((w.alloc (.cells #[.slice none 0 0] 24)).alloc (.cells #[.string ⟨t.toArray⟩] 80)) (w.heap.size + 1) 80 #[.string ⟨t.toArray⟩] := by
    have := Blk.new (w.alloc (.cells #[.slice none 0 0] 24)) 80 #[.string ⟨t.toArray⟩]
    simpa using this
  have HS := Lib.hid (sort_any (t.length + 1) t (w.heap.size + 1) _ (by omega) hL hb3)
  cases hp : parse [] t with
  | none =>
    have HQ : Hid (∀ W e w', SortPost t (w.heap.size + 1) W e w' → e = pan ∧ Saves (fun k => k = w.heap.size + 1) W w') := Lib.hid (fun W e w' h => by rw [SortPost, hp] at h; exact h)
    have HN := Lib.hid hp
    clear hp
    go_enter Try.func65, Try.ntmps65
    go_wp2_with fail
    refine HS.out.mono ?_
    intro e w1 h1
    obtain ⟨rfl, s1⟩ := HQ.out _ _ _ h1
    have hb1 := s1.below (B := w.heap.size) (by simp; omega) (fun k hk => by omega)
    exact ⟨rfl, AllPost.none_ HN.out (hw3.trans hb1)⟩
  | some y =>
    obtain ⟨s, r⟩ := y
    have HQ : Hid (∀ W e w', SortPost t (w.heap.size + 1) W e w' → ∃ v fp, e = .returned (.agg #[v]) ∧ s.Sep w' v fp ∧ fp.Nodup ∧ (∀ k ∈ fp, W.heap.size ≤ k ∧ k < w'.heap.size) ∧ Blk w' (w.heap.size + 1) 80 #[.string ⟨r.toArray⟩] ∧ Saves (fun k => k = w.heap.size + 1) W w') :=
      Lib.hid (fun W e w' h => by rw [SortPost, hp] at h; exact h)
    have HN := Lib.hid hp
    clear hp
    by_cases hr : r = []
    · subst hr
      go_enter Try.func65, Try.ntmps65
      go_wp2_with fail
      refine HS.out.mono ?_
      intro e w1 h1
      obtain ⟨v, fp, rfl, g1, g2, g3, g4, s1⟩ := HQ.out _ _ _ h1
      obtain ⟨A, n, c, rfl⟩ := g1.form
      have hb1 := s1.below (B := w.heap.size) (by simp; omega) (fun k hk => by omega)
      have hr1 := (hr3.saves s1 (by omega)).alloc (.cells #[.slice A n c] 24)
      have hz1 := s1.size
      simp only [World.size_alloc] at hz1 g3
      have g4' := g4.alloc (.cells #[.slice A n c] 24)
      have c1 := hr1.cell 0
      have f1 := hr1.frozen 0
      have c3 := g4'.cell 0
      have x1 := Blk.new w1 24 #[.slice A n c]
      have cx := x1.cell 0
      go_wp2_with fail
      refine (must_yes _ _).mono ?_
      rintro e w2 ⟨rfl, rfl⟩
      go_wp2_with fail
      refine bodyPost_ret (all_results rfl (hr1.set_ 0 _)) rfl ?_
      refine AllPost.some_ (fp := fp) HN.out (g1.keep _ fun k hk => ?_) g2 (fun k hk => ?_) (((hw3.trans hb1).alloc (by omega) _).setCell (p := ⟨w.heap.size, 0, none⟩) (Nat.le_refl _) _)
      · have := g3 k hk
        rw [Below.heap_setCell _ _ _ _ (by show k ≠ w.heap.size; omega)]
        exact Below.heap_alloc _ _ _ this.2
      · have := g3 k hk
        simp [World.setCell]
        omega
    · have hre : r.isEmpty = false := by simpa using hr
      have HR := Lib.hid hr
      clear hr
      go_enter Try.func65, Try.ntmps65
      go_wp2_with fail
      refine HS.out.mono ?_
      intro e w1 h1
      obtain ⟨v, fp, rfl, g1, g2, g3, g4, s1⟩ := HQ.out _ _ _ h1
      obtain ⟨A, n, c, rfl⟩ := g1.form
      have hb1 := s1.below (B := w.heap.size) (by simp; omega) (fun k hk => by omega)
      have hz1 := s1.size
      simp only [World.size_alloc] at hz1 g3
      have g4' := g4.alloc (.cells #[.slice A n c] 24)
      have c3 := g4'.cell 0
      go_wp2_with fail
      refine (must_no _ _).mono ?_
      rintro e w2 ⟨rfl, rfl⟩
      exact ⟨rfl, AllPost.rest HN.out HR.out ((hw3.trans hb1).alloc (by omega) _)⟩

theorem catch_panicking (q : Addr) (y pv : Value) (u : TypeId) (older : List PanicEntry) (w : World) (hc : w.cell? q = some y) (hz : w.frozen? q = false) :
    CallsD Try.prog 64 #[.pointer (some q)] (.panicking ({ v := .iface u pv, recovered := false } :: older)) w fun e u' w' =>
      e = .returned (.tuple #[]) ∧ u' = .panicking ({ v := .iface u pv, recovered := true } :: older) ∧ w' = w.setCell q (.bool false) := by
  refine callsD_of_wpS Try.func64 rfl fun c₀ cs hu => ?_
  apply wpS_region
  simp [wpOpsS, go_sem, recoverD, hu, Try.ntmps64, hc, hz, bodyPostS, results, Try.results64]

theorem catch_idle (q : Addr) (y : Value) (w : World) (hc : w.cell? q = some y) (hz : w.frozen? q = false) :
    CallsD Try.prog 64 #[.pointer (some q)] .returning w fun e u' w' => e = .returned (.tuple #[]) ∧ u' = .returning ∧ w' = w.setCell q (.bool true) := by
  refine callsD_of_wpS Try.func64 rfl fun c₀ cs hu => ?_
  apply wpS_region
  simp [wpOpsS, go_sem, recoverD, hu, Try.ntmps64, hc, hz, bodyPostS, results, Try.results64]
  cases c₀
  simp_all

/-- What attempt leaves. -/
def ReadPost (t : List UInt8) (w : World) (e : Ending) (w' : World) : Prop :=
  match parse [] t with
  | some (s, []) => ∃ v fp, e = .returned (.tuple #[.agg #[v], .bool true]) ∧ s.Sep w' v fp ∧ fp.Nodup ∧ (∀ k ∈ fp, w.heap.size ≤ k ∧ k < w'.heap.size) ∧ Below w.heap.size w w'
  | _ => e = .returned (.tuple #[.agg #[.slice none 0 0], .bool false]) ∧ Below w.heap.size w w'

theorem read_results {tmps : Array Value} {w : World} {a b : Nat} {x y : Value} (h2 : tmps.getD 4 undef = .pointer (some ⟨a, 0, none⟩)) (h3 : tmps.getD 5 undef = .pointer (some ⟨b, 0, none⟩))
    (ha : Blk w a 24 #[x]) (hb : Blk w b 4 #[y]) : (results Try.f57 tmps).run Try.prog w = .ok (.tuple #[.agg #[x], y]) w := by
  have h4 := ha.cell 0
  have h5 := hb.cell 0
  simp at h4 h5
  have h2' : tmps[4]?.getD undef = .pointer (some ⟨a, 0, none⟩) := by simpa using h2
  have h3' : tmps[5]?.getD undef = .pointer (some ⟨b, 0, none⟩) := by simpa using h3
  simp [results, Try.results57, go_sem, h2', h3', h4, h5]

set_option maxHeartbeats 1600000 in
theorem read_any (t : List UInt8) (w : World) (hL : t.length ≤ 65536) :
    Calls Try.prog 57 #[.string ⟨t.toArray⟩, .func (.func 48) #[] #[]] w (ReadPost t w) := by
  have hmf : ∀ (fn : Fn) (first cap : Array Value) (w : World), (Instr.makeFunc fn first cap).run Try.prog w = .ok (.func fn first cap) w := fun _ _ _ _ => rfl
  have hw3 : Below w.heap.size w ((w.alloc (.cells #[.slice none 0 0] 24)).alloc (.cells #[.bool false] 4)) :=
    ((Below.refl _ _).alloc (Nat.le_refl _) _).alloc (by simp) _
  have hr3 : Blk ((w.alloc (.cells #[.slice none 0 0] 24)).alloc (.cells #[.bool false] 4)) w.heap.size 24 #[.slice none 0 0] := (Blk.new _ _ _).alloc _
  have he3 : Blk ((w.alloc (.cells #[.slice none 0 0] 24)).alloc (.cells #[.bool false] 4)) (w.heap.size + 1) 4 #[.bool false] := by
    have := Blk.new (w.alloc (.cells #[.slice none 0 0] 24)) 4 #[.bool false]
    simpa using this
  have HS := Lib.hid (all_any t ((w.alloc (.cells #[.slice none 0 0] 24)).alloc (.cells #[.bool false] 4)) hL)
  by_cases hp : ∃ s, parse [] t = some (s, [])
  · obtain ⟨s, hp⟩ := hp
    have HQ : Hid (∀ W e w', AllPost t W e w' → ∃ v fp, e = .returned (.agg #[v]) ∧ s.Sep w' v fp ∧ fp.Nodup ∧ (∀ k ∈ fp, W.heap.size ≤ k ∧ k < w'.heap.size) ∧ Below W.heap.size W w') :=
      Lib.hid (fun W e w' h => by rw [AllPost, hp] at h; exact h)
    have HG : Hid (∀ v fp w', s.Sep w' v fp → fp.Nodup → (∀ k ∈ fp, w.heap.size ≤ k ∧ k < w'.heap.size) → Below w.heap.size w w' → ReadPost t w (.returned (.tuple #[.agg #[v], .bool true])) w') :=
      Lib.hid (fun v fp w' h1 h2 h3 h4 => by rw [ReadPost, hp]; exact ⟨v, fp, rfl, h1, h2, h3, h4⟩)
    clear hp
    go_enter_defers Try.func57, Try.ntmps57
    go_wp2_with fail
    refine HS.out.mono ?_
    intro e w1 h1
    obtain ⟨v, fp, rfl, g1, g2, g3, b1⟩ := HQ.out _ _ _ h1
    obtain ⟨A, n, c, rfl⟩ := g1.form
    simp only [World.size_alloc] at b1 g3
    have hr1 := hr3.below b1 (by omega)
    have he1 := he3.below b1 (by omega)
    have hz1 := b1.size
    simp only [World.size_alloc] at hz1
    have c1 := hr1.cell 0
    have f1 := hr1.frozen 0
    have c2 := he1.cell 0
    have f2 := he1.frozen 0
    go_wp2_with fail
    refine leaves_cons (f := 64) (args := #[.pointer (some ⟨w.heap.size + 1, 0, none⟩)]) (by simp) (by simp [go_sem]) ?_
    have hr2 := (hr1.set_ 0 (.slice A n c)).far (p := ⟨w.heap.size + 1, 0, none⟩) (by simp) (.bool true)
    have he2 := (he1.far (p := ⟨w.heap.size, 0, none⟩) (by simp) (.slice A n c)).set_ 0 (.bool true)
    refine (catch_idle ⟨w.heap.size + 1, 0, none⟩ _ _ (he2.cell 0) (he2.frozen 0)).mono ?_
    rintro e u' w'' ⟨rfl, rfl, rfl⟩
    refine ⟨_, read_results rfl rfl (hr2.far (p := ⟨w.heap.size + 1, 0, none⟩) (by simp) _) (he2.set_ 0 _), ?_⟩
    refine HG.out _ fp _ (g1.keep _ fun k hk => ?_) g2 (fun k hk => ?_) ((((hw3.trans (b1.mono (by omega))).setCell (p := ⟨w.heap.size, 0, none⟩) (Nat.le_refl _) _).setCell (p := ⟨w.heap.size + 1, 0, none⟩) (Nat.le_succ _) _).setCell (p := ⟨w.heap.size + 1, 0, none⟩) (Nat.le_succ _) _)
    · have := g3 k hk
      rw [Below.heap_setCell _ _ _ _ (by show k ≠ w.heap.size + 1; omega), Below.heap_setCell _ _ _ _ (by show k ≠ w.heap.size + 1; omega), Below.heap_setCell _ _ _ _ (by show k ≠ w.heap.size; omega)]
    · have := g3 k hk
      simp [World.setCell]
      omega
  · have HQ : Hid (∀ W e w', AllPost t W e w' → e = pan ∧ Below W.heap.size W w') := Lib.hid (fun W e w' h => by
      rw [AllPost] at h
      split at h
      · rename_i s h1; exact absurd ⟨s, h1⟩ hp
      · exact h)
    have HG : Hid (∀ w', Below w.heap.size w w' → ReadPost t w (.returned (.tuple #[.agg #[.slice none 0 0], .bool false])) w') := Lib.hid (fun w' h => by
      rw [ReadPost]
      split
      · rename_i s h1; exact absurd ⟨s, h1⟩ hp
      · exact ⟨rfl, h⟩)
    clear hp
    go_enter_defers Try.func57, Try.ntmps57
    go_wp2_with fail
    refine HS.out.mono ?_
    intro e w1 h1
    obtain ⟨rfl, b1⟩ := HQ.out _ _ _ h1
    simp only [World.size_alloc] at b1
    have hr1 := hr3.below b1 (by omega)
    have he1 := he3.below b1 (by omega)
    change Leaves Try.prog Try.f57 _ (ReadPost t w) _ (.panicking _) w1
    refine leaves_cons (f := 64) (args := #[.pointer (some ⟨w.heap.size + 1, 0, none⟩)]) (by simp) (by simp [go_sem]) ?_
    refine (catch_panicking ⟨w.heap.size + 1, 0, none⟩ _ _ _ [] _ (he1.cell 0) (he1.frozen 0)).mono ?_
    rintro e u' w'' ⟨rfl, rfl, rfl⟩
    exact ⟨_, read_results rfl rfl (hr1.far (p := ⟨w.heap.size + 1, 0, none⟩) (by simp) _) (he1.set_ 0 _),
      HG.out _ ((hw3.trans (b1.mono (by omega))).setCell (p := ⟨w.heap.size + 1, 0, none⟩) (Nat.le_succ _) _)⟩
end Go.Proofs.Ytbifnkjfjndjjaa
