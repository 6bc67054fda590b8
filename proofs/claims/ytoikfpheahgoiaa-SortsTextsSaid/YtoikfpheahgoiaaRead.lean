/-
  sorts.read: what its deferred call does, and what it returns.
-/
import Derived.Test.YtoikfpheahgoiaaSortR
import Derived.Defers
import Derived.Recover
namespace Go.Proofs.Ytoikfpheahgoiaa
open Go.RowKit

theorem catch_panicking (p q : Addr) (x y pv : Value) (u : TypeId) (older : List PanicEntry) (w : World) (hc : w.cell? p = some x) (hz : w.frozen? p = false)
    (hc' : (w.setCell p (.slice none 0 0)).cell? q = some y) (hz' : (w.setCell p (.slice none 0 0)).frozen? q = false) :
    CallsD Try.prog 56 #[.pointer (some p), .pointer (some q)] (.panicking ({ v := .iface u pv, recovered := false } :: older)) w fun e u' w' =>
      e = .returned (.tuple #[]) ∧ u' = .panicking ({ v := .iface u pv, recovered := true } :: older) ∧ w' = (w.setCell p (.slice none 0 0)).setCell q (.int .i64 4) := by
  refine callsD_of_wpS Try.func56 rfl fun c₀ cs hu => ?_
  apply wpS_seq
  apply wpS_region
  simp [wpOpsS, go_sem, recoverD, hu, Try.ntmps56, Exit.thenS]
  refine wpS_cond (t := true) (by simp [Act.eval, Array.replicate]) ?_
  simp only [if_true]
  apply wpS_region
  simp [wpOpsS, go_sem, hc, hz, hc', hz', bodyPostS, results, Try.results56]

theorem catch_idle (p q : Addr) (w : World) :
    CallsD Try.prog 56 #[.pointer (some p), .pointer (some q)] .returning w fun e u' w' => e = .returned (.tuple #[]) ∧ u' = .returning ∧ w' = w := by
  refine callsD_of_wpS Try.func56 rfl fun c₀ cs hu => ?_
  apply wpS_seq
  apply wpS_region
  simp [wpOpsS, go_sem, recoverD, hu, Try.ntmps56, Exit.thenS]
  refine wpS_cond (t := false) (by simp [Act.eval, Array.replicate]) ?_
  simp only [Bool.false_eq_true, if_false]
  refine wpS_of_wp (wp_skip ?_)
  cases c₀
  simp_all [bodyPostS, results, Try.results56]

/-- What read leaves. -/
def ReadPost (t : List UInt8) (w : World) (e : Ending) (w' : World) : Prop :=
  match parse [] t with
  | some (s, []) => ∃ v fp, e = .returned (.tuple #[.agg #[v], .int .i64 0]) ∧ s.Sep w' v fp ∧ fp.Nodup ∧ (∀ k ∈ fp, w.heap.size ≤ k ∧ k < w'.heap.size) ∧ Below w.heap.size w w'
  | _ => e = .returned (.tuple #[.agg #[.slice none 0 0], .int .i64 4]) ∧ Below w.heap.size w w'
theorem ReadPost.none_ {t : List UInt8} {w w' : World} (h : parse [] t = none) (hb : Below w.heap.size w w') : ReadPost t w (.returned (.tuple #[.agg #[.slice none 0 0], .int .i64 4])) w' := by
  rw [ReadPost, h]; exact ⟨rfl, hb⟩
theorem ReadPost.rest {t r : List UInt8} {s : S} {w w' : World} (h : parse [] t = some (s, r)) (hr : r ≠ []) (hb : Below w.heap.size w w') : ReadPost t w (.returned (.tuple #[.agg #[.slice none 0 0], .int .i64 4])) w' := by
  rw [ReadPost, h]
  cases r with
  | nil => exact absurd rfl hr
  | cons a r => exact ⟨rfl, hb⟩
theorem ReadPost.some_ {t : List UInt8} {s : S} {w w' : World} {v : Value} {fp : List Nat} (h : parse [] t = some (s, [])) (h1 : s.Sep w' v fp) (h2 : fp.Nodup) (h3 : ∀ k ∈ fp, w.heap.size ≤ k ∧ k < w'.heap.size) (hb : Below w.heap.size w w') :
    ReadPost t w (.returned (.tuple #[.agg #[v], .int .i64 0])) w' := by
  rw [ReadPost, h]; exact ⟨v, fp, rfl, h1, h2, h3, hb⟩

theorem read_results {tmps : Array Value} {w : World} {a b : Nat} {x y : Value} (h2 : tmps.getD 2 undef = .pointer (some ⟨a, 0, none⟩)) (h3 : tmps.getD 3 undef = .pointer (some ⟨b, 0, none⟩))
    (ha : Blk w a 24 #[x]) (hb : Blk w b 27 #[y]) : (results Try.f47 tmps).run Try.prog w = .ok (.tuple #[.agg #[x], y]) w := by
  have h4 := ha.cell 0
  have h5 := hb.cell 0
  simp at h4 h5
  have h2' : tmps[2]?.getD undef = .pointer (some ⟨a, 0, none⟩) := by simpa using h2
  have h3' : tmps[3]?.getD undef = .pointer (some ⟨b, 0, none⟩) := by simpa using h3
  simp [results, Try.results47, go_sem, h2', h3', h4, h5]

set_option maxHeartbeats 1600000 in
theorem read_any (t : List UInt8) (w : World) (hL : t.length ≤ 65536) :
    Calls Try.prog 47 #[.string ⟨t.toArray⟩] w (ReadPost t w) := by
  have hmf : ∀ (fn : Fn) (first cap : Array Value) (w : World), (Instr.makeFunc fn first cap).run Try.prog w = .ok (.func fn first cap) w := fun _ _ _ _ => rfl
  have hw3 : Below w.heap.size w (((w.alloc (.cells #[.slice none 0 0] 24)).alloc (.cells #[.int .i64 0] 27)).alloc (.cells #[.string ⟨t.toArray⟩] 67)) :=
    (((Below.refl _ _).alloc (Nat.le_refl _) _).alloc (by simp) _).alloc (by simp; omega) _
  have hr3 : Blk (((w.alloc (.cells #[.slice none 0 0] 24)).alloc (.cells #[.int .i64 0] 27)).alloc (.cells #[.string ⟨t.toArray⟩] 67)) w.heap.size 24 #[.slice none 0 0] := ((Blk.new _ _ _).alloc _).alloc _
  have he3 : Blk (((w.alloc (.cells #[.slice none 0 0] 24)).alloc (.cells #[.int .i64 0] 27)).alloc (.cells #[.string ⟨t.toArray⟩] 67)) (w.heap.size + 1) 27 #[.int .i64 0] := by
    have := (Blk.new (w.alloc (.cells #[.slice none 0 0] 24)) 27 #[.int .i64 0]).alloc (.cells #[.string ⟨t.toArray⟩] 67)
    simpa using this
  have hb3 : Blk (((w.alloc (.cells #[.slice none 0 0] 24)).alloc (.cells #[.int .i64 0] 27)).alloc (.cells #[.string ⟨t.toArray⟩] 67)) (w.heap.size + 1 + 1) 67 #[.string ⟨t.toArray⟩] := by
    have := Blk.new ((w.alloc (.cells #[.slice none 0 0] 24)).alloc (.cells #[.int .i64 0] 27)) 67 #[.string ⟨t.toArray⟩]
    simpa using this
  have HS := Lib.hid (sort_any (t.length + 1) t (w.heap.size + 1 + 1) _ (by omega) hL hb3)
  cases hp : parse [] t with
  | none =>
    have HQ : Hid (∀ W e w', SortPost t (w.heap.size + 1 + 1) W e w' → e = pan ∧ Saves (fun k => k = w.heap.size + 1 + 1) W w') := Lib.hid (fun W e w' h => by rw [SortPost, hp] at h; exact h)
    have HN := Lib.hid hp
    clear hp
    go_enter_defers Try.func47, Try.ntmps47
    go_wp2_with fail
    refine HS.out.mono ?_
    intro e w1 h1
    obtain ⟨rfl, s1⟩ := HQ.out _ _ _ h1
    have hr1 := hr3.saves s1 (by omega)
    have he1 := he3.saves s1 (by omega)
    have hz1 := s1.size
    have hb1 := s1.below (B := w.heap.size) (by simp; omega) (fun k hk => by omega)
    change Leaves Try.prog Try.f47 _ (ReadPost t w) _ (.panicking _) w1
    refine leaves_cons (f := 56) (args := #[.pointer (some ⟨w.heap.size, 0, none⟩), .pointer (some ⟨w.heap.size + 1, 0, none⟩)]) (by simp) (by simp [go_sem]) ?_
    refine (catch_panicking ⟨w.heap.size, 0, none⟩ ⟨w.heap.size + 1, 0, none⟩ _ _ _ _ [] _ (hr1.cell 0) (hr1.frozen 0) ((he1.far (p := ⟨w.heap.size, 0, none⟩) (by simp) _).cell 0) ((he1.far (p := ⟨w.heap.size, 0, none⟩) (by simp) _).frozen 0)).mono ?_
    rintro e u' w'' ⟨rfl, rfl, rfl⟩
    exact ⟨_, read_results rfl rfl ((hr1.set_ 0 _).far (p := ⟨w.heap.size + 1, 0, none⟩) (by simp) _) ((he1.far (p := ⟨w.heap.size, 0, none⟩) (by simp) _).set_ 0 _),
      ReadPost.none_ HN.out (((hw3.trans hb1).setCell (p := ⟨w.heap.size, 0, none⟩) (Nat.le_refl _) _).setCell (p := ⟨w.heap.size + 1, 0, none⟩) (Nat.le_succ _) _)⟩
  | some y =>
    obtain ⟨s, r⟩ := y
    have HQ : Hid (∀ W e w', SortPost t (w.heap.size + 1 + 1) W e w' → ∃ v fp, e = .returned (.agg #[v]) ∧ s.Sep w' v fp ∧ fp.Nodup ∧ (∀ k ∈ fp, W.heap.size ≤ k ∧ k < w'.heap.size) ∧ Blk w' (w.heap.size + 1 + 1) 67 #[.string ⟨r.toArray⟩] ∧ Saves (fun k => k = w.heap.size + 1 + 1) W w') :=
      Lib.hid (fun W e w' h => by rw [SortPost, hp] at h; exact h)
    have HN := Lib.hid hp
    clear hp
    by_cases hr : r = []
    · subst hr
      go_enter_defers Try.func47, Try.ntmps47
      go_wp2_with fail
      refine HS.out.mono ?_
      intro e w1 h1
      obtain ⟨v, fp, rfl, g1, g2, g3, g4, s1⟩ := HQ.out _ _ _ h1
      obtain ⟨A, n, c, rfl⟩ := g1.form
      have hr1 := hr3.saves s1 (by omega)
      have he1 := he3.saves s1 (by omega)
      have hz1 := s1.size
      have hb1 := s1.below (B := w.heap.size) (by simp; omega) (fun k hk => by omega)
      simp only [World.size_alloc] at hz1 g3
      have c1 := hr1.cell 0
      have f1 := hr1.frozen 0
      have c2 := he1.cell 0
      have f2 := he1.frozen 0
      have c3 := g4.cell 0
      go_wp2_with fail
      refine (must_yes _ _).mono ?_
      rintro e w2 ⟨rfl, rfl⟩
      go_wp2_with fail
      refine leaves_cons (f := 56) (args := #[.pointer (some ⟨w.heap.size, 0, none⟩), .pointer (some ⟨w.heap.size + 1, 0, none⟩)]) (by simp) (by simp [go_sem]) ?_
      refine (catch_idle ⟨w.heap.size, 0, none⟩ ⟨w.heap.size + 1, 0, none⟩ _).mono ?_
      rintro e u' w'' ⟨rfl, rfl, rfl⟩
      refine ⟨_, read_results rfl rfl (((hr1.set_ 0 _).set_ 0 _).far (p := ⟨w.heap.size + 1, 0, none⟩) (by simp) _) (((he1.far (p := ⟨w.heap.size, 0, none⟩) (by simp) _).far (p := ⟨w.heap.size, 0, none⟩) (by simp) _).set_ 0 _), ?_⟩
      refine ReadPost.some_ (fp := fp) HN.out (g1.keep _ fun k hk => ?_) g2 (fun k hk => ?_) ((((hw3.trans hb1).setCell (p := ⟨w.heap.size, 0, none⟩) (Nat.le_refl _) _).setCell (p := ⟨w.heap.size, 0, none⟩) (Nat.le_refl _) _).setCell (p := ⟨w.heap.size + 1, 0, none⟩) (Nat.le_succ _) _)
      · have := g3 k hk
        rw [Below.heap_setCell _ _ _ _ (by show k ≠ w.heap.size + 1; omega), Below.heap_setCell _ _ _ _ (by show k ≠ w.heap.size; omega), Below.heap_setCell _ _ _ _ (by show k ≠ w.heap.size; omega)]
      · have := g3 k hk
        simp [World.setCell]
        omega
    · have hre : r.isEmpty = false := by simpa using hr
      have HR := Lib.hid hr
      clear hr
      go_enter_defers Try.func47, Try.ntmps47
      go_wp2_with fail
      refine HS.out.mono ?_
      intro e w1 h1
      obtain ⟨v, fp, rfl, g1, g2, g3, g4, s1⟩ := HQ.out _ _ _ h1
      obtain ⟨A, n, c, rfl⟩ := g1.form
      have hr1 := hr3.saves s1 (by omega)
      have he1 := he3.saves s1 (by omega)
      have hz1 := s1.size
      have hb1 := s1.below (B := w.heap.size) (by simp; omega) (fun k hk => by omega)
      simp only [World.size_alloc] at hz1 g3
      have c1 := hr1.cell 0
      have f1 := hr1.frozen 0
      have c2 := he1.cell 0
      have f2 := he1.frozen 0
      have c3 := g4.cell 0
      go_wp2_with fail
      refine (must_no _ _).mono ?_
      rintro e w2 ⟨rfl, rfl⟩
      have hr2 := hr1.set_ 0 (.slice A n c)
      have he2 := he1.far (p := ⟨w.heap.size, 0, none⟩) (by simp) (.slice A n c)
      change Leaves Try.prog Try.f47 _ (ReadPost t w) _ (.panicking _) _
      refine leaves_cons (f := 56) (args := #[.pointer (some ⟨w.heap.size, 0, none⟩), .pointer (some ⟨w.heap.size + 1, 0, none⟩)]) (by simp) (by simp [go_sem]) ?_
      refine (catch_panicking ⟨w.heap.size, 0, none⟩ ⟨w.heap.size + 1, 0, none⟩ _ _ _ _ [] _ (hr2.cell 0) (hr2.frozen 0) ((he2.far (p := ⟨w.heap.size, 0, none⟩) (by simp) _).cell 0) ((he2.far (p := ⟨w.heap.size, 0, none⟩) (by simp) _).frozen 0)).mono ?_
      rintro e u' w'' ⟨rfl, rfl, rfl⟩
      exact ⟨_, read_results rfl rfl ((hr2.set_ 0 _).far (p := ⟨w.heap.size + 1, 0, none⟩) (by simp) _) ((he2.far (p := ⟨w.heap.size, 0, none⟩) (by simp) _).set_ 0 _),
        ReadPost.rest HN.out HR.out ((((hw3.trans hb1).setCell (p := ⟨w.heap.size, 0, none⟩) (Nat.le_refl _) _).setCell (p := ⟨w.heap.size, 0, none⟩) (Nat.le_refl _) _).setCell (p := ⟨w.heap.size + 1, 0, none⟩) (Nat.le_succ _) _)⟩
end Go.Proofs.Ytoikfpheahgoiaa
