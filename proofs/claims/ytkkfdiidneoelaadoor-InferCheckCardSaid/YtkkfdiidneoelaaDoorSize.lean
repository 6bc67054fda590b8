/-
  sorts.Size, sorts.Check: contracts.
-/
import Derived.Test.YtkkfdiidneoelaaDoorVisit
namespace Go.Proofs.YtkkfdiidneoelaaDoor
open Go.RowKit

def sizeStep (st : Nat × Nat) (_ : S) (lvl : Nat) : Bool × (Nat × Nat) := (decide (st.1 + 1 ≤ 60), (st.1 + 1, max st.2 lvl))
def fewStep (_ : Unit) (x : S) (_ : Nat) : Bool × Unit := (decide (x.args.length ≤ 8), ())

mutual
theorem visit_size : ∀ (s : S) (st : Nat × Nat) (lvl : Nat), (visit sizeStep st lvl s).1 = decide (st.1 + s.count ≤ 60) ∧
    ((visit sizeStep st lvl s).1 = true → (visit sizeStep st lvl s).2 = (st.1 + s.count, max st.2 (lvl + s.deep - 1)))
  | .mk l, st, lvl => by
    have hp : S.countL l + 1 = (S.mk l).count := by simp only [S.count]; omega
    have hq : S.deepL l + 1 = (S.mk l).deep := by simp only [S.deep]
    by_cases hc : st.1 + 1 ≤ 60
    · have h := visitL_size l (st.1 + 1, max st.2 lvl) (lvl + 1) hc (by show lvl + 1 ≤ max st.2 lvl + 1; omega)
      have hv : visit sizeStep st lvl (.mk l) = visitL sizeStep (st.1 + 1, max st.2 lvl) (lvl + 1) l := by simp [visit, sizeStep, hc]
      rw [hv]
      refine ⟨h.1.trans (decide_eq_decide.2 (by simp only; omega)), fun ht => ?_⟩
      rw [h.2 ht, Prod.mk.injEq]
      constructor
      · simp only; omega
      · simp only; omega
    · have hv : visit sizeStep st lvl (.mk l) = (false, (st.1 + 1, max st.2 lvl)) := by simp [visit, sizeStep, hc]
      rw [hv]
      refine ⟨?_, fun ht => by cases ht⟩
      have : ¬ st.1 + (S.mk l).count ≤ 60 := by omega
      simp [this]
theorem visitL_size : ∀ (l : List S) (st : Nat × Nat) (lvl : Nat), st.1 ≤ 60 → lvl ≤ st.2 + 1 → (visitL sizeStep st lvl l).1 = decide (st.1 + S.countL l ≤ 60) ∧
    ((visitL sizeStep st lvl l).1 = true → (visitL sizeStep st lvl l).2 = (st.1 + S.countL l, max st.2 (lvl + S.deepL l - 1)))
  | [], st, lvl, h1, h2 => by
    simp only [visitL, S.countL, S.deepL]
    refine ⟨by simp [h1], fun _ => ?_⟩
    rw [Prod.ext_iff]
    constructor
    · simp
    · simp only; omega
  | x :: r, st, lvl, h1, h2 => by
    have h := visit_size x st lvl
    have hcx := x.count_pos
    have hdx : 0 < x.deep := by cases x; simp [S.deep]
    by_cases hb : (visit sizeStep st lvl x).1 = true
    · have hs := h.2 hb
      have hb0 := hb
      rw [h.1] at hb
      have hb' : st.1 + x.count ≤ 60 := by simpa using hb
      have hr := visitL_size r (st.1 + x.count, max st.2 (lvl + x.deep - 1)) lvl hb' (by show lvl ≤ max st.2 (lvl + x.deep - 1) + 1; omega)
      have hv : visitL sizeStep st lvl (x :: r) = visitL sizeStep (st.1 + x.count, max st.2 (lvl + x.deep - 1)) lvl r := by
        simp only [visitL]; rw [if_pos hb0, hs]
      rw [hv]
      refine ⟨hr.1.trans (decide_eq_decide.2 (by simp only [S.countL]; omega)), fun ht => ?_⟩
      rw [hr.2 ht, Prod.mk.injEq]
      constructor
      · simp only [S.countL]; omega
      · simp only [S.deepL]; omega
    · have hb2 : (visit sizeStep st lvl x).1 = false := by simpa using hb
      have hv : visitL sizeStep st lvl (x :: r) = (false, (visit sizeStep st lvl x).2) := by simp [visitL, hb2]
      rw [hv]
      rw [h.1] at hb2
      have hb' : ¬ st.1 + x.count ≤ 60 := by simpa using hb2
      refine ⟨?_, fun ht => by cases ht⟩
      have : ¬ st.1 + S.countL (x :: r) ≤ 60 := by simp only [S.countL]; omega
      simp [this]
end
mutual
theorem visit_few : ∀ (s : S) (st : Unit) (lvl : Nat), (visit fewStep st lvl s).1 = s.few
  | .mk l, st, lvl => by
    have h := visitL_few l () (lvl + 1)
    by_cases hc : l.length ≤ 8
    · simp [visit, fewStep, S.args, hc, S.few, h]
    · simp [visit, fewStep, S.args, hc, S.few]
theorem visitL_few : ∀ (l : List S) (st : Unit) (lvl : Nat), (visitL fewStep st lvl l).1 = S.fewL l
  | [], st, lvl => by simp [visitL, S.fewL]
  | x :: r, st, lvl => by
    have h := visit_few x st lvl
    have hr := visitL_few r () lvl
    simp only [visitL, h, S.fewL]
    cases x.few <;> simp [hr]
end

theorem sizeOk (st : Nat × Nat) (l : List S) (lvl : Nat) (h : lvl ≤ st.1 + 1 ∧ st.1 ≤ 60) :
    lvl ≤ 1000 ∧ ((sizeStep st (.mk l) lvl).1 = true → ∀ k x, l[k]? = some x → (visitL sizeStep (sizeStep st (.mk l) lvl).2 (lvl + 1) (l.take k)).1 = true →
      lvl + 1 ≤ (visitL sizeStep (sizeStep st (.mk l) lvl).2 (lvl + 1) (l.take k)).2.1 + 1 ∧ (visitL sizeStep (sizeStep st (.mk l) lvl).2 (lvl + 1) (l.take k)).2.1 ≤ 60) := by
  refine ⟨by omega, fun hs k x _ ht => ?_⟩
  have hs' : st.1 + 1 ≤ 60 := by simpa [sizeStep] using hs
  have hr := visitL_size (l.take k) (sizeStep st (.mk l) lvl).2 (lvl + 1) hs' (by show lvl + 1 ≤ max st.2 lvl + 1; omega)
  have hr1 := hr.1
  rw [ht] at hr1
  rw [hr.2 ht]
  have : (sizeStep st (.mk l) lvl).2.1 + S.countL (l.take k) ≤ 60 := by simpa using hr1.symm
  refine ⟨?_, this⟩
  show lvl + 1 ≤ (st.1 + 1) + S.countL (l.take k) + 1
  omega

set_option maxHeartbeats 400000 in
theorem fewArgs_any (s : S) (v : Value) (w : World) (lo hi : Nat) (hin : s.In w lo hi v) :
    Calls Tryd.prog 92 #[.agg #[v]] w fun e w' => e = .returned (.bool (decide (s.args.length ≤ 8))) ∧ Below w.heap.size w w' := by
  obtain ⟨l⟩ := s
  simp only [S.In] at hin
  obtain ⟨A, _, c, rfl, rfl, hnc, hc, hall⟩ := hin
  have HF : Hid (decide ((l.length : Int) ≤ 8) = decide ((S.mk l).args.length ≤ 8)) := Lib.hid (decide_eq_decide.2 (by simp only [S.args]; omega))
  go_enter Tryd.func92, Tryd.ntmps92
  go_wp2_with fail
  go_ret
  exact ⟨ret_bool HF.out, (Below.refl _ _).alloc (Nat.le_refl _) _⟩

/-- The cells of a count: the most (60), the nodes, the depth. -/
def Two (B b : Nat) (st : Nat × Nat) (w : World) : Prop := B ≤ b ∧ Blk w b 3 #[.int .i64 60] ∧ Blk w (b + 1) 3 #[.int .i64 (st.1 : Int)] ∧ Blk w (b + 2) 3 #[.int .i64 (st.2 : Int)]

set_option maxHeartbeats 400000 in
theorem size1_any (s : S) (v : Value) (lvl : Nat) (w : World) (B b : Nat) (st : Nat × Nat) (h60 : st.1 ≤ 60) (h2 : Two B b st w) (lo hi : Nat) (hin : s.In w lo hi v) :
    Calls Tryd.prog 108 #[.agg #[v], .int .i64 (lvl : Int), .pointer (some ⟨b + 1, 0, none⟩), .pointer (some ⟨b + 2, 0, none⟩), .pointer (some ⟨b, 0, none⟩)] w fun e w' =>
      e = .returned (.bool (sizeStep st s lvl).1) ∧ Two B b (sizeStep st s lvl).2 w' ∧ Saves (fun k => k = b + 1 ∨ k = b + 2) w w' := by
  obtain ⟨A, n, c, rfl⟩ := hin.form
  obtain ⟨n0, d0⟩ := st
  obtain ⟨hB, hb0, hb1, hb2⟩ := h2
  simp only at h60 hb1 hb2
  have hl0 := hb0.lt
  have hl1 := hb1.lt
  have hl2 := hb2.lt
  have hc0 := hb0.cell 0
  have hc1 := hb1.cell 0
  have hc2 := hb2.cell 0
  have hf1 := hb1.frozen 0
  have hf2 := hb2.frozen 0
  go_enter Tryd.func108, Tryd.ntmps108
  go_wp2_with fail
  all_goals
    go_ret
    refine ⟨ret_bool (decide_eq_decide.2 (by show (n0 : Int) + 1 ≤ 60 ↔ n0 + 1 ≤ 60; omega)), ⟨hB, ?_, ?_, ?_⟩, (((Saves.refl _ _).setCell (.inl (.inl rfl)) _).setCell (.inl (.inr rfl)) _).alloc _⟩
    · exact ((hb0.far (p := ⟨b + 1, 0, none⟩) (by simp) _).far (p := ⟨b + 2, 0, none⟩) (by simp) _).alloc _
    · exact ((hb1.set_ 0 _).far (p := ⟨b + 2, 0, none⟩) (by simp) _).alloc _
    · refine (((hb2.far (p := ⟨b + 1, 0, none⟩) (by simp) _).set_ 0 _).alloc _).eq_ (congrArg (fun z : Int => #[Value.int .i64 z]) ?_)
      show _ = ((max d0 lvl : Nat) : Int)
      omega

theorem two_kept {B b : Nat} {st : Nat × Nat} {w w' : World} (h : Two B b st w) (hb : Below w.heap.size w w') : Two B b st w' :=
  ⟨h.1, h.2.1.below hb h.2.1.lt, h.2.2.1.below hb h.2.2.1.lt, h.2.2.2.below hb h.2.2.2.lt⟩

theorem size_visit (s : S) (v : Value) (w : World) (b : Nat) (st : Nat × Nat) (h60 : st.1 ≤ 60) (lo hi : Nat) (h2 : Two hi b st w) (hin : s.In w lo hi v) (hhi : hi ≤ w.heap.size) :
    Calls Tryd.prog 103 #[.agg #[v], .int .i64 ((1 : Nat) : Int), .func (.func 91) #[] #[], .func (.func 108) #[] #[.pointer (some ⟨b + 1, 0, none⟩), .pointer (some ⟨b + 2, 0, none⟩), .pointer (some ⟨b, 0, none⟩)]] w fun e w' =>
      e = .returned (.bool (visit sizeStep st 1 s).1) ∧ Two hi b (visit sizeStep st 1 s).2 w' ∧ Saves (fun k => k = b + 1 ∨ k = b + 2) w w' := by
  refine visit_any (I := Two hi b) (M := fun k => k = b + 1 ∨ k = b + 2) (ok := fun st _ lvl => lvl ≤ st.1 + 1 ∧ st.1 ≤ 60) (fun _ _ _ h hb => two_kept h hb) ?_ Tryd.call108 ?_ ?_ ?_ _ s v 1 w st (Nat.le_refl _) ⟨by omega, h60⟩ h2 hin hhi
  · rintro w k st ⟨_, h0, h1, h2⟩ (rfl | rfl)
    · exact h1.lt
    · exact h2.lt
  · rintro k hk (rfl | rfl)
    · have := h2.1; omega
    · have := h2.1; omega
  · exact fun st l lvl h => sizeOk st l lvl h
  · exact fun st x v lvl w h hI hin _ => size1_any x v lvl w hi b st h.2 hI lo hi hin

theorem size_results {tmps : Array Value} {w : World} {a b : Nat} {x y : Int} (h2 : tmps.getD 6 undef = .pointer (some ⟨a, 0, none⟩)) (h3 : tmps.getD 7 undef = .pointer (some ⟨b, 0, none⟩))
    (ha : Blk w a 3 #[.int .i64 x]) (hb : Blk w b 3 #[.int .i64 y]) : (results Tryd.f102 tmps).run Tryd.prog w = .ok (.tuple #[.int .i64 x, .int .i64 y]) w := by
  have h4 := ha.cell 0
  have h5 := hb.cell 0
  simp at h4 h5
  have h2' : tmps[6]?.getD undef = .pointer (some ⟨a, 0, none⟩) := by simpa using h2
  have h3' : tmps[7]?.getD undef = .pointer (some ⟨b, 0, none⟩) := by simpa using h3
  simp [results, Tryd.results102, go_sem, h2', h3', h4, h5]

set_option maxHeartbeats 400000 in
theorem nestSize_any (s : S) (v : Value) (w : World) (lo hi : Nat) (hin : s.In w lo hi v) (hhi : hi ≤ w.heap.size) :
    Calls Tryd.prog 102 #[.agg #[v], .func (.func 91) #[] #[], .int .i64 60] w fun e w' => e = .returned (.tuple #[.int .i64 (s.sizes.1 : Int), .int .i64 (s.sizes.2 : Int)]) ∧ Below w.heap.size w w' := by
  obtain ⟨A, n, c, rfl⟩ := hin.form
  have hv := visit_size s (0, 0) 1
  have hw3 : Below w.heap.size w ((((w.alloc (.cells #[.slice A n c] 41)).alloc (.cells #[.int .i64 60] 3)).alloc (.cells #[.int .i64 0] 3)).alloc (.cells #[.int .i64 0] 3)) :=
    ((((Below.refl _ _).alloc (Nat.le_refl _) _).alloc (by simp) _).alloc (by simp; omega) _).alloc (by simp; omega) _
  have h2 : Two hi (w.heap.size + 1) (0, 0) ((((w.alloc (.cells #[.slice A n c] 41)).alloc (.cells #[.int .i64 60] 3)).alloc (.cells #[.int .i64 0] 3)).alloc (.cells #[.int .i64 0] 3)) :=
    ⟨by omega, (by simpa using ((Blk.new (w.alloc (.cells #[.slice A n c] 41)) 3 #[.int .i64 60]).alloc _).alloc _),
      (by simpa using (Blk.new ((w.alloc (.cells #[.slice A n c] 41)).alloc (.cells #[.int .i64 60] 3)) 3 #[.int .i64 0]).alloc _),
      (by simpa using Blk.new (((w.alloc (.cells #[.slice A n c] 41)).alloc (.cells #[.int .i64 60] 3)).alloc (.cells #[.int .i64 0] 3)) 3 #[.int .i64 0])⟩
  have hct := size_visit s _ _ (w.heap.size + 1) (0, 0) (by simp) lo hi h2 (hin.below hw3 hhi) (by simp; omega)
  by_cases h60 : s.count ≤ 60
  · have hv1 : (visit sizeStep (0, 0) 1 s).1 = true := by rw [hv.1]; simpa using h60
    have hv2 := hv.2 hv1
    rw [hv1, hv2] at hct
    have HS : Hid (s.sizes = (s.count, s.deep)) := Lib.hid (by simp [S.sizes, h60])
    have HC := Lib.hid hct
    clear hct hv2 hv1 hv h2
    go_enter Tryd.func102, Tryd.ntmps102
    go_wp2_with fail
    refine HC.out.mono ?_
    rintro e w1 ⟨rfl, ⟨_, _, hk1, hk2⟩, hs1⟩
    have hc1 := hk1.cell 0
    have hc2 := hk2.cell 0
    have hf1 := hk1.frozen 0
    have hf2 := hk2.frozen 0
    have hb1 := hs1.below (B := w.heap.size) (by simp; omega) (fun k hk => by rintro (rfl | rfl) <;> omega)
    go_wp2_with fail
    go_region
    go_wp2
    refine bodyPost_ret (size_results rfl rfl (((hk1.set_ 0 _).far (p := ⟨w.heap.size + 1 + 2, 0, none⟩) (by simp) _).drew) (((hk2.far (p := ⟨w.heap.size + 1 + 1, 0, none⟩) (by simp) _).set_ 0 _).drew)) rfl ⟨by rw [HS.out], ?_⟩
    exact (((hw3.trans hb1).setCell (by simp; omega) _).setCell (by simp; omega) _).drew
  · have hv1 : (visit sizeStep (0, 0) 1 s).1 = false := by rw [hv.1]; simpa using h60
    rw [hv1] at hct
    have HS : Hid (s.sizes = (61, 0)) := Lib.hid (by simp [S.sizes, h60])
    have HC := Lib.hid hct
    clear hct hv1 hv h2
    go_enter Tryd.func102, Tryd.ntmps102
    go_wp2_with fail
    refine HC.out.mono ?_
    rintro e w1 ⟨rfl, ⟨_, hk0, hk1, hk2⟩, hs1⟩
    have hc0 := hk0.cell 0
    have hc1 := hk1.cell 0
    have hc2 := hk2.cell 0
    have hf1 := hk1.frozen 0
    have hf2 := hk2.frozen 0
    have hb1 := hs1.below (B := w.heap.size) (by simp; omega) (fun k hk => by rintro (rfl | rfl) <;> omega)
    go_wp2_with fail
    refine bodyPost_ret (size_results (x := 61) (y := 0) rfl rfl ((hk1.set_ 0 _).far (p := ⟨w.heap.size + 1 + 2, 0, none⟩) (by simp) _) ((hk2.far (p := ⟨w.heap.size + 1 + 1, 0, none⟩) (by simp) _).set_ 0 _)) rfl ⟨by rw [HS.out]; rfl, ?_⟩
    exact ((hw3.trans hb1).setCell (by simp; omega) _).setCell (by simp; omega) _

set_option maxHeartbeats 400000 in
theorem size_any (s : S) (v : Value) (w : World) (lo hi : Nat) (hin : s.In w lo hi v) (hhi : hi ≤ w.heap.size) :
    Calls Tryd.prog 89 #[.agg #[v]] w fun e w' => e = .returned (.tuple #[.int .i64 (s.sizes.1 : Int), .int .i64 (s.sizes.2 : Int)]) ∧ Below w.heap.size w w' := by
  obtain ⟨A, n, c, rfl⟩ := hin.form
  have hw1 : Below w.heap.size w (w.alloc (.cells #[.slice A n c] 41)) := (Below.refl _ _).alloc (Nat.le_refl _) _
  have HC := Lib.hid (nestSize_any s _ _ lo hi (hin.below hw1 hhi) (by simp; omega))
  generalize s.sizes.1 = z1 at *
  generalize s.sizes.2 = z2 at *
  go_enter Tryd.func89, Tryd.ntmps89
  go_wp2_with fail
  refine HC.out.mono ?_
  rintro e w1 ⟨rfl, hb1⟩
  simp only [World.size_alloc] at hb1
  go_wp2_with fail
  go_ret2
  exact ⟨rfl, hw1.trans (hb1.mono (by omega))⟩

set_option maxHeartbeats 400000 in
theorem all1_few (s : S) (v : Value) (lvl : Nat) (w : World) (b : Nat) (lo hi : Nat) (hin : s.In w lo hi v) (hhi : hi ≤ w.heap.size)
    (hb : Blk w b 49 #[.func (.func 92) #[] #[]]) :
    Calls Tryd.prog 104 #[.agg #[v], .int .i64 (lvl : Int), .pointer (some ⟨b, 0, none⟩)] w fun e w' =>
      e = .returned (.bool (decide (s.args.length ≤ 8))) ∧ Below w.heap.size w w' := by
  obtain ⟨A, n, c, rfl⟩ := hin.form
  have hl := hb.lt
  have hc := hb.cell 0
  have hw1 : Below w.heap.size w (w.alloc (.cells #[.slice A n c] 41)) := (Below.refl _ _).alloc (Nat.le_refl _) _
  have HC := Lib.hid (fewArgs_any s _ _ lo hi (hin.below hw1 hhi))
  generalize decide (s.args.length ≤ 8) = z at *
  go_enter Tryd.func104, Tryd.ntmps104
  go_wp2_with fail
  refine HC.out.mono ?_
  rintro e w1 ⟨rfl, hb1⟩
  simp only [World.size_alloc] at hb1
  go_wp2_with fail
  go_ret
  exact ⟨rfl, hw1.trans (hb1.mono (by omega))⟩

set_option maxHeartbeats 400000 in
theorem few_all (s : S) (v : Value) (w : World) (lo hi : Nat) (hd : s.deep ≤ 900) (hin : s.In w lo hi v) (hhi : hi ≤ w.heap.size) :
    Calls Tryd.prog 90 #[.agg #[v], .func (.func 91) #[] #[], .func (.func 92) #[] #[]] w fun e w' =>
      e = .returned (.bool s.few) ∧ Below w.heap.size w w' := by
  obtain ⟨A, n, c, rfl⟩ := hin.form
  have hw2 : Below w.heap.size w ((w.alloc (.cells #[.slice A n c] 41)).alloc (.cells #[.func (.func 92) #[] #[]] 49)) := ((Below.refl _ _).alloc (Nat.le_refl _) _).alloc (by simp) _
  have hbk : Blk ((w.alloc (.cells #[.slice A n c] 41)).alloc (.cells #[.func (.func 92) #[] #[]] 49)) (w.heap.size + 1) 49 #[.func (.func 92) #[] #[]] := by
    simpa using Blk.new (w.alloc (.cells #[.slice A n c] 41)) 49 #[.func (.func 92) #[] #[]]
  have hct : Calls Tryd.prog 103 #[.agg #[.slice A n c], .int .i64 ((1 : Nat) : Int), .func (.func 91) #[] #[], .func (.func 104) #[] #[.pointer (some ⟨w.heap.size + 1, 0, none⟩)]]
      ((w.alloc (.cells #[.slice A n c] 41)).alloc (.cells #[.func (.func 92) #[] #[]] 49)) fun e w' => e = .returned (.bool s.few) ∧ Below (w.heap.size + 1 + 1) ((w.alloc (.cells #[.slice A n c] 41)).alloc (.cells #[.func (.func 92) #[] #[]] 49)) w' := by
    refine Calls.mono (visit_any (step := fewStep) (I := fun _ w' => Blk w' (w.heap.size + 1) 49 #[.func (.func 92) #[] #[]]) (M := fun _ => False) (ok := fun _ x lvl => lvl + x.deep ≤ 1000) (lo := lo) (hi := hi) (fun _ _ _ h hb => h.below hb h.lt) (fun _ _ _ _ h => h.elim) Tryd.call104 (fun _ _ h => h) ?_ ?_ _ s _ 1 _ () (Nat.le_refl _) (by omega) hbk (hin.below hw2 hhi) (by simp; omega))
      (fun e w' ⟨he, _, hs⟩ => ⟨by rw [he, visit_few], by simpa using hs.below (Nat.le_refl _) (fun _ _ h => h)⟩)
    · intro st l lvl h
      simp only [S.deep] at h
      refine ⟨by omega, fun _ k x hx _ => ?_⟩
      have h1 := S.deepL_take_succ l k x hx
      have h2 := S.deepL_take_le l (k + 1)
      omega
    · intro st x v lvl w _ hI hin hhi
      exact (all1_few x v lvl w _ lo hi hin hhi hI).mono fun e w' ⟨he, hb⟩ => ⟨he, hI.below hb hI.lt, Saves.of_below hb⟩
  have HC := Lib.hid hct
  clear hct hbk
  go_enter Tryd.func90, Tryd.ntmps90
  go_wp2_with fail
  refine HC.out.mono ?_
  rintro e w1 ⟨rfl, hb1⟩
  go_wp2_with fail
  go_ret
  exact ⟨rfl, hw2.trans (hb1.mono (by omega))⟩

set_option maxHeartbeats 400000 in
theorem check_any (s : S) (v : Value) (w : World) (lo hi : Nat) (hin : s.In w lo hi v) (hhi : hi ≤ w.heap.size) :
    Calls Tryd.prog 66 #[.agg #[v]] w fun e w' => e = .returned (.int .i64 (errOf s.ok)) ∧ Below w.heap.size w w' := by
  obtain ⟨A, n, c, rfl⟩ := hin.form
  have hw1 : Below w.heap.size w (w.alloc (.cells #[.slice A n c] 41)) := (Below.refl _ _).alloc (Nat.le_refl _) _
  have hin1 := hin.below hw1 hhi
  have hbk := Blk.new w 41 #[.slice A n c]
  by_cases h1 : s.count ≤ 60
  · by_cases h2 : s.deep ≤ 30
    · have hs : s.sizes = (s.count, s.deep) := by simp [S.sizes, h1]
      have HC := Lib.hid (size_any s _ _ lo hi hin1 (by simp; omega))
      rw [hs] at HC
      cases hf : s.few with
      | true =>
        have HO : Hid (errOf s.ok = 0) := Lib.hid (by simp [S.ok, h1, h2, hf, errOf])
        have HF := Lib.hid hf
        clear hs hf
        go_enter Tryd.func66, Tryd.ntmps66
        go_wp2_with fail
        refine HC.out.mono ?_
        rintro e w1 ⟨rfl, hb1⟩
        have hc1 := (hbk.below hb1 (by simp)).cell 0
        have hin2 := hin1.below hb1 (by simp; omega)
        have hz := hb1.size
        simp only [World.size_alloc] at hb1 hz
        go_wp2_with fail
        refine (few_all s _ _ lo hi (by omega) hin2 (by omega)).mono ?_
        rw [HF.out]
        rintro e w2 ⟨rfl, hb2⟩
        go_wp2_with fail
        go_ret
        exact ⟨ret_int HO.out.symm, (hw1.trans (hb1.mono (by omega))).trans (hb2.mono (by omega))⟩
      | false =>
        have HO : Hid (errOf s.ok = 6) := Lib.hid (by simp [S.ok, h1, h2, hf, errOf])
        have HF := Lib.hid hf
        clear hs hf
        go_enter Tryd.func66, Tryd.ntmps66
        go_wp2_with fail
        refine HC.out.mono ?_
        rintro e w1 ⟨rfl, hb1⟩
        have hc1 := (hbk.below hb1 (by simp)).cell 0
        have hin2 := hin1.below hb1 (by simp; omega)
        have hz := hb1.size
        simp only [World.size_alloc] at hb1 hz
        go_wp2_with fail
        refine (few_all s _ _ lo hi (by omega) hin2 (by omega)).mono ?_
        rw [HF.out]
        rintro e w2 ⟨rfl, hb2⟩
        go_wp2_with fail
        go_ret
        exact ⟨ret_int HO.out.symm, (hw1.trans (hb1.mono (by omega))).trans (hb2.mono (by omega))⟩
    · have hs : s.sizes = (s.count, s.deep) := by simp [S.sizes, h1]
      have HC := Lib.hid (size_any s _ _ lo hi hin1 (by simp; omega))
      rw [hs] at HC
      have HO : Hid (errOf s.ok = 6) := Lib.hid (by simp [S.ok, h2, errOf])
      clear hs
      go_enter Tryd.func66, Tryd.ntmps66
      go_wp2_with fail
      refine HC.out.mono ?_
      rintro e w1 ⟨rfl, hb1⟩
      simp only [World.size_alloc] at hb1
      go_wp2_with fail
      go_ret
      exact ⟨ret_int HO.out.symm, hw1.trans (hb1.mono (by omega))⟩
  · have hs : s.sizes = (61, 0) := by simp [S.sizes, h1]
    have HC := Lib.hid (size_any s _ _ lo hi hin1 (by simp; omega))
    rw [hs] at HC
    have HO : Hid (errOf s.ok = 6) := Lib.hid (by simp [S.ok, h1, errOf])
    clear hs
    go_enter Tryd.func66, Tryd.ntmps66
    go_wp2_with fail
    refine HC.out.mono ?_
    rintro e w1 ⟨rfl, hb1⟩
    simp only [World.size_alloc] at hb1
    go_wp2_with fail
    go_ret
    exact ⟨ret_int HO.out.symm, hw1.trans (hb1.mono (by omega))⟩

theorem S.ok_count {s : S} (h : s.ok = true) : s.count ≤ 60 := by
  simp only [S.ok, Bool.and_eq_true, decide_eq_true_eq] at h; omega

end Go.Proofs.YtkkfdiidneoelaaDoor
