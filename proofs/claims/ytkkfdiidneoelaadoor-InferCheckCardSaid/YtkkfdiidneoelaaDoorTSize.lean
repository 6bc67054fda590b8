/-
  nest.Size and nest.All at terms, term.Size: contracts.
-/
import Derived.Test.YtkkfdiidneoelaaDoorTVisit
namespace Go.Proofs.YtkkfdiidneoelaaDoor
open Go.RowKit

def sizeStepT (st : Nat × Nat) (_ : T) (lvl : Nat) : Bool × (Nat × Nat) := (decide (st.1 + 1 ≤ 100000), (st.1 + 1, max st.2 lvl))
mutual
theorem visitT_size : ∀ (s : T) (st : Nat × Nat) (lvl : Nat), (visitT sizeStepT st lvl s).1 = decide (st.1 + s.count ≤ 100000) ∧
    ((visitT sizeStepT st lvl s).1 = true → (visitT sizeStepT st lvl s).2 = (st.1 + s.count, max st.2 (lvl + s.deep - 1)))
  | .mk k n l, st, lvl => by
    have hp : T.countL l + 1 = (T.mk k n l).count := by simp only [T.count]; omega
    have hq : T.deepL l + 1 = (T.mk k n l).deep := by simp only [T.deep]
    by_cases hc : st.1 + 1 ≤ 100000
    · have h := visitTL_size l (st.1 + 1, max st.2 lvl) (lvl + 1) hc (by show lvl + 1 ≤ max st.2 lvl + 1; omega)
      have hv : visitT sizeStepT st lvl (.mk k n l) = visitTL sizeStepT (st.1 + 1, max st.2 lvl) (lvl + 1) l := by simp [visitT, sizeStepT, hc]
      rw [hv]
      refine ⟨h.1.trans (decide_eq_decide.2 (by simp only; omega)), fun ht => ?_⟩
      rw [h.2 ht, Prod.mk.injEq]
      constructor
      · simp only; omega
      · simp only; omega
    · have hv : visitT sizeStepT st lvl (.mk k n l) = (false, (st.1 + 1, max st.2 lvl)) := by simp [visitT, sizeStepT, hc]
      rw [hv]
      refine ⟨?_, fun ht => by cases ht⟩
      have : ¬ st.1 + (T.mk k n l).count ≤ 100000 := by omega
      simp [this]
theorem visitTL_size : ∀ (l : List T) (st : Nat × Nat) (lvl : Nat), st.1 ≤ 100000 → lvl ≤ st.2 + 1 → (visitTL sizeStepT st lvl l).1 = decide (st.1 + T.countL l ≤ 100000) ∧
    ((visitTL sizeStepT st lvl l).1 = true → (visitTL sizeStepT st lvl l).2 = (st.1 + T.countL l, max st.2 (lvl + T.deepL l - 1)))
  | [], st, lvl, h1, h2 => by
    simp only [visitTL, T.countL, T.deepL]
    refine ⟨by simp [h1], fun _ => ?_⟩
    rw [Prod.ext_iff]
    constructor
    · simp
    · simp only; omega
  | x :: r, st, lvl, h1, h2 => by
    have h := visitT_size x st lvl
    have hcx := x.count_pos
    have hdx : 0 < x.deep := by cases x; simp [T.deep]
    by_cases hb : (visitT sizeStepT st lvl x).1 = true
    · have hs := h.2 hb
      have hb0 := hb
      rw [h.1] at hb
      have hb' : st.1 + x.count ≤ 100000 := by simpa using hb
      have hr := visitTL_size r (st.1 + x.count, max st.2 (lvl + x.deep - 1)) lvl hb' (by show lvl ≤ max st.2 (lvl + x.deep - 1) + 1; omega)
      have hv : visitTL sizeStepT st lvl (x :: r) = visitTL sizeStepT (st.1 + x.count, max st.2 (lvl + x.deep - 1)) lvl r := by
        simp only [visitTL]; rw [if_pos hb0, hs]
      rw [hv]
      refine ⟨hr.1.trans (decide_eq_decide.2 (by simp only [T.countL]; omega)), fun ht => ?_⟩
      rw [hr.2 ht, Prod.mk.injEq]
      constructor
      · simp only [T.countL]; omega
      · simp only [T.deepL]; omega
    · have hb2 : (visitT sizeStepT st lvl x).1 = false := by simpa using hb
      have hv : visitTL sizeStepT st lvl (x :: r) = (false, (visitT sizeStepT st lvl x).2) := by simp [visitTL, hb2]
      rw [hv]
      rw [h.1] at hb2
      have hb' : ¬ st.1 + x.count ≤ 100000 := by simpa using hb2
      refine ⟨?_, fun ht => by cases ht⟩
      have : ¬ st.1 + T.countL (x :: r) ≤ 100000 := by simp only [T.countL]; omega
      simp [this]
end

theorem sizeOkT (st : Nat × Nat) (k n : Int) (l : List T) (lvl : Nat) (h : lvl ≤ st.1 + 1 ∧ st.1 ≤ 100000) :
    lvl ≤ 1000000 ∧ ((sizeStepT st (.mk k n l) lvl).1 = true → ∀ j x, l[j]? = some x → (visitTL sizeStepT (sizeStepT st (.mk k n l) lvl).2 (lvl + 1) (l.take j)).1 = true →
      lvl + 1 ≤ (visitTL sizeStepT (sizeStepT st (.mk k n l) lvl).2 (lvl + 1) (l.take j)).2.1 + 1 ∧ (visitTL sizeStepT (sizeStepT st (.mk k n l) lvl).2 (lvl + 1) (l.take j)).2.1 ≤ 100000) := by
  refine ⟨by omega, fun hs j x _ ht => ?_⟩
  have hs' : st.1 + 1 ≤ 100000 := by simpa [sizeStepT] using hs
  have hr := visitTL_size (l.take j) (sizeStepT st (.mk k n l) lvl).2 (lvl + 1) hs' (by show lvl + 1 ≤ max st.2 lvl + 1; omega)
  have hr1 := hr.1
  rw [ht] at hr1
  rw [hr.2 ht]
  have : (sizeStepT st (.mk k n l) lvl).2.1 + T.countL (l.take j) ≤ 100000 := by simpa using hr1.symm
  refine ⟨?_, this⟩
  show lvl + 1 ≤ (st.1 + 1) + T.countL (l.take j) + 1
  omega


/-- The cells of a count: the most (100,000), the nodes, the depth. -/
def TwoT (B b : Nat) (st : Nat × Nat) (w : World) : Prop := B ≤ b ∧ Blk w b 3 #[.int .i64 100000] ∧ Blk w (b + 1) 3 #[.int .i64 (st.1 : Int)] ∧ Blk w (b + 2) 3 #[.int .i64 (st.2 : Int)]

set_option maxHeartbeats 400000 in
theorem size1T_any (s : T) (v : Value) (lvl : Nat) (w : World) (B b : Nat) (st : Nat × Nat) (h100000 : st.1 ≤ 100000) (h2 : TwoT B b st w) (P : Nat → Prop) (hin : s.In w P v) :
    Calls Tryd.prog 101 #[.agg #[.int .i64 s.kind, .int .i64 s.num, v], .int .i64 (lvl : Int), .pointer (some ⟨b + 1, 0, none⟩), .pointer (some ⟨b + 2, 0, none⟩), .pointer (some ⟨b, 0, none⟩)] w fun e w' =>
      e = .returned (.bool (sizeStepT st s lvl).1) ∧ TwoT B b (sizeStepT st s lvl).2 w' ∧ Saves (fun k => k = b + 1 ∨ k = b + 2) w w' := by
  obtain ⟨A, n, c, rfl⟩ := hin.form
  obtain ⟨n0, d0⟩ := st
  obtain ⟨hB, hb0, hb1, hb2⟩ := h2
  simp only at h100000 hb1 hb2
  have hl0 := hb0.lt
  have hl1 := hb1.lt
  have hl2 := hb2.lt
  have hc0 := hb0.cell 0
  have hc1 := hb1.cell 0
  have hc2 := hb2.cell 0
  have hf1 := hb1.frozen 0
  have hf2 := hb2.frozen 0
  go_enter Tryd.func101, Tryd.ntmps101
  go_wp2_with fail
  all_goals
    go_ret
    refine ⟨ret_bool (decide_eq_decide.2 (by show (n0 : Int) + 1 ≤ 100000 ↔ n0 + 1 ≤ 100000; omega)), ⟨hB, ?_, ?_, ?_⟩, (((Saves.refl _ _).setCell (.inl (.inl rfl)) _).setCell (.inl (.inr rfl)) _).alloc _⟩
    · exact ((hb0.far (p := ⟨b + 1, 0, none⟩) (by simp) _).far (p := ⟨b + 2, 0, none⟩) (by simp) _).alloc _
    · exact ((hb1.set_ 0 _).far (p := ⟨b + 2, 0, none⟩) (by simp) _).alloc _
    · refine (((hb2.far (p := ⟨b + 1, 0, none⟩) (by simp) _).set_ 0 _).alloc _).eq_ (congrArg (fun z : Int => #[Value.int .i64 z]) ?_)
      show _ = ((max d0 lvl : Nat) : Int)
      omega

theorem twoT_kept {B b : Nat} {st : Nat × Nat} {w w' : World} (h : TwoT B b st w) (hb : Below w.heap.size w w') : TwoT B b st w' :=
  ⟨h.1, h.2.1.below hb h.2.1.lt, h.2.2.1.below hb h.2.2.1.lt, h.2.2.2.below hb h.2.2.2.lt⟩

theorem sizeT_visit (s : T) (v : Value) (w : World) (b : Nat) (st : Nat × Nat) (h100000 : st.1 ≤ 100000) (B : Nat) (P : Nat → Prop) (hPB : ∀ k, P k → k < B) (h2 : TwoT B b st w) (hin : s.In w P v) (hold : Old P w) :
    Calls Tryd.prog 83 #[.agg #[.int .i64 s.kind, .int .i64 s.num, v], .int .i64 ((1 : Nat) : Int), .func (.func 82) #[] #[], .func (.func 101) #[] #[.pointer (some ⟨b + 1, 0, none⟩), .pointer (some ⟨b + 2, 0, none⟩), .pointer (some ⟨b, 0, none⟩)]] w fun e w' =>
      e = .returned (.bool (visitT sizeStepT st 1 s).1) ∧ TwoT B b (visitT sizeStepT st 1 s).2 w' ∧ Saves (fun k => k = b + 1 ∨ k = b + 2) w w' := by
  refine visitT_any (I := TwoT B b) (M := fun k => k = b + 1 ∨ k = b + 2) (ok := fun st _ lvl => lvl ≤ st.1 + 1 ∧ st.1 ≤ 100000) (fun _ _ _ h hb => twoT_kept h hb) ?_ Tryd.call101 ?_ ?_ ?_ _ s v 1 w st (Nat.le_refl _) ⟨by omega, h100000⟩ h2 hin hold
  · rintro w k st ⟨_, h0, h1, h2⟩ (rfl | rfl)
    · exact h1.lt
    · exact h2.lt
  · rintro k hk (rfl | rfl)
    · have := h2.1; have := hPB _ hk; omega
    · have := h2.1; have := hPB _ hk; omega
  · exact fun st k n l lvl h => sizeOkT st k n l lvl h
  · exact fun st x v lvl w h hI hin _ => size1T_any x v lvl w B b st h.2 hI P hin

theorem sizeT_results {tmps : Array Value} {w : World} {a b : Nat} {x y : Int} (h2 : tmps.getD 6 undef = .pointer (some ⟨a, 0, none⟩)) (h3 : tmps.getD 7 undef = .pointer (some ⟨b, 0, none⟩))
    (ha : Blk w a 3 #[.int .i64 x]) (hb : Blk w b 3 #[.int .i64 y]) : (results Tryd.f81 tmps).run Tryd.prog w = .ok (.tuple #[.int .i64 x, .int .i64 y]) w := by
  have h4 := ha.cell 0
  have h5 := hb.cell 0
  simp at h4 h5
  have h2' : tmps[6]?.getD undef = .pointer (some ⟨a, 0, none⟩) := by simpa using h2
  have h3' : tmps[7]?.getD undef = .pointer (some ⟨b, 0, none⟩) := by simpa using h3
  simp [results, Tryd.results81, go_sem, h2', h3', h4, h5]

set_option maxHeartbeats 400000 in
theorem nestSizeT_any (s : T) (v : Value) (w : World) (P : Nat → Prop) (hin : s.In w P v) (hold : Old P w) :
    Calls Tryd.prog 81 #[.agg #[.int .i64 s.kind, .int .i64 s.num, v], .func (.func 82) #[] #[], .int .i64 100000] w fun e w' => e = .returned (.tuple #[.int .i64 (s.sizes.1 : Int), .int .i64 (s.sizes.2 : Int)]) ∧ Below w.heap.size w w' := by
  obtain ⟨A, n, c, rfl⟩ := hin.form
  have hv := visitT_size s (0, 0) 1
  have hw3 : Below w.heap.size w ((((w.alloc (.cells #[.int .i64 s.kind, .int .i64 s.num, .slice A n c] 44)).alloc (.cells #[.int .i64 100000] 3)).alloc (.cells #[.int .i64 0] 3)).alloc (.cells #[.int .i64 0] 3)) :=
    ((((Below.refl _ _).alloc (Nat.le_refl _) _).alloc (by simp) _).alloc (by simp; omega) _).alloc (by simp; omega) _
  have h2 : TwoT w.heap.size (w.heap.size + 1) (0, 0) ((((w.alloc (.cells #[.int .i64 s.kind, .int .i64 s.num, .slice A n c] 44)).alloc (.cells #[.int .i64 100000] 3)).alloc (.cells #[.int .i64 0] 3)).alloc (.cells #[.int .i64 0] 3)) :=
    ⟨by omega, (by simpa using ((Blk.new (w.alloc (.cells #[.int .i64 s.kind, .int .i64 s.num, .slice A n c] 44)) 3 #[.int .i64 100000]).alloc _).alloc _),
      (by simpa using (Blk.new ((w.alloc (.cells #[.int .i64 s.kind, .int .i64 s.num, .slice A n c] 44)).alloc (.cells #[.int .i64 100000] 3)) 3 #[.int .i64 0]).alloc _),
      (by simpa using Blk.new (((w.alloc (.cells #[.int .i64 s.kind, .int .i64 s.num, .slice A n c] 44)).alloc (.cells #[.int .i64 100000] 3)).alloc (.cells #[.int .i64 0] 3)) 3 #[.int .i64 0])⟩
  have hct := sizeT_visit s _ _ (w.heap.size + 1) (0, 0) (by simp) w.heap.size P hold h2 (hin.old hold hw3) (hold.bel hw3)
  by_cases h100000 : s.count ≤ 100000
  · have hv1 : (visitT sizeStepT (0, 0) 1 s).1 = true := by rw [hv.1]; simpa using h100000
    have hv2 := hv.2 hv1
    rw [hv1, hv2] at hct
    have HS : Hid (s.sizes = (s.count, s.deep)) := Lib.hid (by simp [T.sizes, h100000])
    have HC := Lib.hid hct
    clear hct hv2 hv1 hv h2
    go_enter Tryd.func81, Tryd.ntmps81
    go_wp2_with fail
    refine HC.out.mono ?_
    rintro e w1 ⟨rfl, ⟨_, _, hk1, hk2⟩, hs1⟩
    have hc1 := hk1.cell 0
    have hc2 := hk2.cell 0
    have hf1 := hk1.frozen 0
    have hf2 := hk2.frozen 0
    have hb1 := hs1.below (B := w.heap.size) (by simp; omega) (fun k hk => by rintro (rfl | rfl) <;> omega)
    go_wp2_with fail
    go_region
    go_wp2
    refine bodyPost_ret (sizeT_results rfl rfl (((hk1.set_ 0 _).far (p := ⟨w.heap.size + 1 + 2, 0, none⟩) (by simp) _).drew) (((hk2.far (p := ⟨w.heap.size + 1 + 1, 0, none⟩) (by simp) _).set_ 0 _).drew)) rfl ⟨by rw [HS.out], ?_⟩
    exact (((hw3.trans hb1).setCell (by simp; omega) _).setCell (by simp; omega) _).drew
  · have hv1 : (visitT sizeStepT (0, 0) 1 s).1 = false := by rw [hv.1]; simpa using h100000
    rw [hv1] at hct
    have HS : Hid (s.sizes = (100001, 0)) := Lib.hid (by simp [T.sizes, h100000])
    have HC := Lib.hid hct
    clear hct hv1 hv h2
    go_enter Tryd.func81, Tryd.ntmps81
    go_wp2_with fail
    refine HC.out.mono ?_
    rintro e w1 ⟨rfl, ⟨_, hk0, hk1, hk2⟩, hs1⟩
    have hc0 := hk0.cell 0
    have hc1 := hk1.cell 0
    have hc2 := hk2.cell 0
    have hf1 := hk1.frozen 0
    have hf2 := hk2.frozen 0
    have hb1 := hs1.below (B := w.heap.size) (by simp; omega) (fun k hk => by rintro (rfl | rfl) <;> omega)
    go_wp2_with fail
    refine bodyPost_ret (sizeT_results (x := 100001) (y := 0) rfl rfl ((hk1.set_ 0 _).far (p := ⟨w.heap.size + 1 + 2, 0, none⟩) (by simp) _) ((hk2.far (p := ⟨w.heap.size + 1 + 1, 0, none⟩) (by simp) _).set_ 0 _)) rfl ⟨by rw [HS.out]; rfl, ?_⟩
    exact ((hw3.trans hb1).setCell (by simp; omega) _).setCell (by simp; omega) _

set_option maxHeartbeats 400000 in
theorem sizeT_any (s : T) (v : Value) (w : World) (P : Nat → Prop) (hin : s.In w P v) (hold : Old P w) :
    Calls Tryd.prog 54 #[.agg #[.int .i64 s.kind, .int .i64 s.num, v]] w fun e w' => e = .returned (.tuple #[.int .i64 (s.sizes.1 : Int), .int .i64 (s.sizes.2 : Int)]) ∧ Below w.heap.size w w' := by
  obtain ⟨A, n, c, rfl⟩ := hin.form
  have hw1 : Below w.heap.size w (w.alloc (.cells #[.int .i64 s.kind, .int .i64 s.num, .slice A n c] 44)) := (Below.refl _ _).alloc (Nat.le_refl _) _
  have HC := Lib.hid (nestSizeT_any s _ _ P (hin.old hold hw1) (hold.bel hw1))
  generalize s.sizes.1 = z1 at *
  generalize s.sizes.2 = z2 at *
  go_enter Tryd.func54, Tryd.ntmps54
  go_wp2_with fail
  refine HC.out.mono ?_
  rintro e w1 ⟨rfl, hb1⟩
  simp only [World.size_alloc] at hb1
  go_wp2_with fail
  go_ret2
  exact ⟨rfl, hw1.trans (hb1.mono (by omega))⟩


set_option maxHeartbeats 400000 in
theorem tooLarge_any (t : T) (v : Value) (w : World) (P : Nat → Prop) (hin : t.In w P v) (hold : Old P w) :
    Calls Tryd.prog 71 #[.agg #[.int .i64 t.kind, .int .i64 t.num, v]] w fun e w' => e = .returned (.bool t.large) ∧ Below w.heap.size w w' := by
  obtain ⟨A, n, c, rfl⟩ := hin.form
  have hw1 : Below w.heap.size w (w.alloc (.cells #[.int .i64 t.kind, .int .i64 t.num, .slice A n c] 44)) := (Below.refl _ _).alloc (Nat.le_refl _) _
  have HC := Lib.hid (sizeT_any t _ _ P (hin.old hold hw1) (hold.bel hw1))
  have hle : ∃ m : Nat, t.sizes.1 = m ∧ (100000 < m ↔ 100000 < t.count) := by
    refine ⟨_, rfl, ?_⟩
    by_cases h1 : t.count ≤ 100000
    · simp [T.sizes, h1]
    · simp [T.sizes, h1]; omega
  obtain ⟨m, hm, hmm⟩ := hle
  rw [hm] at HC
  have HF : Hid (decide (100000 < (m : Int)) = t.large) := Lib.hid (decide_eq_decide.2 (by omega))
  clear hm hmm
  go_enter Tryd.func71, Tryd.ntmps71
  go_wp2_with fail
  refine HC.out.mono ?_
  rintro e w1 ⟨rfl, hb1⟩
  simp only [World.size_alloc] at hb1
  go_wp2_with fail
  go_ret
  exact ⟨ret_bool HF.out, hw1.trans (hb1.mono (by omega))⟩

set_option maxHeartbeats 400000 in
theorem all1T_any {F : Nat} {cap : Array Value} (hF : ∀ args w, (callFunc F args).run Tryd.prog w = .ok (.enter F args) w) {b : Nat} {z : Bool} {Q : World → Prop} {M : Nat → Prop} (kd nm : Int) (A : Option Addr) (n c : Nat) (lvl : Nat) (w : World)
    (hb : Blk w b 101 #[.func (.func F) #[] cap])
    (h : Calls Tryd.prog F (#[.agg #[.int .i64 kd, .int .i64 nm, .slice A n c]] ++ cap) (w.alloc (.cells #[.int .i64 kd, .int .i64 nm, .slice A n c] 44)) fun e w' =>
      e = .returned (.bool z) ∧ Q w' ∧ Saves M w w') :
    Calls Tryd.prog 84 #[.agg #[.int .i64 kd, .int .i64 nm, .slice A n c], .int .i64 (lvl : Int), .pointer (some ⟨b, 0, none⟩)] w fun e w' =>
      e = .returned (.bool z) ∧ Q w' ∧ Saves M w w' := by
  have hl := hb.lt
  have hc := hb.cell 0
  have HC := Lib.hid h
  clear h hb
  go_enter Tryd.func84, Tryd.ntmps84
  go_wp2_with fail
  refine HC.out.mono ?_
  rintro e w1 ⟨rfl, hq, hb1⟩
  go_wp2_with fail
  go_ret
  exact ⟨rfl, hq, hb1⟩

set_option maxHeartbeats 400000 in
/-- nest.All at terms, whatever state its property keeps. -/
theorem allT_any {σ : Type} {step : σ → T → Nat → Bool × σ} {I : σ → World → Prop} {M : Nat → Prop} {ok : σ → T → Nat → Prop} {F : Nat} {cap : Array Value} {P : Nat → Prop}
    (hI : ∀ st w w', I st w → Below w.heap.size w w' → I st w')
    (hM : ∀ w k st, I st w → M k → k < w.heap.size)
    (hF : ∀ args w, (callFunc F args).run Tryd.prog w = .ok (.enter F args) w)
    (hMh : ∀ k, P k → ¬ M k)
    (hok : ∀ st k n l lvl, ok st (.mk k n l) lvl → lvl ≤ 1000000 ∧ ((step st (.mk k n l) lvl).1 = true → ∀ j x, l[j]? = some x → (visitTL step (step st (.mk k n l) lvl).2 (lvl + 1) (l.take j)).1 = true →
      ok (visitTL step (step st (.mk k n l) lvl).2 (lvl + 1) (l.take j)).2 x (lvl + 1)))
    (hstep : ∀ st x v lvl w, ok st x lvl → I st w → x.In w P v → Old P w → Calls Tryd.prog F (#[.agg #[.int .i64 x.kind, .int .i64 x.num, v]] ++ cap) w fun e w' =>
      e = .returned (.bool (step st x lvl).1) ∧ I (step st x lvl).2 w' ∧ Saves M w w')
    (t : T) (v : Value) (w : World) (st : σ) (hok0 : ok st t 1) (hI0 : I st w) (hin : t.In w P v) (hold : Old P w) :
    Calls Tryd.prog 55 #[.agg #[.int .i64 t.kind, .int .i64 t.num, v], .func (.func 82) #[] #[], .func (.func F) #[] cap] w fun e w' =>
      e = .returned (.bool (visitT step st 1 t).1) ∧ I (visitT step st 1 t).2 w' ∧ Saves M w w' := by
  obtain ⟨A, n, c, rfl⟩ := hin.form
  have hw2 : Below w.heap.size w ((w.alloc (.cells #[.int .i64 t.kind, .int .i64 t.num, .slice A n c] 44)).alloc (.cells #[.func (.func F) #[] cap] 101)) := ((Below.refl _ _).alloc (Nat.le_refl _) _).alloc (by simp) _
  have hbk : Blk ((w.alloc (.cells #[.int .i64 t.kind, .int .i64 t.num, .slice A n c] 44)).alloc (.cells #[.func (.func F) #[] cap] 101)) (w.heap.size + 1) 101 #[.func (.func F) #[] cap] := by
    simpa using Blk.new (w.alloc (.cells #[.int .i64 t.kind, .int .i64 t.num, .slice A n c] 44)) 101 #[.func (.func F) #[] cap]
  have hnM : ¬ M (w.heap.size + 1) := fun h => by have := hM w _ st hI0 h; omega
  have hct := visitT_any (step := step) (I := fun st w' => I st w' ∧ Blk w' (w.heap.size + 1) 101 #[.func (.func F) #[] cap]) (M := M) (ok := ok) (F := 84) (cap := #[.pointer (some ⟨w.heap.size + 1, 0, none⟩)]) (P := P)
    (fun st w w' h hb => ⟨hI _ _ _ h.1 hb, h.2.below hb h.2.lt⟩) (fun w k st h hm => hM w k st h.1 hm) Tryd.call84 hMh hok
    (fun st x v lvl w hokx hIx hinx holdx => by
      obtain ⟨A', n', c', rfl⟩ := hinx.form
      have hb1 : Below w.heap.size w (w.alloc (.cells #[.int .i64 x.kind, .int .i64 x.num, .slice A' n' c'] 44)) := (Below.refl _ _).alloc (Nat.le_refl _) _
      exact all1T_any hF _ _ _ _ _ lvl w hIx.2 ((hstep st x _ lvl _ hokx (hI _ _ _ hIx.1 hb1) (hinx.old holdx hb1) (holdx.bel hb1)).mono fun e w' ⟨he, hi, hs⟩ =>
        ⟨he, ⟨hi, (hIx.2.below hb1 hIx.2.lt).saves hs hnM⟩, (Saves.of_below hb1).trans hs⟩))
    _ t _ 1 _ st (Nat.le_refl _) hok0 ⟨hI _ _ _ hI0 hw2, hbk⟩ (hin.old hold hw2) (hold.bel hw2)
  have HC := Lib.hid hct
  clear hct hbk hI hM hF hMh hok hstep
  go_enter Tryd.func55, Tryd.ntmps55
  go_wp2_with fail
  refine HC.out.mono ?_
  rintro e w1 ⟨rfl, ⟨hi1, _⟩, hb1⟩
  go_wp2_with fail
  go_ret
  exact ⟨rfl, hi1, (Saves.of_below hw2).trans hb1⟩
end Go.Proofs.YtkkfdiidneoelaaDoor
