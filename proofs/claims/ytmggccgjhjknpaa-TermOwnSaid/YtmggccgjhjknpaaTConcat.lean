/-
  slices.Concat of two lists of terms: what it returns lists both, one behind the other, in an array of its own.
-/
import Derived.Test.YtmggccgjhjknpaaTSubst
import Derived.Lib.AppendZerosOnto
import Derived.Lib.Walk
namespace Go.Proofs.Ytmggccgjhjknpaa
open Go.RowKit Go.Shelf

set_option maxRecDepth 100000 in
set_option maxHeartbeats 1600000 in
/-- slices.Grow of nil by at least one. -/
theorem growNil_any (N : Nat) (I : Int) (hI : I = N) (h0 : 0 < N) (hN : N ≤ 7036874417766) (w : World) :
    Calls Try.prog 92 #[.slice none 0 0, .int .i64 I] w fun e w' => ∃ cap, N ≤ cap ∧ e = .returned (.slice (some ⟨w.heap.size, 0, none⟩) 0 cap) ∧ w'.ownsRow w.heap.size 35 3 (.slice (some ⟨w.heap.size, 0, none⟩) 0 cap) 0 [] ∧ Below w.heap.size w w' := by
  obtain ⟨i0, hi0, hz0, hz1, hz2⟩ := info_parts term_info
  have hold : (Builtin.firstCells i0.size 0 (.slice none 0 0)).run Try.prog w.drew = .ok (([] : List Value).toArray) w.drew := run_firstCells_none w.drew i0.size 0 0 0
  have hnx : Builtin.nextslicecap (0 + N) 0 = N := by
    unfold Builtin.nextslicecap
    rw [if_pos (by omega)]; omega
  have hrz : ∀ ty, (Builtin.append_ #[33, 3] ty #[.slice none 0 0, .int .i64 I]).run Try.prog w =
      .ok (.slice (some ⟨w.heap.size, 0, none⟩) N (grownCap w N 0 35)) (w.drew.alloc (.cells (([] : List Value).toArray ++ Builtin.zeroCells (Value.agg #[.int .i64 0, .int .i64 0, .slice none 0 0]).cells N ++ Builtin.zeroCells (Value.agg #[.int .i64 0, .int .i64 0, .slice none 0 0]).cells (grownCap w N 0 35 - N)) 35)) := fun ty => by
    have h := Lib.run_append_grow_zeros w 33 3 ty 35 i0 _ .i64 .i64 Try.underlying33 Try.underlying3 hi0 hz0 none 0 0 [] hold N h0 (by rw [hz1]; omega) (by omega) (by omega) (by rw [hz2]; omega) (by rw [hnx, hz2]; omega)
    rw [Nat.zero_add] at h
    rw [hI]
    exact h
  have hG := grownCap_ge w N 0 35
  have hG2 := grownCap_le_maxLen w N 0 35 (by unfold maxLen; omega)
  generalize grownCap w N 0 35 = G at *
  have hi1 : 0 < I := by omega
  have hi2 : I ≤ 7036874417766 := by omega
  have hsz : (([] : List Value).toArray ++ Builtin.zeroCells (Value.agg #[.int .i64 0, .int .i64 0, .slice none 0 0]).cells N ++ Builtin.zeroCells (Value.agg #[.int .i64 0, .int .i64 0, .slice none 0 0]).cells (G - N)).size = G * 3 := by
    simp only [Array.size_append, size_zeroCells, List.size_toArray, List.length_nil]
    show 0 + N * 3 + (G - N) * 3 = G * 3
    omega
  generalize (([] : List Value).toArray ++ Builtin.zeroCells (Value.agg #[.int .i64 0, .int .i64 0, .slice none 0 0]).cells N ++ Builtin.zeroCells (Value.agg #[.int .i64 0, .int .i64 0, .slice none 0 0]).cells (G - N)) = cs at *
  have HS := Lib.hid hsz
  have hgm : G ≤ 9223372036854775807 := by simpa [maxLen] using hG2
  have HI := Lib.hid hI
  clear hsz hold hnx hG2 hI
  go_enter Try.func92, Try.ntmps92
  go_wp2_with (at_builtin; refine Lib.wpList_append_run _ rfl _ _ _ _ rfl _ _ rfl rfl _ _ (hrz _) ?_)
  go_ret
  refine ⟨G, by omega, rfl, ⟨by simp, .inr ⟨w.heap.size, G, cs, rfl, Nat.le_refl _, heap_alloc_new w.drew _, by omega, by simp only [maxLen]; omega, by rw [HS.out], by simp⟩⟩, ((Below.refl _ _).drew).alloc (Nat.le_refl _) _⟩

/-- An array of its own from B on, that holds a list of terms whose arguments lie where P holds; there is room for N. -/
structure Cat (B : Nat) (P : Nat → Prop) (N : Nat) (w : World) (l : List T) (v : Value) (us : List Value) : Prop where
  own : w.ownsRow B 35 3 v l.length us
  row : T.Row w P l us
  room : ∃ A c, v = .slice A l.length c ∧ N ≤ c
theorem Row_one {w : World} {P : Nat → Prop} : ∀ {l : List T} {us : List Value}, T.Row w P l us → ∀ u ∈ us, u.oneCell' = true
  | [], us, h, u, hu => by simp only [T.Row] at h; subst h; simp at hu
  | s :: r, us, h, u, hu => by
    simp only [T.Row] at h
    obtain ⟨u1, ut, rfl, h2, h3⟩ := h
    simp only [List.mem_cons] at hu
    rcases hu with rfl | rfl | rfl | hu
    · rfl
    · rfl
    · obtain ⟨A, n, c, rfl⟩ := h2.form; rfl
    · exact Row_one h3 u hu
theorem run_append_nothing (w : World) (base : Nat) (t ty e : TypeId) (i : TypeInfo) (size : Nat) (ht : Try.prog.underlying t = some (.slice e)) (hi : Try.prog.info? e = some i)
    (v : Value) (n : Nat) (xs : List Value) (hown : w.ownsRow base e size v n xs) (A : Option Addr) (c : Nat) : (Builtin.append_ #[t, t] ty #[v, .slice A 0 c]).run Try.prog w = .ok v w := by
  have hfc : (Builtin.firstCells i.size 0 (.slice A 0 c)).run Try.prog w = .ok #[] w := by
    cases A with
    | none => exact run_firstCells_none w i.size 0 0 c
    | some a => simpa using run_firstCells_some w i.size 0 a 0 c [] (by simp) (by simp)
  rcases hown.2 with ⟨rfl, rfl⟩ | ⟨g, cap, cur, rfl, _, _, hnc, _⟩
  · simp [Builtin.append_, run_underlying ht, sizeOf, typeInfo, hi, Builtin.lenOf, hfc]
  · simp [Builtin.append_, run_underlying ht, sizeOf, typeInfo, hi, Builtin.lenOf, hfc, hnc, storeCells]
theorem run_append_nothing2 (w : World) (base : Nat) (t ty e : TypeId) (i : TypeInfo) (size : Nat) (ht : Try.prog.underlying t = some (.slice e)) (hi : Try.prog.info? e = some i)
    (v : Value) (n : Nat) (xs : List Value) (hown : w.ownsRow base e size v n xs) (A : Option Addr) (m c : Nat) (hm : m = 0) : (Builtin.append_ #[t, t] ty #[v, .slice A m c]).run Try.prog w = .ok v w := by
  subst hm
  exact run_append_nothing w base t ty e i size ht hi v n xs hown A c
/-- One more list behind it. -/
theorem Cat.more {B : Nat} {P : Nat → Prop} {N : Nat} {w : World} {l m : List T} {v : Value} {us : List Value} (h : Cat B P N w l v us) (hPB : ∀ b, P b → b < B) (hBw : B ≤ w.heap.size) {vm : Value} (hm : T.InL w P m vm) (hN : l.length + m.length ≤ N) :
    ∃ v' us' w', (∀ ty, (Builtin.append_ #[33, 33] ty #[v, vm]).run Try.prog w = .ok v' w') ∧ Cat B P N w' (l ++ m) v' us' ∧ Below B w w' := by
  obtain ⟨i0, hi0, hz0, hz1, hz2⟩ := info_parts term_info
  unfold T.InL at hm
  simp only [T.In] at hm
  obtain ⟨A, n, c, vs, rfl, hn, hnc, hc, hrd, hrow⟩ := hm
  have hvl := hrow.length
  by_cases h0 : n = 0
  · subst h0
    have hme : m = [] := List.eq_nil_of_length_eq_zero hn
    subst hme
    refine ⟨v, us, w, fun ty => run_append_nothing w B _ _ _ i0 3 Try.underlying33 hi0 v _ us h.own A c, ?_, Below.refl _ _⟩
    rw [List.append_nil]; exact h
  · obtain ⟨A0, c0, rfl, hNc⟩ := h.room
    have hne : vs ≠ [] := by
      intro e; subst e
      simp at hvl; omega
    rcases hrd with e | ⟨ad, rfl, hPad, hcell⟩
    · exact absurd e hne
    · rcases h.own.2 with ⟨e, _⟩ | ⟨g, cap, cur, e, hBg, hh, _⟩
      · injection e with _ _ e; omega
      · injection e with e1 _ e3
        subst e1 e3
        obtain ⟨w', hrun, hown, hgrow⟩ := run_append_fits (P := Try.prog) w B 33 33 35 i0 3 Try.underlying33 hi0 hz1 g l.length c0 us h.own ad n c vs (by rw [hvl, hn]) hcell (Row_one hrow) (by omega)
        have hbel : Below B w w' := (Below.refl _ _).grown hgrow hBw (fun b hb => by injection hb with hb; omega)
        refine ⟨_, us ++ vs, w', fun ty => (hrun :), ⟨by rw [List.length_append, hn]; exact hown, ?_, ⟨_, c0, by rw [List.length_append, hn], hNc⟩⟩, hbel⟩
        exact T.Row.append (T.Row.keep (fun b hb => hbel.block b (hPB b hb)) m hrow) (T.Row.keep (fun b hb => hbel.block b (hPB b hb)) l h.row)
theorem Cat.in_ {B : Nat} {P : Nat → Prop} {N : Nat} {w : World} {l : List T} {v : Value} {us : List Value} (h : Cat B P N w l v us) : T.InL w (fun b => P b ∨ B ≤ b ∧ b < w.heap.size) l v := by
  unfold T.InL
  have hr := T.Row.more (Q := fun b => P b ∨ B ≤ b ∧ b < w.heap.size) (fun b hb => .inl hb) l h.row
  rcases h.own.2 with ⟨rfl, h0⟩ | ⟨g, cap, cur, rfl, h1, h2, h3, h4, h5, h6⟩
  · have : l = [] := List.eq_nil_of_length_eq_zero h0
    subst this
    exact T.In.mk_ rfl (Nat.le_refl _) (by omega) (.inl rfl) (by simp [T.Row])
  · have hg := World.ownsRow.lt h.own g rfl
    refine T.In.mk_ rfl h3 (by simpa [maxLen] using h4) (.inr ⟨_, rfl, .inr hg, ?_⟩) hr
    exact h.own.cells (g := g) rfl

/-- The sum of the lengths so far. -/
def SumRel (n0 n1 : Nat) (s i : Value) : Prop :=
  (i = .int .i64 0 ∧ s = .int .i64 0) ∨ (i = .int .i64 1 ∧ s = .int .i64 (n0 : Int)) ∨ (i = .int .i64 2 ∧ s = .int .i64 ((n0 : Int) + (n1 : Int)))
/-- The lists so far. -/
def CatRel (B : Nat) (P : Nat → Prop) (N : Nat) (w : World) (l m : List T) (v i : Value) (wr : World) : Prop :=
  ∃ us, Below B w wr ∧ ((i = .int .i64 0 ∧ Cat B P N wr [] v us) ∨ (i = .int .i64 1 ∧ Cat B P N wr l v us) ∨ (i = .int .i64 2 ∧ Cat B P N wr (l ++ m) v us))

set_option maxRecDepth 100000 in
set_option maxHeartbeats 1600000 in
theorem concat_any (l m : List T) (v0 v1 : Value) (g : Nat) (w : World) (P : Nat → Prop) (hb : Blk w g 33 #[v0, v1]) (h0 : T.InL w P l v0) (h1 : T.InL w P m v1) (hold : Old P w) (hl : l.length ≤ 3518437208883) (hm : m.length ≤ 3518437208883) :
    Calls Try.prog 68 #[.slice (some ⟨g, 0, none⟩) 2 2] w fun e w' => ∃ v, e = .returned v ∧ T.InL w' (fun b => P b ∨ w.heap.size ≤ b ∧ b < w'.heap.size) (l ++ m) v ∧ Below w.heap.size w w' := by
  obtain ⟨A0, n0, c0, rfl⟩ := T.In.form h0
  obtain ⟨A1, n1, c1, rfl⟩ := T.In.form h1
  have hn0 := T.InL.len h0
  have hn1 := T.InL.len h1
  have e0 := hb.cell 0
  have e1 := hb.cell 1
  have hlt := hb.lt
  simp at e0 e1
  have b0 : n0 ≤ 3518437208883 := by omega
  have b1 : n1 ≤ 3518437208883 := by omega
  have HN0 := Lib.hid hn0
  have HN1 := Lib.hid hn1
  clear hn0 hn1 hl hm
  go_enter Try.func68, Try.ntmps68
  go_wp2_with fail
  go_loop [3, 11] (fun s i => SumRel n0 n1 s i) (fun _ i => 2 - (intOf i).toNat)
  case atStart => exact .inl ⟨rfl, rfl⟩
  case round =>
    rcases hrel with ⟨rfl, rfl⟩ | ⟨rfl, rfl⟩ | ⟨rfl, rfl⟩
    · go_wp2_with fail
      go_round
      case rel => exact .inr (.inl ⟨by go_num, by go_num⟩)
      case measure => simp [intOf]
    · go_wp2_with fail
      go_round
      case rel => exact .inr (.inr ⟨by go_num, by go_num⟩)
      case measure => simp [intOf]
    · have HG : Hid (∀ I : Int, I = (n0 : Int) + n1 → Calls Try.prog 92 #[.slice none 0 0, .int .i64 I] w fun e w' => ∃ v us, e = .returned v ∧ Cat w.heap.size P (n0 + n1) w' [] v us ∧ Below w.heap.size w w') := Lib.hid (by
        intro I hI
        by_cases hz : n0 + n1 = 0
        · have hI0 : I = 0 := by omega
          subst hI0
          exact (Any8.slices_Grow_room growLays none 0 0 0 w (Nat.le_refl _) (by omega) (by omega) (by omega)).mono fun e w' ⟨he, hw⟩ => ⟨_, [], he, ⟨⟨by simp, .inl ⟨rfl, rfl⟩⟩, by simp [T.Row], ⟨_, _, rfl, by omega⟩⟩, by rw [hw]; exact Below.refl _ _⟩
        · exact (growNil_any (n0 + n1) I (by omega) (by omega) (by omega) w).mono fun e w' ⟨cap, hc, he, ho, hbb⟩ => ⟨_, [], he, ⟨ho, by simp [T.Row], ⟨_, _, rfl, hc⟩⟩, hbb⟩)
      go_wp2_with fail
      refine (HG.out _ rfl).mono ?_
      rintro e w1 ⟨v, us, rfl, hcat, hbel⟩
      obtain ⟨A2, c2, hv, _⟩ := hcat.room
      have HV := Lib.hid hv
      clear hv
      go_wp2_with fail
      go_loopw [6, 27] (fun v i wr => CatRel w.heap.size P (n0 + n1) w l m v i wr) (fun _ i _ => 2 - (intOf i).toNat)
      case atStart => exact ⟨us, hbel, .inl ⟨rfl, hcat⟩⟩
      case round =>
        obtain ⟨us2, hbr, hrel⟩ := hrel
        have g0 := (hb.below hbr hlt).cell 0
        have g1 := (hb.below hbr hlt).cell 1
        simp at g0 g1
        rcases hrel with ⟨rfl, hc⟩ | ⟨rfl, hc⟩ | ⟨rfl, hc⟩
        · obtain ⟨v', us', w', hrun, hc', hb'⟩ := hc.more hold hbr.size (T.In.below h0 hbr hold) (by simp; have := HN0.out; omega)
          have HR := Lib.hid hrun
          clear hrun
          go_wp2_with (at_builtin; refine Lib.wpList_append_run _ rfl _ _ _ _ rfl _ _ rfl rfl _ _ (HR.out _) ?_)
          go_roundw
          case rel => exact ⟨us', hbr.trans hb', .inr (.inl ⟨by go_num, by simpa using hc'⟩)⟩
          case measure => simp [intOf]
        · obtain ⟨v', us', w', hrun, hc', hb'⟩ := hc.more hold hbr.size (T.In.below h1 hbr hold) (by have := HN0.out; have := HN1.out; omega)
          have HR := Lib.hid hrun
          clear hrun
          go_wp2_with (at_builtin; refine Lib.wpList_append_run _ rfl _ _ _ _ rfl _ _ rfl rfl _ _ (HR.out _) ?_)
          go_roundw
          case rel => exact ⟨us', hbr.trans hb', .inr (.inr ⟨by go_num, hc'⟩)⟩
          case measure => simp [intOf]
        · go_wp2_with fail
          go_ret
          exact ⟨_, rfl, hc.in_, hbr⟩
end Go.Proofs.Ytmggccgjhjknpaa
