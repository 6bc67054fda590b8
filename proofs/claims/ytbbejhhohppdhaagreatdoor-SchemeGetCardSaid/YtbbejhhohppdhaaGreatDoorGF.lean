/-
  A sort that can be read as data is a sort in memory; and what a law's row asks behind the walk.
  A term that can be read as data is a term in memory.
  A place that can be read as data is a place in memory.
  A scheme that can be read as data is a scheme in memory.
-/
import Derived.Test.YtbbejhhohppdhaaGreatDoorGA
import Derived.Test.YtbbejhhohppdhaaGreatDoorRows
import Derived.Deep.Slices
import Derived.ChangeSame
import Derived.JoinedOf
import Derived.JoinedAt
import Derived.RowKit
import Derived.RowKit2
import Derived.ReadAgain
import Derived.ChangeAlike
import Derived.ProofKit
import Derived.Test.YtbbejhhohppdhaaGreatDoorGC
import Derived.Test.YtbbejhhohppdhaaGreatDoorGD
namespace Go.Proofs.YtbbejhhohppdhaaGreatDoor
open Go.RowKit Go.ChangeShapes Go.WideShapes Go.ChangeAt Go.Deep

theorem cells_sort : Tryz.prog.cellsOf 62 = 1 := by kernel_rfl
instance : Inhabited S := ⟨.mk []⟩

section
variable {H : Type} {enc : TypeId × Value → H} {w : World} {base : Nat} {sp : Nat → Bool} {hd : Bool}
set_option maxRecDepth 100000 in
theorem open_sort_at : ∀ (k : Nat) (d : DataW H), SizeOf.sizeOf d ≤ k → ∀ (fuel : Nat) (cs : List Value) (ps : List MemPlace), DataW.trod enc Tryz.prog w base sp hd fuel 62 cs = some (d, ps) →
    ∃ (s : S) (v : Value), cs = [v] ∧ s.In w 0 w.heap.size v := by
  intro k
  induction k with
  | zero => intro d hd'; cases d <;> simp at hd'
  | succ k ih =>
    intro d hk fuel cs ps h
    obtain ⟨y0, n, hx, hl, h0⟩ := trod_struct1 Tryz.underlying62 h
    rw [cells_sort] at hl
    match cs, hl with
    | [v], _ =>
      simp only [Prod.mk.injEq] at hx
      obtain ⟨rfl, rfl⟩ := hx
      have h0' : DataW.trod enc Tryz.prog w base sp hd n 60 [v] = some y0 := h0
      rcases open_slice1 Tryz.underlying60 cells_sort h0' with ⟨hv, _⟩ | ⟨a, len, cap, m, n', V, D, Pl, hv, _, hlc, hcm, hm, hy, hel⟩
      · refine ⟨.mk [], v, rfl, ?_⟩
        simp only [List.cons.injEq, and_true] at hv
        subst hv
        simp only [S.In]
        exact ⟨_, _, _, rfl, rfl, Nat.le_refl _, by omega, by simp [S.All]⟩
      · have hlm : len ≤ m := by rw [hm]; split <;> omega
        have hsz : ∀ i, i < len → SizeOf.sizeOf (D i) ≤ k := by
          intro i hi
          have h1 : D i ∈ (List.range len).map D := List.mem_map.2 ⟨i, List.mem_range.2 hi, rfl⟩
          have h2 := List.sizeOf_lt_of_mem h1
          rw [hy] at hk
          simp at hk
          omega
        obtain ⟨f, hf⟩ := choose_lt (n := len) (p := fun i (s : S) => s.In w 0 w.heap.size (V i)) (fun i hi => by
          obtain ⟨s, v', hv', hin⟩ := ih (D i) (hsz i hi) n' [V i] (Pl i) (hel i (by omega)).2
          simp only [List.cons.injEq, and_true] at hv'
          subst hv'
          exact ⟨s, hin⟩)
        refine ⟨.mk ((List.range len).map f), v, rfl, ?_⟩
        simp only [List.cons.injEq, and_true] at hv
        subst hv
        simp only [S.In]
        refine ⟨_, _, _, rfl, by simp, hlc, by simpa [maxLen] using hcm, S.All.mk_ fun j x hx => ?_⟩
        have hj : j < len := by
          rcases Nat.lt_or_ge j len with h' | h'
          · exact h'
          · rw [List.getElem?_eq_none (by simpa using h')] at hx; cases hx
        have hxf : x = f j := by simpa [List.getElem?_map, List.getElem?_range, hj] using hx.symm
        subst hxf
        have hc := (hel j (by omega)).1
        have hlt := World.block_lt_of_cell? w _ hc
        rw [block_of_add] at hlt
        exact ⟨a, V j, rfl, Nat.zero_le _, hlt, by rw [Nat.zero_add]; exact hc, hf j hj⟩

theorem open_sort {v : Value} {d : DataW H} {ps : List MemPlace} (hok : ∃ cs, v = .agg cs) (h : DataW.Trod enc Tryz.prog w base sp hd 62 v d ps) : ∃ (s : S) (u : Value), v = .agg #[u] ∧ s.In w 0 w.heap.size u := by
  obtain ⟨cs, rfl⟩ := hok
  obtain ⟨fuel, hf⟩ := h
  obtain ⟨s, u, hcs, hin⟩ := open_sort_at _ d (Nat.le_refl _) fuel _ ps hf
  refine ⟨s, u, ?_, hin⟩
  congr 1
  apply Array.toList_inj.1
  simpa [Value.cells] using hcs
end

theorem own_ : ownKnob Tryz.prog.godebug = none := by kernel_rfl
theorem kids_ : Kids Tryz.prog (· < Tryz.prog.types.size) := kids_rows (by kernel_rfl) (by kernel_rfl)
theorem full_ : ∀ t e, t < Tryz.prog.types.size → Tryz.prog.underlying t = some (.slice e) → 0 < Tryz.prog.cellsOf e := slices_full_of Tryz.prog (by kernel_rfl)
section
variable {H : Type} {enc : TypeId × Value → H} {P : Program}
theorem post_of_below {f : Func} {s : ChangeSpec} {apart fresh handsOn again : Bool} {W W' : World} {args : Array Value} {v : Value} {ds gs : List (DataW H)} {before pa pv : List MemPlace}
    (hW : DataW.Whole enc P f.params.toList s.vars apart W args.toList ds gs before)
    (hres : ∀ (b : Nat) (sp : Nat → Bool) (hd : Bool), DataW.TrodAll enc P W' b sp hd f.resultTypes.toList (v.resultList f.resultTypes.size) (s.fn H (ds ++ gs)).results [])
    (hargs : ∀ sp : Nat → Bool, (∀ p ∈ before, sp p.block = true) → DataW.TrodAll enc P W' 0 sp true f.params.toList args.toList (s.fn H (ds ++ gs)).args pa)
    (hvars : ∀ sp : Nat → Bool, (∀ p ∈ before, sp p.block = true) → DataW.TrodVars enc P W' sp s.vars (s.fn H (ds ++ gs)).vars pv)
    (hps : before = pa ++ pv) (hb : Below W.heap.size W W')
    (hok : ∀ (j : Nat) (t : TypeId) (r : Value), f.resultTypes[j]? = some t → (v.resultList f.resultTypes.size)[j]? = some r → Value.okWide P W' .any 0 t r) :
    s.post enc P f apart fresh handsOn again W args v W' := by
  have hlt : ∀ p ∈ before, p.block < W.heap.size := fun p hp => hW.lt p hp
  have hold : ∀ p ∈ before, (fun b => decide (b < W.heap.size)) p.block = true := fun p hp => by simpa using hlt p hp
  refine ⟨ds, gs, before, [], pa, pv, hW, hres _ _ _, hargs _ hold, hvars _ hold, World.keptBut_mono (fun p hp => ⟨hp, ?_⟩) (hb.frame (· ∈ before)), fun _ => ?_⟩
  · rw [hps, List.mem_append] at hp
    exact Or.inr hp
  · obtain ⟨_, _, _, _, _, hz, hn⟩ := hW
    refine ⟨hok, _, _, ([] ++ pa) ++ pv, ⟨[] ++ pa, pv, trodAll_append (hargs _ (fun _ _ => rfl)) (hres _ _ _), hvars _ (fun _ _ => rfl), rfl, ?_, ?_⟩, ?_⟩
    · intro b off hp
      have hin : MemPlace.cell b off ∈ before := by rw [hps]; simpa using hp
      rw [hb.frozen (hlt _ hin)]
      exact hz b off hin
    · intro ha
      have := hn ha
      rw [hps] at this
      simpa using this
    · intro p hp _
      rw [hps]
      simpa using hp
end

theorem laid_ : laidOutB Tryz.prog = true := by kernel_rfl
theorem trodAll_stays {H : Type} {enc : TypeId × Value → H} {W W' : World} (hb : Below W.heap.size W W') :
    ∀ {ts : List TypeId} {vs : List Value} {ds : List (DataW H)} {ps : List MemPlace}, (∀ t ∈ ts, Tryz.prog.readableRec t = true ∧ t < Tryz.prog.types.size) → DataW.TrodAll enc Tryz.prog W 0 (fun _ => true) true ts vs ds ps →
      (∀ x ∈ ps, x.block < W.heap.size) → ∀ sp' : Nat → Bool, (∀ p ∈ ps, sp' p.block = true) → DataW.TrodAll enc Tryz.prog W' 0 sp' true ts vs ds ps
  | [], [], [], _, _, h, _, _, _ => h
  | [], [], _ :: _, _, _, h, _, _, _ => h.elim
  | [], _ :: _, _, _, _, h, _, _, _ => h.elim
  | _ :: _, [], _, _, _, h, _, _, _ => h.elim
  | _ :: _, _ :: _, [], _, _, h, _, _, _ => h.elim
  | t :: ts, v :: vs, d :: ds, ps, hr, h, hlt, sp', hs => by
    obtain ⟨p, q, h1, h2, rfl⟩ := h
    have ht := hr t (by simp)
    exact ⟨p, q, WideElems.Trod_stays laid_ ht.1 ht.2 h1 (fun x hx => hb.same (hlt x (by simp [hx]))) (fun x hx => hs x (by simp [hx])),
      trodAll_stays hb (fun t' ht' => hr t' (by simp [ht'])) h2 (fun x hx => hlt x (by simp [hx])) sp' (fun x hx => hs x (by simp [hx])), rfl⟩

set_option maxRecDepth 100000 in
/-- What a law's row asks, behind a walk that has answered true and written nothing that there was. -/
theorem law_post {H : Type} {enc : TypeId × Value → H} {f : Func} {s : ChangeSpec} {W W' : World} {args : Array Value} {ds : List (DataW H)} {p : List MemPlace}
    (hvars : s.vars = []) (hres : f.resultTypes = #[4]) (hfn : s.fn H (ds ++ []) = { results := [.lit (.bool true)], args := ds })
    (hr : ∀ t ∈ f.params.toList, Tryz.prog.readableRec t = true ∧ t < Tryz.prog.types.size)
    (hW : DataW.Whole enc Tryz.prog f.params.toList s.vars false W args.toList ds [] p) (hA : DataW.TrodAll enc Tryz.prog W 0 (fun _ => true) true f.params.toList args.toList ds p)
    (hb : Below W.heap.size W W') : s.post enc Tryz.prog f false true false false W args (.bool true) W' := by
  refine post_of_below (gs := []) (pa := p) (pv := []) hW ?_ ?_ ?_ (by simp) hb ?_
  · intro b sp hd
    rw [hfn, hres]
    exact trodAll_mk1 (shut_bool Tryz.underlying4 true)
  · intro sp hsp
    rw [hfn]
    exact trodAll_stays hb hr hA (fun x hx => hW.lt x hx) sp hsp
  · intro sp _
    rw [hfn, hvars]
    rfl
  · exact ok_one hres rfl (okWide_bool_mk Tryz.underlying4 true)
end Go.Proofs.YtbbejhhohppdhaaGreatDoor

namespace Go.Proofs.YtbbejhhohppdhaaGreatDoor
open Go.RowKit Go.ChangeShapes Go.WideShapes Go.ChangeAt Go.Deep

theorem cells_term : Tryz.prog.cellsOf 34 = 3 := by kernel_rfl
instance : Inhabited T := ⟨.mk 0 0 []⟩

/-- Terms that lie one behind another. -/
theorem row_of {w : World} {P : Nat → Prop} {a : Addr} {f : Nat → T × Value} : ∀ (n : Nat), (∀ i, i < n → (f i).1.In w P (f i).2 ∧ w.cell? (a.add (i * 3)) = some (.int .i64 (f i).1.kind) ∧ w.cell? (a.add (i * 3 + 1)) = some (.int .i64 (f i).1.num) ∧ w.cell? (a.add (i * 3 + 2)) = some (f i).2) →
    ∃ us : List Value, us.length = n * 3 ∧ T.Row w P ((List.range n).map fun i => (f i).1) us ∧ ∀ j u, us[j]? = some u → w.cell? (a.add j) = some u
  | 0, _ => ⟨[], rfl, by simp [T.Row], by simp⟩
  | n + 1, h => by
    obtain ⟨us, hl, hr, hc⟩ := row_of n (fun i hi => h i (by omega))
    obtain ⟨h1, h2, h3, h4⟩ := h n (by omega)
    refine ⟨us ++ [.int .i64 (f n).1.kind, .int .i64 (f n).1.num, (f n).2], by simp [hl]; omega, ?_, fun j u hj => ?_⟩
    · rw [List.range_succ, List.map_append]
      exact hr.snoc h1
    · rcases Nat.lt_or_ge j us.length with hlt | hge
      · rw [List.getElem?_append_left hlt] at hj
        exact hc j u hj
      · rw [List.getElem?_append_right hge] at hj
        obtain ⟨r, rfl⟩ : ∃ r, j = us.length + r := ⟨j - us.length, by omega⟩
        rw [hl] at hj ⊢
        rw [Nat.add_sub_cancel_left] at hj
        match r, hj with
        | 0, hj => simp at hj; subst hj; exact h2
        | 1, hj => simp at hj; subst hj; exact h3
        | 2, hj => simp at hj; subst hj; exact h4

section
variable {H : Type} {enc : TypeId × Value → H} {w : World} {base : Nat} {sp : Nat → Bool} {hd : Bool}
set_option maxRecDepth 100000 in
/-- A list of terms, where each shorter reading is a term. -/
theorem open_terms_of {k : Nat} (ih : ∀ (d : DataW H), SizeOf.sizeOf d ≤ k → ∀ (fuel : Nat) (cs : List Value) (ps : List MemPlace), DataW.trod enc Tryz.prog w base sp hd fuel 34 cs = some (d, ps) →
    ∃ (s : T) (v : Value), cs = [.int .i64 s.kind, .int .i64 s.num, v] ∧ s.In w (fun b => b < w.heap.size) v) (d : DataW H) (hk : SizeOf.sizeOf d ≤ k + 1) (fuel : Nat) (cs : List Value) (ps : List MemPlace)
    (h : DataW.trod enc Tryz.prog w base sp hd fuel 32 cs = some (d, ps)) : ∃ (l : List T) (v : Value), cs = [v] ∧ T.InL w (fun b => b < w.heap.size) l v := by
  rcases open_slice Tryz.underlying32 h with ⟨hv, _⟩ | ⟨a, len, cap, m, n', D, Pl, hv, _, hlc, hcm, hm, hy, hel⟩
  · subst hv
    exact ⟨[], _, rfl, T.In.mk_ rfl (Nat.le_refl _) (by omega) (.inl rfl) (by simp [T.Row])⟩
  · have hlm : len ≤ m := by rw [hm]; split <;> omega
    simp only [Prod.mk.injEq] at hy
    obtain ⟨rfl, rfl⟩ := hy
    have hsz : ∀ i, i < len → SizeOf.sizeOf (D i) ≤ k := by
      intro i hi
      have h1 : D i ∈ (List.range len).map D := List.mem_map.2 ⟨i, List.mem_range.2 hi, rfl⟩
      have h2 := List.sizeOf_lt_of_mem h1
      simp at hk
      omega
    obtain ⟨f, hf⟩ := choose_lt (α := T × Value) (n := len) (p := fun i s => s.1.In w (fun b => b < w.heap.size) s.2 ∧ w.cell? (a.add (i * 3)) = some (.int .i64 s.1.kind) ∧ w.cell? (a.add (i * 3 + 1)) = some (.int .i64 s.1.num) ∧ w.cell? (a.add (i * 3 + 2)) = some s.2) (fun i hi => by
      obtain ⟨cs', hc, ht⟩ := hel i (by omega)
      rw [cells_term] at hc
      obtain ⟨s, v, rfl, hin⟩ := ih (D i) (hsz i hi) n' cs' (Pl i) ht
      obtain ⟨_, _, hat⟩ := World.cells?_some hc
      have c0 := hat 0 (by omega)
      have c1 := hat 1 (by omega)
      have c2 := hat 2 (by omega)
      rw [add_add] at c0 c1 c2
      exact ⟨(s, v), hin, c0, c1, c2⟩)
    obtain ⟨us, hul, hrow, hcell⟩ := row_of len hf
    subst hv
    refine ⟨_, _, rfl, T.In.mk_ (us := us) (by simp) hlc (by simpa [maxLen] using hcm) ?_ hrow⟩
    rcases Nat.eq_zero_or_pos len with h0 | h0
    · left
      exact List.length_eq_zero_iff.1 (by rw [hul, h0])
    · right
      refine ⟨a, rfl, ?_, hcell⟩
      have hlt := World.block_lt_of_cell? w _ (hf 0 h0).2.1
      rwa [block_of_add] at hlt
set_option maxRecDepth 100000 in
theorem open_term_at : ∀ (k : Nat) (d : DataW H), SizeOf.sizeOf d ≤ k → ∀ (fuel : Nat) (cs : List Value) (ps : List MemPlace), DataW.trod enc Tryz.prog w base sp hd fuel 34 cs = some (d, ps) →
    ∃ (s : T) (v : Value), cs = [.int .i64 s.kind, .int .i64 s.num, v] ∧ s.In w (fun b => b < w.heap.size) v := by
  intro k
  induction k with
  | zero => intro d hd'; cases d <;> simp at hd'
  | succ k ih =>
    intro d hk fuel cs ps h
    obtain ⟨xs, n, _, hx, hl, hlen, hf⟩ := DataW.trod_struct Tryz.underlying34 h
    rw [cells_term] at hl
    match cs, hl, xs, hlen with
    | [a, b, c], _, [y0, y1, y2], _ =>
      have f0 := hf 0 _ rfl
      have f1 := hf 1 _ rfl
      have f2 := hf 2 _ rfl
      have f0' : DataW.trod enc Tryz.prog w base sp hd n 3 [a] = some y0 := f0
      have f1' : DataW.trod enc Tryz.prog w base sp hd n 3 [b] = some y1 := f1
      have f2' : DataW.trod enc Tryz.prog w base sp hd n 32 [c] = some y2 := f2
      obtain ⟨i, hi, _⟩ := DataW.trod_int Tryz.underlying3 f0'
      obtain ⟨j, hj, _⟩ := DataW.trod_int Tryz.underlying3 f1'
      simp only [Prod.mk.injEq, List.map_cons, List.map_nil] at hx
      obtain ⟨rfl, _⟩ := hx
      have hk2 : SizeOf.sizeOf y2.1 ≤ k + 1 := by simp at hk; omega
      obtain ⟨l, v, hv, hin⟩ := open_terms_of ih y2.1 hk2 n [c] y2.2 f2'
      simp only [List.cons.injEq, and_true] at hi hj hv
      subst hi hj hv
      exact ⟨.mk i j l, c, rfl, T.InL.to hin⟩

set_option maxRecDepth 100000 in
theorem open_term {v : Value} {d : DataW H} {ps : List MemPlace} (hok : ∃ cs, v = .agg cs) (h : DataW.Trod enc Tryz.prog w base sp hd 34 v d ps) :
    ∃ (s : T) (u : Value), v = .agg #[.int .i64 s.kind, .int .i64 s.num, u] ∧ s.In w (fun b => b < w.heap.size) u := by
  obtain ⟨cs, rfl⟩ := hok
  obtain ⟨fuel, hf⟩ := h
  obtain ⟨s, u, hcs, hin⟩ := open_term_at _ d (Nat.le_refl _) fuel _ ps hf
  refine ⟨s, u, ?_, hin⟩
  congr 1
  apply Array.toList_inj.1
  simpa [Value.cells] using hcs
end
end Go.Proofs.YtbbejhhohppdhaaGreatDoor

namespace Go.Proofs.YtbbejhhohppdhaaGreatDoor
open Go.RowKit Go.ChangeShapes Go.WideShapes Go.ChangeAt Go.Deep

theorem cells_symbol : Tryz.prog.cellsOf 98 = 2 := by kernel_rfl
theorem cells_place : Tryz.prog.cellsOf 125 = 3 := by kernel_rfl
instance : Inhabited Sy := ⟨⟨⟨#[]⟩, 0⟩⟩
theorem syCells_snocP (x : Sy) : ∀ l : List Sy, syCells (l ++ [x]) = syCells l ++ [.string x.name, .int .i64 x.rank]
  | [] => rfl
  | y :: r => by simp [syCells, syCells_snocP x r]
theorem syCells_lengthP : ∀ l : List Sy, (syCells l).length = l.length * 2
  | [] => rfl
  | y :: r => by simp [syCells, syCells_lengthP r]; omega
/-- Symbols that lie one behind another. -/
theorem syms_of {w : World} {a : Addr} {f : Nat → Sy} : ∀ (n : Nat), (∀ i, i < n → w.cell? (a.add (i * 2)) = some (.string (f i).name) ∧ w.cell? (a.add (i * 2 + 1)) = some (.int .i64 (f i).rank)) →
    ∀ j u, (syCells ((List.range n).map f))[j]? = some u → w.cell? (a.add j) = some u
  | 0, _ => by simp [syCells]
  | n + 1, h => by
    have hc := syms_of (f := f) n (fun i hi => h i (by omega))
    obtain ⟨h1, h2⟩ := h n (by omega)
    intro j u hj
    rw [List.range_succ, List.map_append, List.map_cons, List.map_nil, syCells_snocP] at hj
    have hl : (syCells ((List.range n).map f)).length = n * 2 := by rw [syCells_lengthP]; simp
    rcases Nat.lt_or_ge j (n * 2) with hlt | hge
    · rw [List.getElem?_append_left (by omega)] at hj
      exact hc j u hj
    · rw [List.getElem?_append_right (by omega), hl] at hj
      obtain ⟨r, rfl⟩ : ∃ r, j = n * 2 + r := ⟨j - n * 2, by omega⟩
      rw [Nat.add_sub_cancel_left] at hj
      match r, hj with
      | 0, hj => simp at hj; subst hj; exact h1
      | 1, hj => simp at hj; subst hj; exact h2

section
variable {H : Type} {enc : TypeId × Value → H} {w : World} {base : Nat} {sp : Nat → Bool} {hd : Bool}
set_option maxRecDepth 100000 in
theorem open_symbol (d : DataW H) (fuel : Nat) (cs : List Value) (ps : List MemPlace) (h : DataW.trod enc Tryz.prog w base sp hd fuel 98 cs = some (d, ps)) :
    ∃ x : Sy, cs = [.string x.name, .int .i64 x.rank] ∧ x.name.size ≤ maxLen := by
  obtain ⟨xs, n, _, hx, hl, hlen, hf⟩ := DataW.trod_struct Tryz.underlying98 h
  rw [cells_symbol] at hl
  match cs, hl, xs, hlen with
  | [a, b], _, [y0, y1], _ =>
    have f0 := hf 0 _ rfl
    have f1 := hf 1 _ rfl
    have f0' : DataW.trod enc Tryz.prog w base sp hd n 9 [a] = some y0 := f0
    have f1' : DataW.trod enc Tryz.prog w base sp hd n 3 [b] = some y1 := f1
    obtain ⟨s, hs, _, hz⟩ := DataW.trod_string Tryz.underlying9 f0'
    obtain ⟨j, hj, _⟩ := DataW.trod_int Tryz.underlying3 f1'
    simp only [List.cons.injEq, and_true] at hs hj
    subst hs hj
    exact ⟨⟨s, j⟩, rfl, hz⟩
set_option maxRecDepth 100000 in
theorem open_symbols (d : DataW H) (fuel : Nat) (cs : List Value) (ps : List MemPlace) (h : DataW.trod enc Tryz.prog w base sp hd fuel 22 cs = some (d, ps)) :
    ∃ (l : List Sy) (v : Value), cs = [v] ∧ SyIn w (fun b => b < w.heap.size) l v := by
  rcases open_slice Tryz.underlying22 h with ⟨hv, _⟩ | ⟨a, len, cap, m, n', D, Pl, hv, _, hlc, hcm, hm, hy, hel⟩
  · subst hv
    exact ⟨[], _, rfl, _, _, _, rfl, rfl, Nat.le_refl _, by omega, .inl rfl, by simp⟩
  · have hlm : len ≤ m := by rw [hm]; split <;> omega
    obtain ⟨f, hf⟩ := choose_lt (α := Sy) (n := len) (p := fun i s => (w.cell? (a.add (i * 2)) = some (.string s.name) ∧ w.cell? (a.add (i * 2 + 1)) = some (.int .i64 s.rank)) ∧ s.name.size ≤ maxLen) (fun i hi => by
      obtain ⟨cs', hc, ht⟩ := hel i (by omega)
      rw [cells_symbol] at hc
      obtain ⟨s, rfl, hz⟩ := open_symbol (D i) n' cs' (Pl i) ht
      obtain ⟨_, _, hat⟩ := World.cells?_some hc
      have c0 := hat 0 (by omega)
      have c1 := hat 1 (by omega)
      rw [add_add] at c0 c1
      exact ⟨s, ⟨c0, c1⟩, hz⟩)
    subst hv
    refine ⟨(List.range len).map f, _, rfl, _, _, _, rfl, by simp, hlc, by simpa [maxLen] using hcm, ?_, fun x hx => ?_⟩
    · rcases Nat.eq_zero_or_pos len with h0 | h0
      · left
        subst h0
        rfl
      · right
        refine ⟨a, rfl, ?_, syms_of len (fun i hi => (hf i hi).1)⟩
        have hlt := World.block_lt_of_cell? w _ (hf 0 h0).1.1
        rwa [block_of_add] at hlt
    · obtain ⟨i, hi, rfl⟩ := List.mem_map.1 hx
      exact (hf i (List.mem_range.1 hi)).2
set_option maxRecDepth 100000 in
theorem open_sorts (d : DataW H) (fuel : Nat) (v : Value) (ps : List MemPlace) (h : DataW.trod enc Tryz.prog w base sp hd fuel 60 [v] = some (d, ps)) :
    ∃ l : List S, (S.mk l).In w 0 w.heap.size v := by
  have h1 := trod_struct1_mk (cs := [v]) Tryz.underlying62 (by rw [cells_sort]; rfl) h
  obtain ⟨s, v', hv, hin⟩ := open_sort_at _ _ (Nat.le_refl _) _ _ _ h1
  simp only [List.cons.injEq, and_true] at hv
  subst hv
  exact ⟨s.args, by cases s; exact hin⟩
set_option maxRecDepth 100000 in
theorem open_place_at (d : DataW H) (fuel : Nat) (cs : List Value) (ps : List MemPlace) (h : DataW.trod enc Tryz.prog w base sp hd fuel 125 cs = some (d, ps)) :
    ∃ (p : Pl) (v0 v1 v2 : Value), cs = [v0, v1, v2] ∧ PlIn w 0 w.heap.size p v0 v1 v2 := by
  obtain ⟨xs, n, _, hx, hl, hlen, hff⟩ := DataW.trod_struct Tryz.underlying125 h
  rw [cells_place] at hl
  match cs, hl, xs, hlen with
  | [a, b, c], _, [y0, y1, y2], _ =>
    have f0 := hff 0 _ rfl
    have f1 := hff 1 _ rfl
    have f2 := hff 2 _ rfl
    have f0' : DataW.trod enc Tryz.prog w base sp hd n 22 [a] = some y0 := f0
    have f1' : DataW.trod enc Tryz.prog w base sp hd n 60 [b] = some y1 := f1
    have f2' : DataW.trod enc Tryz.prog w base sp hd n 60 [c] = some y2 := f2
    obtain ⟨ls, v0, hv0, hi0⟩ := open_symbols y0.1 n [a] y0.2 f0'
    obtain ⟨lf, hi1⟩ := open_sorts y1.1 n b y1.2 f1'
    obtain ⟨lp, hi2⟩ := open_sorts y2.1 n c y2.2 f2'
    simp only [List.cons.injEq, and_true] at hv0
    subst hv0
    exact ⟨⟨ls, lf, lp⟩, a, b, c, rfl, hi0, hi1, hi2⟩
theorem open_place {v : Value} {d : DataW H} {ps : List MemPlace} (hok : ∃ cs, v = .agg cs) (h : DataW.Trod enc Tryz.prog w base sp hd 125 v d ps) :
    ∃ (p : Pl) (v0 v1 v2 : Value), v = .agg #[v0, v1, v2] ∧ PlIn w 0 w.heap.size p v0 v1 v2 := by
  obtain ⟨cs, rfl⟩ := hok
  obtain ⟨fuel, hf⟩ := h
  obtain ⟨p, v0, v1, v2, hcs, hin⟩ := open_place_at d fuel _ ps hf
  refine ⟨p, v0, v1, v2, ?_, hin⟩
  congr 1
  apply Array.toList_inj.1
  simpa [Value.cells] using hcs
end
end Go.Proofs.YtbbejhhohppdhaaGreatDoor

namespace Go.Proofs.YtbbejhhohppdhaaGreatDoor
open Go.RowKit Go.ChangeShapes Go.WideShapes Go.ChangeAt Go.Deep

theorem cells_fun : Tryz.prog.cellsOf 64 = 5 := by kernel_rfl
theorem cells_scheme : Tryz.prog.cellsOf 25 = 2 := by kernel_rfl
instance : Inhabited Fn := ⟨⟨⟨#[]⟩, .mk [], .mk 0 0 []⟩⟩
theorem FnRow.snoc {w : World} {hi : Nat} {f : Fn} {u v : Value} (h1 : f.sort.In w 0 hi u) (h2 : f.body.In w (fun b => b < hi) v) (h3 : f.name.size ≤ maxLen) : ∀ {l : List Fn} {us : List Value}, FnRow w hi l us →
    FnRow w hi (l ++ [f]) (us ++ [.string f.name, u, .int .i64 f.body.kind, .int .i64 f.body.num, v])
  | [], us, h => by
    simp only [FnRow] at h
    subst h
    exact ⟨u, v, [], rfl, h1, h2, h3, rfl⟩
  | g :: r, us, h => by
    simp only [FnRow] at h
    obtain ⟨u', v', ut, rfl, g1, g2, g3, g4⟩ := h
    exact ⟨u', v', _, rfl, g1, g2, g3, FnRow.snoc h1 h2 h3 g4⟩
/-- Functions that lie one behind another. -/
theorem frow_of {w : World} {hi : Nat} {a : Addr} {f : Nat → Fn × Value × Value} : ∀ (n : Nat), (∀ i, i < n → ((f i).1.sort.In w 0 hi (f i).2.1 ∧ (f i).1.body.In w (fun b => b < hi) (f i).2.2 ∧ (f i).1.name.size ≤ maxLen) ∧
      w.cell? (a.add (i * 5)) = some (.string (f i).1.name) ∧ w.cell? (a.add (i * 5 + 1)) = some (f i).2.1 ∧ w.cell? (a.add (i * 5 + 2)) = some (.int .i64 (f i).1.body.kind) ∧ w.cell? (a.add (i * 5 + 3)) = some (.int .i64 (f i).1.body.num) ∧ w.cell? (a.add (i * 5 + 4)) = some (f i).2.2) →
    ∃ us : List Value, us.length = n * 5 ∧ FnRow w hi ((List.range n).map fun i => (f i).1) us ∧ ∀ j u, us[j]? = some u → w.cell? (a.add j) = some u
  | 0, _ => ⟨[], rfl, by simp [FnRow], by simp⟩
  | n + 1, h => by
    obtain ⟨us, hl, hr, hc⟩ := frow_of n (fun i hi => h i (by omega))
    obtain ⟨⟨h1, h2, h3⟩, c0, c1, c2, c3, c4⟩ := h n (by omega)
    refine ⟨us ++ [.string (f n).1.name, (f n).2.1, .int .i64 (f n).1.body.kind, .int .i64 (f n).1.body.num, (f n).2.2], by simp [hl]; omega, ?_, fun j u hj => ?_⟩
    · rw [List.range_succ, List.map_append]
      exact FnRow.snoc h1 h2 h3 hr
    · rcases Nat.lt_or_ge j us.length with hlt | hge
      · rw [List.getElem?_append_left hlt] at hj
        exact hc j u hj
      · rw [List.getElem?_append_right hge] at hj
        obtain ⟨r, rfl⟩ : ∃ r, j = us.length + r := ⟨j - us.length, by omega⟩
        rw [hl] at hj ⊢
        rw [Nat.add_sub_cancel_left] at hj
        match r, hj with
        | 0, hj => simp at hj; subst hj; exact c0
        | 1, hj => simp at hj; subst hj; exact c1
        | 2, hj => simp at hj; subst hj; exact c2
        | 3, hj => simp at hj; subst hj; exact c3
        | 4, hj => simp at hj; subst hj; exact c4

section
variable {H : Type} {enc : TypeId × Value → H} {w : World} {base : Nat} {sp : Nat → Bool} {hd : Bool}
set_option maxRecDepth 100000 in
theorem open_fun (d : DataW H) (fuel : Nat) (cs : List Value) (ps : List MemPlace) (h : DataW.trod enc Tryz.prog w base sp hd fuel 64 cs = some (d, ps)) :
    ∃ (f : Fn) (u v : Value), cs = [.string f.name, u, .int .i64 f.body.kind, .int .i64 f.body.num, v] ∧ f.sort.In w 0 w.heap.size u ∧ f.body.In w (fun b => b < w.heap.size) v ∧ f.name.size ≤ maxLen := by
  obtain ⟨xs, n, _, hx, hl, hlen, hf⟩ := DataW.trod_struct Tryz.underlying64 h
  rw [cells_fun] at hl
  match cs, hl, xs, hlen with
  | [c0, c1, c2, c3, c4], _, [y0, y1, y2], _ =>
    have f0 := hf 0 _ rfl
    have f1 := hf 1 _ rfl
    have f2 := hf 2 _ rfl
    have f0' : DataW.trod enc Tryz.prog w base sp hd n 9 [c0] = some y0 := f0
    have f1' : DataW.trod enc Tryz.prog w base sp hd n 62 [c1] = some y1 := f1
    have f2' : DataW.trod enc Tryz.prog w base sp hd n 34 [c2, c3, c4] = some y2 := f2
    obtain ⟨s, hs, _, hz⟩ := DataW.trod_string Tryz.underlying9 f0'
    obtain ⟨so, u, hu, hso⟩ := open_sort_at _ y1.1 (Nat.le_refl _) n _ y1.2 f1'
    obtain ⟨t, v, hv, hti⟩ := open_term_at _ y2.1 (Nat.le_refl _) n _ y2.2 f2'
    simp only [List.cons.injEq, and_true] at hs hu hv
    obtain ⟨rfl, rfl, rfl⟩ := hv
    subst hs hu
    exact ⟨⟨s, so, t⟩, c1, c4, rfl, hso, hti, hz⟩
set_option maxRecDepth 100000 in
theorem open_funs (d : DataW H) (fuel : Nat) (cs : List Value) (ps : List MemPlace) (h : DataW.trod enc Tryz.prog w base sp hd fuel 23 cs = some (d, ps)) :
    ∃ (l : List Fn) (v : Value), cs = [v] ∧ FnIn w w.heap.size l v := by
  rcases open_slice Tryz.underlying23 h with ⟨hv, _⟩ | ⟨a, len, cap, m, n', D, Pl, hv, _, hlc, hcm, hm, hy, hel⟩
  · subst hv
    exact ⟨[], _, rfl, _, _, _, [], rfl, rfl, Nat.le_refl _, by omega, .inl rfl, rfl⟩
  · have hlm : len ≤ m := by rw [hm]; split <;> omega
    obtain ⟨f, hf⟩ := choose_lt (α := Fn × Value × Value) (n := len) (p := fun i s => (s.1.sort.In w 0 w.heap.size s.2.1 ∧ s.1.body.In w (fun b => b < w.heap.size) s.2.2 ∧ s.1.name.size ≤ maxLen) ∧
      w.cell? (a.add (i * 5)) = some (.string s.1.name) ∧ w.cell? (a.add (i * 5 + 1)) = some s.2.1 ∧ w.cell? (a.add (i * 5 + 2)) = some (.int .i64 s.1.body.kind) ∧ w.cell? (a.add (i * 5 + 3)) = some (.int .i64 s.1.body.num) ∧ w.cell? (a.add (i * 5 + 4)) = some s.2.2) (fun i hi => by
      obtain ⟨cs', hc, ht⟩ := hel i (by omega)
      rw [cells_fun] at hc
      obtain ⟨s, u, v, rfl, h1, h2, h3⟩ := open_fun (D i) n' cs' (Pl i) ht
      obtain ⟨_, _, hat⟩ := World.cells?_some hc
      have c0 := hat 0 (by omega)
      have c1 := hat 1 (by omega)
      have c2 := hat 2 (by omega)
      have c3 := hat 3 (by omega)
      have c4 := hat 4 (by omega)
      rw [add_add] at c0 c1 c2 c3 c4
      exact ⟨(s, u, v), ⟨h1, h2, h3⟩, c0, c1, c2, c3, c4⟩)
    obtain ⟨us, hul, hrow, hcell⟩ := frow_of len hf
    subst hv
    refine ⟨_, _, rfl, _, _, _, us, rfl, by simp, hlc, by simpa [maxLen] using hcm, ?_, hrow⟩
    rcases Nat.eq_zero_or_pos len with h0 | h0
    · left
      exact List.length_eq_zero_iff.1 (by rw [hul, h0])
    · right
      refine ⟨a, rfl, ?_, hcell⟩
      have hlt := World.block_lt_of_cell? w _ (hf 0 h0).2.1
      rwa [block_of_add] at hlt
set_option maxRecDepth 100000 in
theorem open_scheme_at (d : DataW H) (fuel : Nat) (cs : List Value) (ps : List MemPlace) (h : DataW.trod enc Tryz.prog w base sp hd fuel 25 cs = some (d, ps)) :
    ∃ (s : Sc) (v0 v1 : Value), cs = [v0, v1] ∧ ScIn w w.heap.size s v0 v1 := by
  obtain ⟨xs, n, _, hx, hl, hlen, hff⟩ := DataW.trod_struct Tryz.underlying25 h
  rw [cells_scheme] at hl
  match cs, hl, xs, hlen with
  | [a, b], _, [y0, y1], _ =>
    have f0 := hff 0 _ rfl
    have f1 := hff 1 _ rfl
    have f0' : DataW.trod enc Tryz.prog w base sp hd n 22 [a] = some y0 := f0
    have f1' : DataW.trod enc Tryz.prog w base sp hd n 23 [b] = some y1 := f1
    obtain ⟨ls, v0, hv0, hi0⟩ := open_symbols y0.1 n [a] y0.2 f0'
    obtain ⟨lf, v1, hv1, hi1⟩ := open_funs y1.1 n [b] y1.2 f1'
    simp only [List.cons.injEq, and_true] at hv0 hv1
    subst hv0 hv1
    exact ⟨⟨ls, lf⟩, a, b, rfl, hi0, hi1⟩
theorem open_scheme {v : Value} {d : DataW H} {ps : List MemPlace} (hok : ∃ cs, v = .agg cs) (h : DataW.Trod enc Tryz.prog w base sp hd 25 v d ps) :
    ∃ (s : Sc) (v0 v1 : Value), v = .agg #[v0, v1] ∧ ScIn w w.heap.size s v0 v1 := by
  obtain ⟨cs, rfl⟩ := hok
  obtain ⟨fuel, hf⟩ := h
  obtain ⟨s, v0, v1, hcs, hin⟩ := open_scheme_at d fuel _ ps hf
  refine ⟨s, v0, v1, ?_, hin⟩
  congr 1
  apply Array.toList_inj.1
  simpa [Value.cells] using hcs
end
end Go.Proofs.YtbbejhhohppdhaaGreatDoor
