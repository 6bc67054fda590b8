/-
  A sort that can be read as data is a sort in memory; and what a law's row asks behind the walk.
-/
import Derived.Test.YtbifnkjfjndjjaaMem
import Derived.Test.YtbifnkjfjndjjaaRows
import Derived.Deep.Slices
import Derived.ChangeSame
import Derived.JoinedOf
import Derived.JoinedAt
import Derived.RowKit
import Derived.RowKit2
import Derived.ReadAgain
import Derived.ChangeAlike
import Derived.ProofKit
namespace Go.Proofs.Ytbifnkjfjndjjaa
open Go.RowKit Go.ChangeShapes Go.WideShapes Go.ChangeAt Go.Deep

theorem cells_sort : Try.prog.cellsOf 24 = 1 := by kernel_rfl
instance : Inhabited S := ⟨.mk []⟩

section
variable {H : Type} {enc : TypeId × Value → H} {w : World} {base : Nat} {sp : Nat → Bool} {hd : Bool}
set_option maxRecDepth 100000 in
theorem open_sort_at : ∀ (k : Nat) (d : DataW H), SizeOf.sizeOf d ≤ k → ∀ (fuel : Nat) (cs : List Value) (ps : List MemPlace), DataW.trod enc Try.prog w base sp hd fuel 24 cs = some (d, ps) →
    ∃ (s : S) (v : Value), cs = [v] ∧ s.In w 0 w.heap.size v := by
  intro k
  induction k with
  | zero => intro d hd'; cases d <;> simp at hd'
  | succ k ih =>
    intro d hk fuel cs ps h
    obtain ⟨y0, n, hx, hl, h0⟩ := trod_struct1 Try.underlying24 h
    rw [cells_sort] at hl
    match cs, hl with
    | [v], _ =>
      simp only [Prod.mk.injEq] at hx
      obtain ⟨rfl, rfl⟩ := hx
      have h0' : DataW.trod enc Try.prog w base sp hd n 22 [v] = some y0 := h0
      rcases open_slice1 Try.underlying22 cells_sort h0' with ⟨hv, _⟩ | ⟨a, len, cap, m, n', V, D, Pl, hv, _, hlc, hcm, hm, hy, hel⟩
      · refine ⟨.mk [], v, rfl, ?_⟩
        simp only [List.cons.injEq, and_true] at hv
        subst hv
        simp only [S.In]
        exact ⟨_, _, _, rfl, rfl, Nat.le_refl _, by omega, by simp [S.All]⟩
      · have hlm : len ≤ m := by rw [hm]; split <;> omega
        have hsz : ∀ i, i < len → SizeOf.sizeOf (D i) ≤ k := by
          intro i hi
          have h1 : D i ∈ (List.range len).map D := List.mem_map.2 ⟨i, List.mem_range.2 hi, rfl⟩
          have h2 := List.sizeOf_lt_of_mem h1
          rw [hy] at hk
          simp at hk
          omega
        obtain ⟨f, hf⟩ := choose_lt (n := len) (p := fun i (s : S) => s.In w 0 w.heap.size (V i)) (fun i hi => by
          obtain ⟨s, v', hv', hin⟩ := ih (D i) (hsz i hi) n' [V i] (Pl i) (hel i (by omega)).2
          simp only [List.cons.injEq, and_true] at hv'
          subst hv'
          exact ⟨s, hin⟩)
        refine ⟨.mk ((List.range len).map f), v, rfl, ?_⟩
        simp only [List.cons.injEq, and_true] at hv
        subst hv
        simp only [S.In]
        refine ⟨_, _, _, rfl, by simp, hlc, by simpa [maxLen] using hcm, S.All.mk_ fun j x hx => ?_⟩
        have hj : j < len := by
          rcases Nat.lt_or_ge j len with h' | h'
          · exact h'
          · rw [List.getElem?_eq_none (by simpa using h')] at hx; cases hx
        have hxf : x = f j := by simpa [List.getElem?_map, List.getElem?_range, hj] using hx.symm
        subst hxf
        have hc := (hel j (by omega)).1
        have hlt := World.block_lt_of_cell? w _ hc
        rw [block_of_add] at hlt
        exact ⟨a, V j, rfl, Nat.zero_le _, hlt, by rw [Nat.zero_add]; exact hc, hf j hj⟩

theorem open_sort {v : Value} {d : DataW H} {ps : List MemPlace} (hok : ∃ cs, v = .agg cs) (h : DataW.Trod enc Try.prog w base sp hd 24 v d ps) : ∃ (s : S) (u : Value), v = .agg #[u] ∧ s.In w 0 w.heap.size u := by
  obtain ⟨cs, rfl⟩ := hok
  obtain ⟨fuel, hf⟩ := h
  obtain ⟨s, u, hcs, hin⟩ := open_sort_at _ d (Nat.le_refl _) fuel _ ps hf
  refine ⟨s, u, ?_, hin⟩
  congr 1
  apply Array.toList_inj.1
  simpa [Value.cells] using hcs
end

theorem own_ : ownKnob Try.prog.godebug = none := by kernel_rfl
theorem kids_ : Kids Try.prog (· < Try.prog.types.size) := kids_rows (by kernel_rfl) (by kernel_rfl)
theorem full_ : ∀ t e, t < Try.prog.types.size → Try.prog.underlying t = some (.slice e) → 0 < Try.prog.cellsOf e := slices_full_of Try.prog (by kernel_rfl)
section
variable {H : Type} {enc : TypeId × Value → H} {P : Program}
theorem post_of_below {f : Func} {s : ChangeSpec} {apart fresh handsOn again : Bool} {W W' : World} {args : Array Value} {v : Value} {ds gs : List (DataW H)} {before pa pv : List MemPlace}
    (hW : DataW.Whole enc P f.params.toList s.vars apart W args.toList ds gs before)
    (hres : ∀ (b : Nat) (sp : Nat → Bool) (hd : Bool), DataW.TrodAll enc P W' b sp hd f.resultTypes.toList (v.resultList f.resultTypes.size) (s.fn H (ds ++ gs)).results [])
    (hargs : ∀ sp : Nat → Bool, (∀ p ∈ before, sp p.block = true) → DataW.TrodAll enc P W' 0 sp true f.params.toList args.toList (s.fn H (ds ++ gs)).args pa)
    (hvars : ∀ sp : Nat → Bool, (∀ p ∈ before, sp p.block = true) → DataW.TrodVars enc P W' sp s.vars (s.fn H (ds ++ gs)).vars pv)
    (hps : before = pa ++ pv) (hb : Below W.heap.size W W')
    (hok : ∀ (j : Nat) (t : TypeId) (r : Value), f.resultTypes[j]? = some t → (v.resultList f.resultTypes.size)[j]? = some r → Value.okWide P W' .any 0 t r) :
    s.post enc P f apart fresh handsOn again W args v W' := by
  have hlt : ∀ p ∈ before, p.block < W.heap.size := fun p hp => hW.lt p hp
  have hold : ∀ p ∈ before, (fun b => decide (b < W.heap.size)) p.block = true := fun p hp => by simpa using hlt p hp
  refine ⟨ds, gs, before, [], pa, pv, hW, hres _ _ _, hargs _ hold, hvars _ hold, World.keptBut_mono (fun p hp => ⟨hp, ?_⟩) (hb.frame (· ∈ before)), fun _ => ?_⟩
  · rw [hps, List.mem_append] at hp
    exact Or.inr hp
  · obtain ⟨_, _, _, _, _, hz, hn⟩ := hW
    refine ⟨hok, _, _, ([] ++ pa) ++ pv, ⟨[] ++ pa, pv, trodAll_append (hargs _ (fun _ _ => rfl)) (hres _ _ _), hvars _ (fun _ _ => rfl), rfl, ?_, ?_⟩, ?_⟩
    · intro b off hp
      have hin : MemPlace.cell b off ∈ before := by rw [hps]; simpa using hp
      rw [hb.frozen (hlt _ hin)]
      exact hz b off hin
    · intro ha
      have := hn ha
      rw [hps] at this
      simpa using this
    · intro p hp _
      rw [hps]
      simpa using hp
end

theorem laid_ : laidOutB Try.prog = true := by kernel_rfl
theorem trodAll_stays {H : Type} {enc : TypeId × Value → H} {W W' : World} (hb : Below W.heap.size W W') :
    ∀ {ts : List TypeId} {vs : List Value} {ds : List (DataW H)} {ps : List MemPlace}, (∀ t ∈ ts, Try.prog.readableRec t = true ∧ t < Try.prog.types.size) → DataW.TrodAll enc Try.prog W 0 (fun _ => true) true ts vs ds ps →
      (∀ x ∈ ps, x.block < W.heap.size) → ∀ sp' : Nat → Bool, (∀ p ∈ ps, sp' p.block = true) → DataW.TrodAll enc Try.prog W' 0 sp' true ts vs ds ps
  | [], [], [], _, _, h, _, _, _ => h
  | [], [], _ :: _, _, _, h, _, _, _ => h.elim
  | [], _ :: _, _, _, _, h, _, _, _ => h.elim
  | _ :: _, [], _, _, _, h, _, _, _ => h.elim
  | _ :: _, _ :: _, [], _, _, h, _, _, _ => h.elim
  | t :: ts, v :: vs, d :: ds, ps, hr, h, hlt, sp', hs => by
    obtain ⟨p, q, h1, h2, rfl⟩ := h
    have ht := hr t (by simp)
    exact ⟨p, q, WideElems.Trod_stays laid_ ht.1 ht.2 h1 (fun x hx => hb.same (hlt x (by simp [hx]))) (fun x hx => hs x (by simp [hx])),
      trodAll_stays hb (fun t' ht' => hr t' (by simp [ht'])) h2 (fun x hx => hlt x (by simp [hx])) sp' (fun x hx => hs x (by simp [hx])), rfl⟩

set_option maxRecDepth 100000 in
/-- What a law's row asks, behind a walk that has answered true and written nothing that there was. -/
theorem law_post {H : Type} {enc : TypeId × Value → H} {f : Func} {s : ChangeSpec} {W W' : World} {args : Array Value} {ds : List (DataW H)} {p : List MemPlace}
    (hvars : s.vars = []) (hres : f.resultTypes = #[4]) (hfn : s.fn H (ds ++ []) = { results := [.lit (.bool true)], args := ds })
    (hr : ∀ t ∈ f.params.toList, Try.prog.readableRec t = true ∧ t < Try.prog.types.size)
    (hW : DataW.Whole enc Try.prog f.params.toList s.vars false W args.toList ds [] p) (hA : DataW.TrodAll enc Try.prog W 0 (fun _ => true) true f.params.toList args.toList ds p)
    (hb : Below W.heap.size W W') : s.post enc Try.prog f false true false false W args (.bool true) W' := by
  refine post_of_below (gs := []) (pa := p) (pv := []) hW ?_ ?_ ?_ (by simp) hb ?_
  · intro b sp hd
    rw [hfn, hres]
    exact trodAll_mk1 (shut_bool Try.underlying4 true)
  · intro sp hsp
    rw [hfn]
    exact trodAll_stays hb hr hA (fun x hx => hW.lt x hx) sp hsp
  · intro sp _
    rw [hfn, hvars]
    rfl
  · exact ok_one hres rfl (okWide_bool_mk Try.underlying4 true)
end Go.Proofs.Ytbifnkjfjndjjaa
