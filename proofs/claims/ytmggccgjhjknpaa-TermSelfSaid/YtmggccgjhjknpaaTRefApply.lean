/-
  The reference's Apply: its contract.
-/
import Derived.Test.YtmggccgjhjknpaaTApply
import Derived.Test.YtmggccgjhjknpaaTCopy
namespace Go.Proofs.Ytmggccgjhjknpaa
open Go.RowKit

/-- As Mk, beside a block g that holds none of it. -/
structure MkG (g B : Nat) (w : World) (l : List T) (v : Value) (us : List Value) : Prop where
  own : w.ownsRow B 35 3 v l.length us
  row : T.Row w (fun b => B ≤ b ∧ b < w.heap.size ∧ v.ownBlock ≠ some b ∧ b ≠ g) l us
  ng : v.ownBlock ≠ some g
theorem MkG.of {B g : Nat} {w w' : World} {l : List T} {v : Value} {us : List Value} (h : Mk B w l v us) (hg : w.heap.size ≤ g) (hb : Below w.heap.size w w') : MkG g B w' l v us :=
  ⟨(h.below hb).own, (T.Row.keep (fun b hb' => hb.block b hb'.2.1) l h.row).more (fun b hb' => ⟨hb'.1, Nat.lt_of_lt_of_le hb'.2.1 hb.size, hb'.2.2, by omega⟩) l, fun e => by have := (h.lt e).2; omega⟩
theorem MkG.to {B g : Nat} {w : World} {l : List T} {v : Value} {us : List Value} (h : MkG g B w l v us) : Mk B w l v us :=
  ⟨h.own, h.row.more (fun _ hb => ⟨hb.1, hb.2.1, hb.2.2.1⟩) l⟩
theorem MkG.lt {B g : Nat} {w : World} {l : List T} {v : Value} {us : List Value} (h : MkG g B w l v us) {b : Nat} (hb : v.ownBlock = some b) : B ≤ b ∧ b < w.heap.size := h.own.lt b hb
theorem MkG.set {B g : Nat} {w : World} {l : List T} {v : Value} {us : List Value} (h : MkG g B w l v us) (o : Nat) (u : Value) : MkG g B (w.setCell ⟨g, o, none⟩ u) l v us :=
  ⟨owns_kept3 h.own (fun b hb => Below.heap_setCell w ⟨g, o, none⟩ u b (by intro e; exact h.ng (by rw [hb, e]))), (T.Row.keep (fun b hb => Below.heap_setCell w ⟨g, o, none⟩ u b hb.2.2.2) l h.row).more (fun b hb => by simpa [World.setCell] using hb) l, h.ng⟩
/-- One more term. -/
theorem MkG.push {g B : Nat} {wr w1 w2 : World} {l : List T} {v : Value} {us : List Value} (h : MkG g B wr l v us) (hg : g < wr.heap.size) (hBr : B ≤ wr.heap.size) (hb : ∀ b, b < wr.heap.size → w1.heap[b]? = wr.heap[b]?) (hz : wr.heap.size ≤ w1.heap.size) {y : T} {u : Value}
    (hy : y.In w1 (fun b => wr.heap.size ≤ b ∧ b < w1.heap.size) u) {o1 : Obj} {gg cap : Nat}
    (hown2 : w2.ownsRow B 35 3 (.slice (some ⟨gg, 0, none⟩) (l.length + 1) cap) (l.length + 1) (us ++ [.int .i64 y.kind, .int .i64 y.num, u])) (hgrow : (w1.alloc o1).grownBy w2 v.ownBlock)
    (hat : v.ownBlock = some gg ∨ gg = w1.heap.size + 1) :
    MkG g B w2 (l ++ [y]) (.slice (some ⟨gg, 0, none⟩) (l.length + 1) cap) (us ++ [.int .i64 y.kind, .int .i64 y.num, u]) := by
  have hgs := hgrow.size
  simp only [World.size_alloc] at hgs
  have hfar : ∀ b, b < w1.heap.size → v.ownBlock ≠ some b → w2.heap[b]? = w1.heap[b]? := fun b hb' hne => by
    rw [hgrow.block b (by simp; omega) (fun e => hne e.symm), Below.heap_alloc _ _ _ hb']
  have hvlt : ∀ b, v.ownBlock = some b → b < wr.heap.size := fun b hb' => (h.lt hb').2
  refine ⟨by rw [List.length_append]; exact hown2, ?_, ?_⟩
  · have hQ : ∀ b, (B ≤ b ∧ b < wr.heap.size ∧ v.ownBlock ≠ some b ∧ b ≠ g) → (B ≤ b ∧ b < w2.heap.size ∧ (Value.slice (some ⟨gg, 0, none⟩) (l.length + 1) cap).ownBlock ≠ some b ∧ b ≠ g) := by
      rintro b ⟨q1, q2, q3, q4⟩
      refine ⟨q1, by omega, fun e => ?_, q4⟩
      have e' : gg = b := by simpa [Value.ownBlock] using e
      rcases hat with ha | ha
      · exact q3 (by rw [ha, e'])
      · omega
    have hQ2 : ∀ b, (wr.heap.size ≤ b ∧ b < w1.heap.size) → (B ≤ b ∧ b < w2.heap.size ∧ (Value.slice (some ⟨gg, 0, none⟩) (l.length + 1) cap).ownBlock ≠ some b ∧ b ≠ g) := by
      rintro b ⟨q1, q2⟩
      refine ⟨by omega, by omega, fun e => ?_, by omega⟩
      have e' : gg = b := by simpa [Value.ownBlock] using e
      rcases hat with ha | ha
      · have := hvlt gg ha; omega
      · omega
    refine T.Row.snoc ?_ ?_
    · exact (hy.keep (fun b hb' => hfar b hb'.2 (fun e => by have := hvlt b e; omega)) _).more hQ2 _
    · exact (h.row.keep (fun b hb' => (hfar b (by omega) hb'.2.2.1).trans (hb b hb'.2.1)) l).more hQ l
  · intro e
    have e' : gg = g := by simpa [Value.ownBlock] using e
    rcases hat with ha | ha
    · exact h.ng (by rw [ha, e'])
    · omega

/-- What the loop that appends copies holds: list so far ml, its slice cv in the box g. -/
structure RoundA (ml : List T) (kd nm : Int) (B g : Nat) (w0 : World) (cv : Value) (us : List Value) (w : World) : Prop where
  lst : MkG g (B + 2) w ml cv us
  out : Blk w g 35 #[.int .i64 kd, .int .i64 nm, cv]
  res : Blk w (B + 1) 35 #[.int .i64 0, .int .i64 0, .slice none 0 0]
  bel : Below B w0 w
  hg : B + 2 ≤ g
theorem RoundA.next {ml : List T} {kd nm : Int} {B g : Nat} {w0 wr w1 w2 : World} {cv : Value} {us : List Value} {y : T} {u : Value} {us1 : List Value} {o o1 : Obj} {gg cap : Nat}
    (hr : RoundA ml kd nm B g w0 cv us wr) (hm1 : Mk (wr.heap.size + 1) w1 y.args u us1) (hbb1 : Below (wr.heap.size + 1) (wr.alloc o).drew w1) (hwz : wr.heap.size + 1 ≤ w1.heap.size)
    (hown2 : w2.ownsRow (B + 2) 35 3 (.slice (some ⟨gg, 0, none⟩) (ml.length + 1) cap) (ml.length + 1) (us ++ [.int .i64 y.kind, .int .i64 y.num, u])) (hgrow : (w1.alloc o1).grownBy w2 cv.ownBlock)
    (hat : cv.ownBlock = some gg ∨ gg = w1.heap.size + 1) :
    RoundA (ml ++ [y]) kd nm B g w0 (.slice (some ⟨gg, 0, none⟩) (ml.length + 1) cap) (us ++ [.int .i64 y.kind, .int .i64 y.num, u]) (w2.setCell ⟨g, 2, none⟩ (.slice (some ⟨gg, 0, none⟩) (ml.length + 1) cap)) := by
  have hB3 : g < wr.heap.size := hr.out.lt
  have hg2 := hr.hg
  have hcv : ∀ b, cv.ownBlock = some b → B + 2 ≤ b ∧ b < wr.heap.size := fun b hb => hr.lst.lt hb
  have hk1 : ∀ b, b < wr.heap.size → w1.heap[b]? = wr.heap[b]? := fun b hb => (hbb1.block b (by omega)).trans (Below.heap_alloc wr o b hb)
  have hk2 : ∀ b, b < wr.heap.size → cv.ownBlock ≠ some b → w2.heap[b]? = wr.heap[b]? := fun b hb hne => by
    rw [hgrow.block b (by simp; omega) (fun e => hne e.symm), Below.heap_alloc _ _ _ (by omega), hk1 b hb]
  have hin := hm1.term
  refine ⟨?_, ?_, ?_, ?_, hg2⟩
  · exact (hr.lst.push hB3 (by omega) hk1 (by omega) (hin.more (fun b hb => ⟨by have := hb.1; omega, hb.2⟩) _) hown2 hgrow hat).set 2 _
  · have h1 : Blk w2 g 35 #[.int .i64 kd, .int .i64 nm, cv] := (hk2 _ hB3 hr.lst.ng).trans hr.out
    exact h1.set_ 2 _
  · have h1 : Blk w2 (B + 1) 35 #[.int .i64 0, .int .i64 0, .slice none 0 0] := (hk2 _ (by omega) (fun e => by have := hcv _ e; omega)).trans hr.res
    exact h1.far (by show B + 1 ≠ g; omega) _
  · refine Below.setCell (hr.bel.trans ?_) (by show B ≤ g; omega) _
    have e1 : Below B wr w1 := ⟨(hbb1.os), (hbb1.tape), (hbb1.output), by omega, fun b hb => hk1 b (by omega)⟩
    exact (e1.alloc (by omega) o1).grown hgrow (by simp; omega) (fun b hb => by have := hcv b hb; omega)

theorem refApply_results {tmps : Array Value} {w : World} {a : Nat} {x y z u : Value} (h2 : tmps.getD 4 undef = .pointer (some ⟨a, 0, none⟩)) (h3 : tmps.getD 5 undef = u)
    (ha : Blk w a 35 #[x, y, z]) : (results Try.f33 tmps).run Try.prog w = .ok (.tuple #[.agg #[x, y, z], u]) w := by
  have h4 := ha.cell 0
  have h5 := ha.cell 1
  have h6 := ha.cell 2
  simp at h4 h5 h6
  have h2' : tmps[4]?.getD undef = .pointer (some ⟨a, 0, none⟩) := by simpa using h2
  have h3' : tmps[5]?.getD undef = u := by simpa using h3
  simp [results, Try.results33, go_sem, h2', h3', h4, h5, h6]

/-- The nodes counted so far: of the term and of the first k args, cut at 100001. -/
def T.sumN (t : T) (gs : List T) (k : Nat) : Int := min ((t.count + T.countL (gs.take k) : Nat) : Int) 100001
theorem T.count_applied (t : T) (gs : List T) : (t.applied gs).count = t.count + T.countL gs := by
  obtain ⟨k, n, l⟩ := t
  simp only [T.applied, T.args, T.count, T.countL_append]; omega
/-- What the first loop holds. -/
def Nds (t : T) (gs : List T) (v u : Value) (w0 : World) (n i : Value) (w : World) : Prop :=
  ∃ k : Nat, k ≤ gs.length ∧ i = .int .i64 k ∧ n = .int .i64 (t.sumN gs k) ∧ AppCtx t gs v u w0.heap.size w0 w
/-- What the second loop holds. -/
def Cps (t : T) (gs : List T) (u : Value) (g : Nat) (w0 : World) (i : Value) (w : World) : Prop :=
  ∃ (k : Nat) (cv : Value) (us : List Value), k ≤ gs.length ∧ i = .int .i64 k ∧ RoundA (t.args ++ gs.take k) t.kind t.num w0.heap.size g w0 cv us w ∧ T.InL w (fun b => b < w0.heap.size) gs u

set_option maxRecDepth 100000 in
set_option maxHeartbeats 3200000 in
theorem refApply_any (t : T) (v u : Value) (gs : List T) (w : World) (P Q : Nat → Prop) (hin : t.In w P v) (hold : Old P w) (hins : T.InL w Q gs u) (holds : Old Q w) (hm : gs.length ≤ 3600000000000) :
    Calls Try.prog 33 #[.agg #[.int .i64 t.kind, .int .i64 t.num, v], u] w (Gave (t.applyT gs) (t.applyE gs) w) := by
  obtain ⟨i0, hi0, hz0, hz1, hz2⟩ := info_parts term_info
  have k0 := AppCtx.start hin hold hins holds
  obtain ⟨A, n, c, rfl⟩ := hin.form
  obtain ⟨A1, n1, c1, rfl⟩ := T.In.form hins
  have hn1 := T.InL.len hins
  subst hn1
  have hin2 : t.In ((w.alloc (.cells #[.int .i64 t.kind, .int .i64 t.num, .slice A n c] 35)).alloc (.cells #[.int .i64 0, .int .i64 0, .slice none 0 0] 35)) P (.slice A n c) := hin.old hold k0.bel
  have HN := Lib.hid (nodesT_any _ t _ 100000 _ P (Nat.le_refl _) (by omega) (by omega) hin2 (hold.bel k0.bel))
  have hs0 : min (t.count : Int) (100000 + 1) = t.sumN gs 0 := by simp [T.sumN, T.countL]
  rw [hs0] at HN
  clear hin2 hs0
  go_enter Try.func33, Try.ntmps33
  go_wp2_with fail
  refine HN.out.mono ?_
  rintro e w1 ⟨rfl, hb1⟩
  have k1 := k0.nx hb1
  clear hb1 k0 HN
  go_wp2_with fail
  go_loopw [6, 7] (fun z i wr => Nds t gs (.slice A n c) (.slice A1 gs.length c1) w z i wr) (fun _ i _ => gs.length - (intOf i).toNat)
  case atStart => exact ⟨0, Nat.zero_le _, rfl, rfl, k1⟩
  case round =>
    obtain ⟨k, hk, rfl, rfl, kr⟩ := hrel
    clear k1
    have hzr := kr.hz
    have hs1 : 1 ≤ t.sumN gs k := by have := t.count_pos; unfold T.sumN; omega
    have hs2 : t.sumN gs k ≤ 100001 := by unfold T.sumN; omega
    by_cases hlt : k < gs.length
    · by_cases hle : t.sumN gs k ≤ 100000
      · have hx : gs[k]? = some gs[k] := List.getElem?_eq_getElem hlt
        have hcs := T.countL_take_succ gs k _ hx
        have hS := kr.iS
        unfold T.InL at hS
        simp only [T.In] at hS
        obtain ⟨_, _, _, us, he, _, hnc, hc, hrd, hrow⟩ := hS
        injection he with e1 e2 e3
        subst e1 e2 e3
        obtain ⟨ad, ux, rfl, hPa, hel, hinx⟩ := T.In.el hrd hrow hx
        obtain ⟨r0, r1, r2⟩ := hel
        obtain ⟨A', n', c', rfl⟩ := hinx.form
        have HIN := Lib.hid (nodesT_any _ gs[k] _ (100000 - t.sumN gs k) wr _ (Nat.le_refl _) (by omega) (by omega) hinx (fun b hb => by omega))
        have hstep : t.sumN gs k + min ((gs[k].count : Nat) : Int) (100000 - t.sumN gs k + 1) = t.sumN gs (k + 1) := by
          unfold T.sumN at *
          rw [hcs]; omega
        have hb3 : 0 ≤ min ((gs[k].count : Nat) : Int) (100000 - t.sumN gs k + 1) ∧ min ((gs[k].count : Nat) : Int) (100000 - t.sumN gs k + 1) ≤ 100001 := by omega
        obtain ⟨hb3, hb4⟩ := hb3
        generalize min ((gs[k].count : Nat) : Int) (100000 - t.sumN gs k + 1) = M at *
        have HST := Lib.hid hstep
        generalize gs[k] = x at *
        generalize t.sumN gs k = S at *
        clear hx hcs hstep hrow hrd
        go_wp2_with fail
        refine HIN.out.mono ?_
        rintro e w2 ⟨rfl, hb2⟩
        have k2 := kr.nx hb2
        go_wp2_with fail
        go_roundw
        case rel => exact ⟨k + 1, by omega, by go_num, congrArg (Value.int .i64) HST.out, k2⟩
        case measure => simp [intOf]; omega
      · have HT : Hid (t.applyT gs = .mk 0 0 [] ∧ t.applyE gs = 3) := Lib.hid (by
          have h1 := T.count_applied t gs
          have h2 := T.countL_take_le gs k
          have h3 : ¬ (t.applied gs).count ≤ 100000 := by unfold T.sumN at hle; omega
          simp [T.applyT, T.applyE, h3])
        have hle2 : 100000 < t.sumN gs k := by omega
        generalize t.sumN gs k = S at *
        have q0 := kr.bC.cell 0
        have q1 := kr.bC.cell 1
        have q2 := kr.bC.cell 2
        have q3 := kr.bC.frozen 0
        have q4 := kr.bC.frozen 1
        have q5 := kr.bC.frozen 2
        simp at q0 q1 q2
        go_wp2_with fail
        rw [HT.out.1, HT.out.2]
        refine bodyPost_ret (refApply_results rfl rfl ((((kr.bC.set_ 0 _).set_ 1 _).set_ 2 _).eq_ rfl)) rfl ⟨_, [], rfl, Mk.nil _ _, ((kr.bel.setCell (by simp) _).setCell (by simp) _).setCell (by simp) _⟩
    · have hkk : k = gs.length := by omega
      by_cases hle : t.sumN gs k ≤ 100000
      · have hcnt : (t.applied gs).count ≤ 100000 := by
          rw [T.count_applied]
          unfold T.sumN at hle
          rw [hkk, List.take_length] at hle
          omega
        have HT : Hid (t.applyT gs = t.applied gs ∧ t.applyE gs = 0) := Lib.hid (by simp [T.applyT, T.applyE, hcnt])
        have hcnt2 := hcnt
        rw [T.count_applied] at hcnt2
        have hT : t.In wr (fun b => b < w.heap.size) (.slice A n c) := by
          have := T.InL.to (k := t.kind) (n := t.num) kr.iT
          rwa [T.eta] at this
        have HC := Lib.hid (copyT_any _ t _ wr _ (Nat.le_refl _) (by omega) hT (fun b hb => by omega))
        have a0 := kr.bA.cell 0
        have a1 := kr.bA.cell 1
        have a2 := kr.bA.cell 2
        simp at a0 a1 a2
        generalize t.sumN gs k = S at *
        clear hT hkk
        go_wp2_with fail
        obtain ⟨wo, rfl⟩ : ∃ wo : World, wo = wr := ⟨_, rfl⟩
        refine HC.out.mono ?_
        rintro e w3 ⟨v3, us3, rfl, hm3, hb3⟩
        have k3 := kr.nx hb3
        obtain ⟨A3, c3, rfl⟩ := hm3.form
        have hr3 : RoundA (t.args ++ gs.take 0) t.kind t.num w.heap.size w3.heap.size w (.slice A3 t.args.length c3) us3 (w3.alloc (.cells #[.int .i64 t.kind, .int .i64 t.num, .slice A3 t.args.length c3] 35)) := by
          have hba : Below w3.heap.size w3 (w3.alloc (.cells #[.int .i64 t.kind, .int .i64 t.num, .slice A3 t.args.length c3] 35)) := (Below.refl _ _).alloc (Nat.le_refl _) _
          refine ⟨?_, Blk.new _ _ _, (k3.nx hba).bC, (k3.nx hba).bel, k3.hz⟩
          rw [List.take_zero, List.append_nil]
          exact MkG.of (hm3.less hzr) (Nat.le_refl _) hba
        have hS3 := (k3.nx ((Below.refl _ _).alloc (Nat.le_refl w3.heap.size) (.cells #[.int .i64 t.kind, .int .i64 t.num, .slice A3 t.args.length c3] 35))).iS
        have hlA := T.length_le t.args
        have hlG := T.length_le gs
        have hcA := T.count_eta t
        generalize hlen : t.args.length = la at *
        have HLA := Lib.hid hlen
        clear a0 a1 a2 k3 kr HC hm3 hb3 hlen
        go_wp2_with fail
        go_loopw [39] (fun i wr => Cps t gs (.slice A1 gs.length c1) w3.heap.size w i wr) (fun i _ => gs.length - (intOf i).toNat)
        case atStart => exact ⟨0, _, us3, Nat.zero_le _, rfl, hr3, hS3⟩
        case round =>
          obtain ⟨j, cv, us, hj, rfl, hr, hS⟩ := hrel
          clear hr3 hS3
          have hsz := hr.bel.size
          have hsz1 := hr.out.lt
          have hgB := hr.hg
          by_cases hlt : j < gs.length
          · have hx : gs[j]? = some gs[j] := List.getElem?_eq_getElem hlt
            have hcl := T.count_mem (List.getElem_mem hlt)
            have hS' := hS
            unfold T.InL at hS
            simp only [T.In] at hS
            obtain ⟨_, _, _, us0, he, _, hnc, hc, hrd, hrow⟩ := hS
            injection he with e1 e2 e3
            subst e1 e2 e3
            obtain ⟨ad, ux, rfl, hPa, hel, hinx⟩ := T.In.el hrd hrow hx
            obtain ⟨r0, r1, r2⟩ := hel
            obtain ⟨A', n', c', rfl⟩ := hinx.form
            have hw1 : Below wr.heap.size wr (wr.alloc (.cells #[.int .i64 gs[j].kind, .int .i64 gs[j].num, .slice A' n' c'] 35)) := (Below.refl _ _).alloc (Nat.le_refl _) _
            have hinr := hinx.below hw1 (fun b hb => by omega)
            have d0 := (hr.out.alloc (.cells #[.int .i64 gs[j].kind, .int .i64 gs[j].num, .slice A' n' c'] 35)).cell 2
            have hxB := Blk.new wr 35 #[.int .i64 gs[j].kind, .int .i64 gs[j].num, .slice A' n' c']
            have d1 := hxB.cell 0
            have d2 := hxB.cell 1
            have d3 := hxB.cell 2
            have hih := fun w' (h : Below (wr.heap.size + 1) (wr.alloc (.cells #[.int .i64 gs[j].kind, .int .i64 gs[j].num, .slice A' n' c'] 35)) w') => copyT_any _ gs[j] (.slice A' n' c') w' _ (Nat.le_refl _) (by omega) (hinr.below h (fun b hb => by omega)) (fun b hb => by have := h.size; simp at this; omega)
            have hsnoc : t.args ++ gs.take (j + 1) = (t.args ++ gs.take j) ++ [gs[j]] := by rw [List.take_add_one, hx, List.append_assoc]; rfl
            have hkl : (t.args ++ gs.take j).length = la + j := by rw [List.length_append, List.length_take, HLA.out]; omega
            have HS3 := Lib.hid (fun w' (h : Below w.heap.size wr w') => T.In.below hS' h (fun b hb => hb))
            generalize t.args ++ gs.take j = ml at *
            have HIH := Lib.hid hih
            have HX := Lib.hid hx
            have HS := Lib.hid hsnoc
            have HL := Lib.hid hkl
            generalize gs[j] = x at *
            clear hih hx hsnoc hkl hS'
            go_wp2_with fail
            go_region_law
              (first
                | (refine step_append_lies _ (by rfl) _ _ _ (by rfl) (w.heap.size + 2) 35 i0 _ 3 40 Try.underlying33 hi0 hz0 hz1 hz2 rfl (by omega) cv _ us (by rfl) (by exact (hown1.alloc _))
                    ⟨w1.heap.size, 0, none⟩ 1 1 [.int .i64 x.kind, .int .i64 x.num, v1] (by rfl) (by rfl) (by exact World.news_of_block (cs := #[.int .i64 x.kind, .int .i64 x.num, v1]) (t := 35) (fr := (0, 0)) (heap_alloc_new w1 _)) (by exact hones _ _ _ hone) (by omega) (by rw [HL.out]; simp only [maxLen]; omega) (by rw [HL.out]; omega) (by simp; omega) (w1.heap.size + 1) (by simp) ?_; intro gg cap w2 hown2 hgrow hat hlt2
                   have hblk2 : Blk w2 (w3.heap.size) 35 #[.int .i64 t.kind, .int .i64 t.num, cv] := (hgrow.block _ (by simp; omega) (fun e => hr.lst.ng e.symm)).trans (hblk1.alloc _)
                   have hxb2 : Blk w2 wr.heap.size 35 #[.int .i64 x.kind, .int .i64 x.num, .slice A' n' c'] := (hgrow.block _ (by simp; omega) (fun e => by have := (hr.lst.lt e.symm).2; omega)).trans (hxb1.alloc _)
                   have s1 := hblk2.cell 2
                   have s2 := hxb2.cell 0
                   have s3 := hxb2.cell 1
                   have s4 := hxb2.cell 2
                   have s5 := hblk2.frozen 2
                   simp at s1 s2 s3 s4)
                | (go_simp; go_at_call 38; refine (HIH.out _ (by exact (Below.refl _ _).drew)).mono ?_; rintro e w1 ⟨v1, us1, rfl, hm1, hb1⟩
                   have hone : v1.oneCell' = true := by obtain ⟨A1, c1, rfl⟩ := hm1.form; rfl
                   have hwz : wr.heap.size + 1 ≤ w1.heap.size := by have h : (wr.alloc (.cells #[.int .i64 x.kind, .int .i64 x.num, .slice A' n' c'] 35)).heap.size ≤ w1.heap.size := hb1.size; simpa using h
                   have hbb1 : Below (wr.heap.size + 1) (wr.alloc (.cells #[.int .i64 x.kind, .int .i64 x.num, .slice A' n' c'] 35)).drew w1 := hb1.mono (by show _ ≤ (wr.alloc _).heap.size; simp)
                   have hown1 : w1.ownsRow (w.heap.size + 2) 35 3 cv ml.length us := owns_kept3 ((hr.lst.own.alloc _).drew) (fun b hb => hbb1.block b (by have := (hr.lst.lt hb).2; omega))
                   have hblk1 : Blk w1 (w3.heap.size) 35 #[.int .i64 t.kind, .int .i64 t.num, cv] := ((hr.out.alloc _).drew).below hbb1 (by omega)
                   have hxb1 : Blk w1 wr.heap.size 35 #[.int .i64 x.kind, .int .i64 x.num, .slice A' n' c'] := ((Blk.new wr 35 _).drew).below hbb1 (by omega)
                   have q1 := hblk1.cell 2
                   have q2 := hxb1.cell 0
                   have q3 := hxb1.cell 1
                   have q4 := hxb1.cell 2
                   have q5 : (w1.alloc (.cells #[.int .i64 x.kind, .int .i64 x.num, v1] 35)).cell? ⟨w3.heap.size, 2, none⟩ = some cv := (hblk1.alloc _).cell 2
                   simp at q1 q2 q3 q4))
            all_goals
              go_wp2_with fail
              go_roundw
              case rel =>
                refine ⟨j + 1, _, _, by omega, by go_num, by rw [HS.out]; exact hr.next (by simpa [World.drew] using hm1) hbb1 hwz hown2 hgrow hat, HS3.out _ ?_⟩
                have e1 : Below wr.heap.size wr w1 := (((Below.refl _ _).alloc (Nat.le_refl _) _).drew).trans (hbb1.mono (by omega))
                exact Below.setCell (((e1.mono (by omega)).alloc (by omega) _).grown hgrow (by simp; omega) (fun b hb => by have := (hr.lst.lt hb).1; omega)) (by show w.heap.size ≤ w3.heap.size; omega) _
              case measure => simp [intOf]; omega
          · have hll : gs.take j = gs := List.take_of_length_le (by omega)
            rw [hll] at hr
            obtain ⟨A4, c4, rfl⟩ := hr.lst.to.form
            simp only [List.length_append] at hr
            have c0 := hr.out.cell 0
            have c1 := hr.out.cell 1
            have c2 := hr.out.cell 2
            have e0 := hr.res.cell 0
            have e1 := hr.res.cell 1
            have e2 := hr.res.cell 2
            have e3 := hr.res.frozen 0
            have e4 := hr.res.frozen 1
            have e5 := hr.res.frozen 2
            simp at c0 c1 c2 e0 e1 e2
            clear hll
            go_wp2_with fail
            rw [HT.out.1, HT.out.2]
            refine bodyPost_ret (refApply_results rfl rfl ((((hr.res.set_ 0 _).set_ 1 _).set_ 2 _).eq_ rfl)) rfl ⟨_, us, rfl, ?_, ((hr.bel.setCell (by simp) _).setCell (by simp) _).setCell (by simp) _⟩
            exact Mk.less (B := w.heap.size + 2) (((hr.lst.to.put (by omega) _).put (by omega) _).put (by omega) _) (by omega)
      · have HT : Hid (t.applyT gs = .mk 0 0 [] ∧ t.applyE gs = 3) := Lib.hid (by
          have h1 := T.count_applied t gs
          have h2 := T.countL_take_le gs k
          have h3 : ¬ (t.applied gs).count ≤ 100000 := by unfold T.sumN at hle; omega
          simp [T.applyT, T.applyE, h3])
        have hle2 : 100000 < t.sumN gs k := by omega
        generalize t.sumN gs k = S at *
        have q0 := kr.bC.cell 0
        have q1 := kr.bC.cell 1
        have q2 := kr.bC.cell 2
        have q3 := kr.bC.frozen 0
        have q4 := kr.bC.frozen 1
        have q5 := kr.bC.frozen 2
        simp at q0 q1 q2
        go_wp2_with fail
        rw [HT.out.1, HT.out.2]
        refine bodyPost_ret (refApply_results rfl rfl ((((kr.bC.set_ 0 _).set_ 1 _).set_ 2 _).eq_ rfl)) rfl ⟨_, [], rfl, Mk.nil _ _, ((kr.bel.setCell (by simp) _).setCell (by simp) _).setCell (by simp) _⟩
end Go.Proofs.Ytmggccgjhjknpaa
