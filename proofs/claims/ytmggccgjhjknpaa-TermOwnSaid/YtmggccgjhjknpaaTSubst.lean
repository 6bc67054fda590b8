/-
  term.Subst: its contract.
-/
import Derived.Test.YtmggccgjhjknpaaTSizes
namespace Go.Proofs.Ytmggccgjhjknpaa
open Go.RowKit

set_option maxHeartbeats 800000 in
theorem subst1_any (x : T) (v : Value) (w : World) (b m : Nat) (P : Nat → Prop) (hin : x.In w P v) (A1 : Option Addr) (c1 : Nat) (hb : Blk w b 33 #[.slice A1 m c1]) :
    Calls Try.prog 63 #[.agg #[.int .i64 x.kind, .int .i64 x.num, v], .pointer (some ⟨b, 0, none⟩)] w fun e w' => e = .returned (.bool (cov1 m x.kind x.num)) ∧ Below w.heap.size w w' := by
  obtain ⟨A, n, c, rfl⟩ := hin.form
  obtain ⟨kd, nm, l⟩ := x
  simp only [T.kind, T.num]
  have hl := hb.lt
  have c0 := hb.cell 0
  by_cases hk : kd = 0
  · subst hk
    by_cases h0 : 0 ≤ nm
    · by_cases h1 : nm < (m : Int)
      · have HF : Hid (cov1 m 0 nm = true) := Lib.hid (by simp [cov1, h0, h1])
        go_enter Try.func63, Try.ntmps63
        go_wp2_with fail
        go_ret
        exact ⟨ret_bool HF.out.symm, (Below.refl _ _).alloc (Nat.le_refl _) _⟩
      · have HF : Hid (cov1 m 0 nm = false) := Lib.hid (by simp [cov1, h1])
        have h1' : (m : Int) ≤ nm := by omega
        go_enter Try.func63, Try.ntmps63
        go_wp2_with fail
        go_ret
        exact ⟨ret_bool HF.out.symm, (Below.refl _ _).alloc (Nat.le_refl _) _⟩
    · have HF : Hid (cov1 m 0 nm = false) := Lib.hid (by simp [cov1, h0])
      have h0' : nm < 0 := by omega
      go_enter Try.func63, Try.ntmps63
      go_wp2_with fail
      go_ret
      exact ⟨ret_bool HF.out.symm, (Below.refl _ _).alloc (Nat.le_refl _) _⟩
  · have HF : Hid (cov1 m kd nm = true) := Lib.hid (by simp [cov1, hk])
    have hk' : (kd == 0) = false := by simpa using hk
    have hkn : (kd != 0) = true := by simpa using hk
    go_enter Try.func63, Try.ntmps63
    go_wp2_with fail
    go_ret
    exact ⟨ret_bool HF.out.symm, (Below.refl _ _).alloc (Nat.le_refl _) _⟩

theorem cov_all (t : T) (v : Value) (w : World) (b m : Nat) (P : Nat → Prop) (hin : t.In w P v) (hold : Old P w) (A1 : Option Addr) (c1 : Nat) (hb : Blk w b 33 #[.slice A1 m c1]) (hc : t.count ≤ 100000) :
    Calls Try.prog 57 #[.agg #[.int .i64 t.kind, .int .i64 t.num, v], .func (.func 47) #[] #[], .func (.func 63) #[] #[.pointer (some ⟨b, 0, none⟩)]] w fun e w' =>
      e = .returned (.bool (t.cov m)) ∧ Below w.heap.size w w' := by
  have hd := t.deep_le
  refine (allT_any (step := stepCov m) (I := fun _ w' => Blk w' b 33 #[.slice A1 m c1]) (M := fun _ => False) (ok := fun _ x lvl => lvl + x.deep ≤ 1000000) (F := 63) (cap := #[.pointer (some ⟨b, 0, none⟩)]) (P := P)
    (fun _ _ _ h hb => h.below hb h.lt) (fun _ _ _ _ h => h.elim) Try.call63 (fun _ _ h => h) ?_ ?_ t v w () (by omega) hb hin hold).mono
    (fun e w' ⟨he, _, hs⟩ => ⟨by rw [he, visitT_cov], hs.below (Nat.le_refl _) (fun _ _ h => h)⟩)
  · intro st k n l lvl h
    simp only [T.deep] at h
    refine ⟨by omega, fun _ j x hx _ => ?_⟩
    have h1 := T.deepL_take_succ l j x hx
    have h2 := T.deepL_take_le l (j + 1)
    omega
  · intro st x v lvl w _ hI hin _
    exact (subst1_any x v w b m P hin A1 c1 hI).mono fun e w' ⟨he, hb⟩ => ⟨he, hI.below hb hI.lt, Saves.of_below hb⟩

/-- What fits holds: the count, the box of the sizes, the sizes. -/
structure Fit (gs : List T) (bn bs B : Nat) (A : Option Addr) (c : Nat) (st : Nat) (w : World) : Prop where
  n : Blk w bn 3 #[.int .i64 (st : Int)]
  s : Blk w bs 47 #[.slice A gs.length c]
  z : Ints B w (gs.map T.count) (.slice A gs.length c)

set_option maxHeartbeats 800000 in
theorem fits1_any {gs : List T} {bn bs B : Nat} {A1 : Option Addr} {c1 : Nat} {st : Nat} {w : World} (h : Fit gs bn bs B A1 c1 st w) (hne : bs ≠ bn) (hown : ∀ b, (Value.slice A1 gs.length c1).ownBlock = some b → b ≠ bn) (hsm : ∀ x ∈ gs, x.count ≤ 100000) (hst : st ≤ 100000)
    (x : T) (v : Value) (lvl : Nat) (P : Nat → Prop) (hin : x.In w P v) (hcov : x.cov gs.length = true) :
    Calls Try.prog 89 #[.agg #[.int .i64 x.kind, .int .i64 x.num, v], .pointer (some ⟨bn, 0, none⟩), .pointer (some ⟨bs, 0, none⟩)] w fun e w' =>
      e = .returned (.bool (stepFit gs st x lvl).1) ∧ Fit gs bn bs B A1 c1 (stepFit gs st x lvl).2 w' ∧ Saves (fun k => k = bn) w w' := by
  obtain ⟨hn, hs, hz⟩ := h
  obtain ⟨A, n, c, rfl⟩ := hin.form
  obtain ⟨kd, nm, l⟩ := x
  simp only [T.kind, T.num]
  have hl1 := hn.lt
  have hl2 := hs.lt
  have c0 := hn.cell 0
  have c2 := hs.cell 0
  have f0 := hn.frozen 0
  simp only [T.cov, Bool.and_eq_true] at hcov
  obtain ⟨hcov1, _⟩ := hcov
  have hdone : ∀ (k : Nat) (w' : World), T.hsz gs (.mk kd nm l) = k → Blk w' bn 3 #[.int .i64 ((st : Int) + k)] → Saves (fun k => k = bn) w w' → Fit gs bn bs B A1 c1 (stepFit gs st (.mk kd nm l) lvl).2 w' := by
    intro k w' hk hb hsv
    refine ⟨?_, hs.saves hsv hne, owns_kept3 hz (fun b hb => hsv.block b (hz.lt hb).2 (hown b hb))⟩
    simp only [stepFit, hk]; exact hb.eq_ (by simp)
  have hgoal : ∀ (k : Nat) (w' : World), T.hsz gs (.mk kd nm l) = k → Blk w' bn 3 #[.int .i64 ((st : Int) + k)] → Saves (fun k => k = bn) w w' →
      Ending.returned (.bool (decide ((st : Int) + k ≤ 100000))) = .returned (.bool (stepFit gs st (.mk kd nm l) lvl).1) ∧ Fit gs bn bs B A1 c1 (stepFit gs st (.mk kd nm l) lvl).2 w' ∧ Saves (fun k => k = bn) w w' := by
    intro k w' hk hb hsv
    exact ⟨ret_bool (decide_eq_decide.2 (by rw [hk]; omega)), hdone k w' hk hb hsv, hsv⟩
  have HG := Lib.hid hgoal
  clear hdone hgoal
  by_cases hk : kd = 0
  · subst hk
    have hjj : ∃ j : Nat, nm = (j : Int) ∧ j < gs.length := by
      simp [cov1] at hcov1
      exact ⟨nm.toNat, by omega, by omega⟩
    obtain ⟨j, rfl, hj⟩ := hjj
    have ha : gs[j]? = some gs[j] := List.getElem?_eq_getElem hj
    have hhd := T.head_var (gs := gs) (n := (j : Int)) rfl ha
    have hle := hsm gs[j] (List.getElem_mem hj)
    have hsz : T.hsz gs (.mk 0 (j : Int) l) = gs[j].count := by simp only [T.hsz, T.kind, T.num, hhd]
    obtain ⟨ad, rfl, hB, hlt, hcell⟩ := hz.cell (j := j) (x := gs[j].count) (by simp [ha])
    have hin1 : (w.alloc (.cells #[.int .i64 0, .int .i64 (j : Int), .slice A n c] 35)).cell? (ad.add j) = some (.int .i64 (gs[j].count : Int)) := (World.cell?_alloc_lt _ _ _ (by rw [block_of_add]; omega)).trans hcell
    generalize gs[j].count = cnt at *
    have HS := Lib.hid hsz
    clear ha hhd hsz hcell hcov1
    go_enter Try.func89, Try.ntmps89
    go_wp2_with fail
    go_region
    go_wp2
    go_ret
    exact HG.out cnt _ HS.out ((hn.set_ 0 _).alloc _).drew (((Saves.refl (fun k => k = bn) w).setCell (p := ⟨bn, 0, none⟩) (.inl rfl) _).alloc _).drew
  · have hkb : (kd == 0) = false := by simpa using hk
    have hsz : T.hsz gs (.mk kd nm l) = 1 := by simp only [T.hsz, T.kind, T.num, T.head_not hk]; rfl
    have HS := Lib.hid hsz
    clear hsz hcov1
    go_enter Try.func89, Try.ntmps89
    go_wp2_with fail
    go_ret
    exact HG.out 1 _ HS.out (((hn.set_ 0 _).alloc _).eq_ rfl) (((Saves.refl (fun k => k = bn) w).setCell (p := ⟨bn, 0, none⟩) (.inl rfl) _).alloc _)

set_option maxHeartbeats 800000 in
theorem fits_any (gs : List T) (B : Nat) (A1 : Option Addr) (c1 : Nat) (w : World) (hz : Ints B w (gs.map T.count) (.slice A1 gs.length c1)) (hsm : ∀ x ∈ gs, x.count ≤ 100000)
    (t : T) (v : Value) (P : Nat → Prop) (hin : t.In w P v) (hold : Old P w) (hcov : t.cov gs.length = true) (hc : t.count ≤ 100000) :
    Calls Try.prog 64 #[.agg #[.int .i64 t.kind, .int .i64 t.num, v], .slice A1 gs.length c1] w fun e w' => e = .returned (.bool (decide ((t.sub gs).count ≤ 100000))) ∧ Below w.heap.size w w' := by
  obtain ⟨A, n, c, rfl⟩ := hin.form
  have hd := t.deep_le
  have hw3 : Below w.heap.size w (((w.alloc (.cells #[.int .i64 t.kind, .int .i64 t.num, .slice A n c] 35)).alloc (.cells #[.slice A1 gs.length c1] 47)).alloc (.cells #[.int .i64 0] 3)) := (((Below.refl _ _).alloc (Nat.le_refl _) _).alloc (by simp) _).alloc (by simp; omega) _
  have hfit : Fit gs (w.heap.size + 2) (w.heap.size + 1) B A1 c1 0 (((w.alloc (.cells #[.int .i64 t.kind, .int .i64 t.num, .slice A n c] 35)).alloc (.cells #[.slice A1 gs.length c1] 47)).alloc (.cells #[.int .i64 0] 3)) :=
    ⟨by simpa using Blk.new ((w.alloc (.cells #[.int .i64 t.kind, .int .i64 t.num, .slice A n c] 35)).alloc (.cells #[.slice A1 gs.length c1] 47)) 3 #[.int .i64 0],
     by simpa using (Blk.new (w.alloc (.cells #[.int .i64 t.kind, .int .i64 t.num, .slice A n c] 35)) 47 #[.slice A1 gs.length c1]).alloc (.cells #[.int .i64 0] 3),
     hz.below hw3⟩
  have hown : ∀ b, (Value.slice A1 gs.length c1).ownBlock = some b → b ≠ w.heap.size + 2 := fun b hb => by have := (hz.lt hb).2; omega
  have hct := allT_any (step := stepFit gs) (I := fun st w' => Fit gs (w.heap.size + 2) (w.heap.size + 1) B A1 c1 st w') (M := fun k => k = w.heap.size + 2) (ok := fun st x lvl => st ≤ 100000 ∧ x.cov gs.length = true ∧ lvl + x.deep ≤ 1000000) (F := 89) (cap := #[.pointer (some ⟨w.heap.size + 2, 0, none⟩), .pointer (some ⟨w.heap.size + 1, 0, none⟩)]) (P := P)
    (fun _ _ _ h hb => ⟨h.n.below hb h.n.lt, h.s.below hb h.s.lt, h.z.below hb⟩) (fun _ k _ h hk => by rw [hk]; exact h.n.lt) Try.call89 (fun k hk e => by have := hold k hk; omega)
    (fun st k n l lvl h => fitOk gs st k n l lvl h)
    (fun st x v lvl w' hok hI hin _ => fits1_any hI (by omega) hown hsm hok.1 x v lvl P hin hok.2.1)
    t _ _ 0 ⟨by omega, hcov, by omega⟩ hfit (hin.old hold hw3) (hold.bel hw3)
  have hv := (visitT_fit gs t 0 1).1
  rw [hv, Nat.zero_add] at hct
  have HC := Lib.hid hct
  generalize decide ((t.sub gs).count ≤ 100000) = z at *
  clear hct hv
  go_enter Try.func64, Try.ntmps64
  go_wp2_with fail
  refine HC.out.mono ?_
  rintro e w1 ⟨rfl, _, hs1⟩
  go_wp2_with fail
  go_ret
  exact ⟨rfl, hw3.trans (hs1.below (by simp; omega) (fun k hk e => by omega))⟩

/-- What Subst answers. -/
def T.substE (gs : List T) (t : T) : Int := if (gs.any T.large || t.large) = true then 3 else if t.cov gs.length = true then (if (t.sub gs).count ≤ 100000 then 0 else 3) else 2
def T.substT (gs : List T) (t : T) : T := if T.substE gs t = 0 then t.sub gs else .mk 0 0 []
/-- A term in memory of its own, and an error. -/
def Gave (t : T) (E : Int) (w : World) (e : Ending) (w' : World) : Prop :=
  ∃ v us, e = .returned (.tuple #[.agg #[.int .i64 t.kind, .int .i64 t.num, v], .int .i64 E]) ∧ Mk w.heap.size w' t.args v us ∧ Below w.heap.size w w'
theorem subst_results {tmps : Array Value} {w : World} {a : Nat} {x y z u : Value} (h2 : tmps.getD 4 undef = .pointer (some ⟨a, 0, none⟩)) (h3 : tmps.getD 5 undef = u)
    (ha : Blk w a 35 #[x, y, z]) : (results Try.f29 tmps).run Try.prog w = .ok (.tuple #[.agg #[x, y, z], u]) w := by
  have h4 := ha.cell 0
  have h5 := ha.cell 1
  have h6 := ha.cell 2
  simp at h4 h5 h6
  have h2' : tmps[4]?.getD undef = .pointer (some ⟨a, 0, none⟩) := by simpa using h2
  have h3' : tmps[5]?.getD undef = u := by simpa using h3
  simp [results, Try.results29, go_sem, h2', h3', h4, h5, h6]

/-- A term, its box, the box of its args, and a box for the result, kept. -/
structure SubCtx (t : T) (gs : List T) (v u : Value) (P Q : Nat → Prop) (B : Nat) (w0 w : World) : Prop where
  bA : Blk w B 35 #[.int .i64 t.kind, .int .i64 t.num, v]
  bB : Blk w (B + 1) 33 #[u]
  bC : Blk w (B + 1 + 1) 35 #[.int .i64 0, .int .i64 0, .slice none 0 0]
  iT : t.In w P v
  iS : T.InL w Q gs u
  oP : Old P w
  oQ : Old Q w
  bel : Below B w0 w
theorem SubCtx.next {t : T} {gs : List T} {v u : Value} {P Q : Nat → Prop} {B : Nat} {w0 w w' : World} (h : SubCtx t gs v u P Q B w0 w) (hb : Below w.heap.size w w') : SubCtx t gs v u P Q B w0 w' :=
  ⟨h.bA.below hb h.bA.lt, h.bB.below hb h.bB.lt, h.bC.below hb h.bC.lt, h.iT.old h.oP hb, T.In.old h.iS h.oQ hb, h.oP.bel hb, h.oQ.bel hb, h.bel.trans (hb.mono (by have := h.bA.lt; omega))⟩
theorem SubCtx.start {t : T} {gs : List T} {v u : Value} {P Q : Nat → Prop} {w : World} (hin : t.In w P v) (hold : Old P w) (hins : T.InL w Q gs u) (holds : Old Q w) :
    SubCtx t gs v u P Q w.heap.size w (((w.alloc (.cells #[.int .i64 t.kind, .int .i64 t.num, v] 35)).alloc (.cells #[u] 33)).alloc (.cells #[.int .i64 0, .int .i64 0, .slice none 0 0] 35)) := by
  have hw3 : Below w.heap.size w (((w.alloc (.cells #[.int .i64 t.kind, .int .i64 t.num, v] 35)).alloc (.cells #[u] 33)).alloc (.cells #[.int .i64 0, .int .i64 0, .slice none 0 0] 35)) := (((Below.refl _ _).alloc (Nat.le_refl _) _).alloc (by simp) _).alloc (by simp; omega) _
  refine ⟨((Blk.new _ _ _).alloc _).alloc _, ?_, ?_, hin.old hold hw3, T.In.old hins holds hw3, hold.bel hw3, holds.bel hw3, hw3⟩
  · simpa using (Blk.new (w.alloc (.cells #[.int .i64 t.kind, .int .i64 t.num, v] 35)) 33 #[u]).alloc (.cells #[.int .i64 0, .int .i64 0, .slice none 0 0] 35)
  · simpa using Blk.new ((w.alloc (.cells #[.int .i64 t.kind, .int .i64 t.num, v] 35)).alloc (.cells #[u] 33)) 35 #[.int .i64 0, .int .i64 0, .slice none 0 0]
theorem T.InL.len {w : World} {Q : Nat → Prop} {gs : List T} {A : Option Addr} {n c : Nat} (h : T.InL w Q gs (.slice A n c)) : gs.length = n := by
  unfold T.InL at h; simp only [T.In] at h
  obtain ⟨_, _, _, _, e, hl, _⟩ := h
  injection e with _ e _
  omega
theorem not_large {t : T} (h : t.large = false) : t.count ≤ 100000 := by
  have : ¬ 100000 < t.count := by simpa [T.large] using h
  omega
theorem none_large {gs : List T} (h : gs.any T.large = false) : ∀ x ∈ gs, x.count ≤ 100000 := fun x hx => not_large (by
  have := List.any_eq_false.1 h x hx
  simpa using this)

set_option maxRecDepth 100000 in
set_option maxHeartbeats 3200000 in
theorem subst_any (gs : List T) (t : T) (v u : Value) (w : World) (P Q : Nat → Prop) (hin : t.In w P v) (hold : Old P w) (hins : T.InL w Q gs u) (holds : Old Q w) (hlen : gs.length ≤ 3600000000000) :
    Calls Try.prog 29 #[.agg #[.int .i64 t.kind, .int .i64 t.num, v], u] w (Gave (T.substT gs t) (T.substE gs t) w) := by
  have k0 := SubCtx.start hin hold hins holds
  obtain ⟨A, n, c, rfl⟩ := hin.form
  obtain ⟨A1, n1, c1, rfl⟩ := T.In.form hins
  have hn1 := T.InL.len hins
  subst hn1
  have HC1 := Lib.hid (sizesOf_any gs _ _ Q k0.iS k0.oQ hlen)
  cases hg : gs.any T.large with
  | true =>
    have HE : Hid (T.substE gs t = 3) := Lib.hid (by simp [T.substE, hg])
    have HT : Hid (T.substT gs t = .mk 0 0 []) := Lib.hid (by simp [T.substT, HE.out])
    rw [hg] at HC1
    clear hg
    go_enter Try.func29, Try.ntmps29
    go_wp2_with fail
    refine HC1.out.mono ?_
    rintro e w1 ⟨v1, rfl, _, _, hb1⟩
    have k1 := k0.next hb1
    have q0 := k1.bC.cell 0
    have q1 := k1.bC.cell 1
    have q2 := k1.bC.cell 2
    have q3 := k1.bC.frozen 0
    have q4 := k1.bC.frozen 1
    have q5 := k1.bC.frozen 2
    clear k0 hb1
    go_wp2_with fail
    rw [HE.out, HT.out]
    refine bodyPost_ret (subst_results rfl rfl ((((k1.bC.set_ 0 _).set_ 1 _).set_ 2 _).eq_ rfl)) rfl ⟨_, [], rfl, Mk.nil _ _, ((k1.bel.setCell (by simp; omega) _).setCell (by simp; omega) _).setCell (by simp; omega) _⟩
  | false =>
    rw [hg] at HC1
    have hsm := none_large hg
    cases hgt : t.large with
    | true =>
      have HE : Hid (T.substE gs t = 3) := Lib.hid (by simp [T.substE, hgt])
      have HT : Hid (T.substT gs t = .mk 0 0 []) := Lib.hid (by simp [T.substT, HE.out])
      have HGT := Lib.hid hgt
      clear hg hgt hsm
      go_enter Try.func29, Try.ntmps29
      go_wp2_with fail
      refine HC1.out.mono ?_
      rintro e w1 ⟨v1, rfl, _, _, hb1⟩
      have k1 := k0.next hb1
      have a0 := k1.bA.cell 0
      have a1 := k1.bA.cell 1
      have a2 := k1.bA.cell 2
      have HL := Lib.hid (tooLarge_any t _ _ P k1.iT k1.oP)
      rw [HGT.out] at HL
      clear k0 hb1
      go_wp2_with fail
      refine HL.out.mono ?_
      rintro e w2 ⟨rfl, hb2⟩
      have k2 := k1.next hb2
      have q0 := k2.bC.cell 0
      have q1 := k2.bC.cell 1
      have q2 := k2.bC.cell 2
      have q3 := k2.bC.frozen 0
      have q4 := k2.bC.frozen 1
      have q5 := k2.bC.frozen 2
      clear k1 hb2 a0 a1 a2
      go_wp2_with fail
      rw [HE.out, HT.out]
      refine bodyPost_ret (subst_results rfl rfl ((((k2.bC.set_ 0 _).set_ 1 _).set_ 2 _).eq_ rfl)) rfl ⟨_, [], rfl, Mk.nil _ _, ((k2.bel.setCell (by simp; omega) _).setCell (by simp; omega) _).setCell (by simp; omega) _⟩
    | false =>
      have hct := not_large hgt
      cases hcv : t.cov gs.length with
      | false =>
        have HE : Hid (T.substE gs t = 2) := Lib.hid (by simp [T.substE, hgt, hg, hcv])
        have HT : Hid (T.substT gs t = .mk 0 0 []) := Lib.hid (by simp [T.substT, HE.out])
        have HGT := Lib.hid hgt
        have HCV := Lib.hid hcv
        clear hg hgt hsm hcv
        go_enter Try.func29, Try.ntmps29
        go_wp2_with fail
        refine HC1.out.mono ?_
        rintro e w1 ⟨v1, rfl, _, _, hb1⟩
        have k1 := k0.next hb1
        have a0 := k1.bA.cell 0
        have a1 := k1.bA.cell 1
        have a2 := k1.bA.cell 2
        have HL := Lib.hid (tooLarge_any t _ _ P k1.iT k1.oP)
        rw [HGT.out] at HL
        clear k0 hb1
        go_wp2_with fail
        refine HL.out.mono ?_
        rintro e w2 ⟨rfl, hb2⟩
        have k2 := k1.next hb2
        clear a0 a1 a2 HL
        have a0 := k2.bA.cell 0
        have a1 := k2.bA.cell 1
        have a2 := k2.bA.cell 2
        have HK := Lib.hid (cov_all t _ _ _ gs.length P k2.iT k2.oP A1 c1 k2.bB hct)
        rw [HCV.out] at HK
        clear k1 hb2
        go_wp2_with fail
        refine HK.out.mono ?_
        rintro e w3 ⟨rfl, hb3⟩
        have k3 := k2.next hb3
        have q0 := k3.bC.cell 0
        have q1 := k3.bC.cell 1
        have q2 := k3.bC.cell 2
        have q3 := k3.bC.frozen 0
        have q4 := k3.bC.frozen 1
        have q5 := k3.bC.frozen 2
        clear k2 hb3 a0 a1 a2
        go_wp2_with fail
        rw [HE.out, HT.out]
        refine bodyPost_ret (subst_results rfl rfl ((((k3.bC.set_ 0 _).set_ 1 _).set_ 2 _).eq_ rfl)) rfl ⟨_, [], rfl, Mk.nil _ _, ((k3.bel.setCell (by simp; omega) _).setCell (by simp; omega) _).setCell (by simp; omega) _⟩
      | true =>
        have HGT := Lib.hid hgt
        have HCV := Lib.hid hcv
        have HG := Lib.hid hg
        have HSM := Lib.hid hsm
        clear hg hgt hsm hcv
        go_enter Try.func29, Try.ntmps29
        go_wp2_with fail
        refine HC1.out.mono ?_
        rintro e w1 ⟨v1, rfl, hz, _, hb1⟩
        have hz1 := hz trivial
        have k1 := k0.next hb1
        have a0 := k1.bA.cell 0
        have a1 := k1.bA.cell 1
        have a2 := k1.bA.cell 2
        have HL := Lib.hid (tooLarge_any t _ _ P k1.iT k1.oP)
        rw [HGT.out] at HL
        clear k0 hb1 hz
        obtain ⟨A2, c2, rfl⟩ := hz1.form
        rw [List.length_map] at hz1
        have HZ := Lib.hid hz1
        clear hz1
        go_wp2_with fail
        refine HL.out.mono ?_
        rintro e w2 ⟨rfl, hb2⟩
        have k2 := k1.next hb2
        have hz2 := HZ.out.below hb2
        have HZ2 := Lib.hid hz2
        clear a0 a1 a2 HL HZ hz2
        have a0 := k2.bA.cell 0
        have a1 := k2.bA.cell 1
        have a2 := k2.bA.cell 2
        have HK := Lib.hid (cov_all t _ _ _ gs.length P k2.iT k2.oP A1 c1 k2.bB hct)
        rw [HCV.out] at HK
        clear k1 hb2
        go_wp2_with fail
        refine HK.out.mono ?_
        rintro e w3 ⟨rfl, hb3⟩
        have k3 := k2.next hb3
        clear a0 a1 a2 HK
        have a0 := k3.bA.cell 0
        have a1 := k3.bA.cell 1
        have a2 := k3.bA.cell 2
        have HFI := Lib.hid (fits_any gs _ A2 c2 _ (HZ2.out.below hb3) HSM.out t _ P k3.iT k3.oP HCV.out hct)
        clear k2 hb3
        by_cases hfit : (t.sub gs).count ≤ 100000
        · have HE : Hid (T.substE gs t = 0) := Lib.hid (by simp [T.substE, HGT.out, HG.out, HCV.out, hfit])
          have HT : Hid (T.substT gs t = t.sub gs) := Lib.hid (by simp [T.substT, HE.out])
          simp only [hfit, decide_true] at HFI
          go_wp2_with fail
          refine HFI.out.mono ?_
          rintro e w4 ⟨rfl, hb4⟩
          have k4 := k3.next hb4
          clear a0 a1 a2 HFI
          have a0 := k4.bA.cell 0
          have a1 := k4.bA.cell 1
          have a2 := k4.bA.cell 2
          have a3 := k4.bB.cell 0
          have HF := Lib.hid (fill_any gs _ t _ _ _ P Q (Nat.le_refl _) hct HCV.out hfit k4.iT k4.oP k4.iS k4.oQ)
          clear k3 hb4
          go_wp2_with fail
          refine HF.out.mono ?_
          rintro e w5 ⟨v5, us5, rfl, hm5, hb5⟩
          have k5 := k4.next hb5
          have q0 := k5.bC.cell 0
          have q1 := k5.bC.cell 1
          have q2 := k5.bC.cell 2
          have q3 := k5.bC.frozen 0
          have q4 := k5.bC.frozen 1
          have q5 := k5.bC.frozen 2
          have hz4 := k4.bC.lt
          clear hb5 a0 a1 a2 a3
          obtain ⟨A5, c5, rfl⟩ := hm5.form
          have HM5 := Lib.hid hm5
          clear hm5
          go_wp2_with fail
          rw [HE.out, HT.out]
          refine bodyPost_ret (subst_results rfl rfl ((((k5.bC.set_ 0 _).set_ 1 _).set_ 2 _).eq_ rfl)) rfl ⟨_, us5, rfl, ?_, ((k5.bel.setCell (by simp; omega) _).setCell (by simp; omega) _).setCell (by simp; omega) _⟩
          exact Mk.less (B := w4.heap.size) (((HM5.out.put hz4 _).put hz4 _).put hz4 _) (by omega)
        · have HE : Hid (T.substE gs t = 3) := Lib.hid (by simp [T.substE, HGT.out, HG.out, HCV.out, hfit])
          have HT : Hid (T.substT gs t = .mk 0 0 []) := Lib.hid (by simp [T.substT, HE.out])
          simp only [hfit, decide_false] at HFI
          go_wp2_with fail
          refine HFI.out.mono ?_
          rintro e w4 ⟨rfl, hb4⟩
          have k4 := k3.next hb4
          have q0 := k4.bC.cell 0
          have q1 := k4.bC.cell 1
          have q2 := k4.bC.cell 2
          have q3 := k4.bC.frozen 0
          have q4 := k4.bC.frozen 1
          have q5 := k4.bC.frozen 2
          clear k3 hb4 a0 a1 a2
          go_wp2_with fail
          rw [HE.out, HT.out]
          refine bodyPost_ret (subst_results rfl rfl ((((k4.bC.set_ 0 _).set_ 1 _).set_ 2 _).eq_ rfl)) rfl ⟨_, [], rfl, Mk.nil _ _, ((k4.bel.setCell (by simp; omega) _).setCell (by simp; omega) _).setCell (by simp; omega) _⟩
end Go.Proofs.Ytmggccgjhjknpaa
