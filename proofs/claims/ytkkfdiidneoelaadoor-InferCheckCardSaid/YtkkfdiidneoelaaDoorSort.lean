/-
  The sort of a term: (term.heads).sort, and the reference's Of: contracts.
-/
import Derived.Test.YtkkfdiidneoelaaDoorChecks
import Derived.Test.YtkkfdiidneoelaaDoorTSub
import Derived.Test.YtkkfdiidneoelaaDoorEq
import Derived.Deep.RegionHeld3
import Derived.Deep.QuietTactic
import Derived.BigQuiet
namespace Go.Proofs.YtkkfdiidneoelaaDoor
open Go.RowKit

/-- The sort of a head, out of three lists. -/
def pickH (l0 l1 l2 : List S) (k n : Int) : Option S :=
  if n < 0 then none else if k = 0 then l0[n.toNat]? else if k = 1 then l1[n.toNat]? else if k = 2 then l2[n.toNat]? else none
mutual
/-- The sort of a term, by the sorts of heads. -/
def T.ty (pick : Int → Int → Option S) : T → Option S
  | .mk k n l => match pick k n with
    | none => none
    | some s => if T.tyL pick l s.args = true then some (.mk (s.args.drop l.length)) else none
def T.tyL (pick : Int → Int → Option S) : List T → List S → Bool
  | [], _ => true
  | _ :: _, [] => false
  | x :: r, a :: q => (match x.ty pick with | some y => y.eqb a | none => false) && T.tyL pick r q
end
def tyOne (pick : Int → Int → Option S) (x : T) (a : S) : Bool := match x.ty pick with | some y => y.eqb a | none => false
theorem T.tyL_succ {pick : Int → Int → Option S} : ∀ {l : List T} {q : List S} {k : Nat} {x : T} {a : S}, l[k]? = some x → q[k]? = some a → T.tyL pick (l.take (k + 1)) q = (T.tyL pick (l.take k) q && tyOne pick x a)
  | [], q, k, x, a, h, _ => by simp at h
  | y :: r, [], k, x, a, _, h => by simp at h
  | y :: r, b :: q, 0, x, a, h, h2 => by
    simp at h h2; subst h h2
    simp only [List.take_succ_cons, List.take_zero, T.tyL, tyOne, Bool.and_true, Bool.true_and]
  | y :: r, b :: q, k + 1, x, a, h, h2 => by
    simp at h h2
    simp only [List.take_succ_cons, T.tyL, T.tyL_succ h h2, Bool.and_assoc]
theorem T.tyL_false {pick : Int → Int → Option S} : ∀ {l : List T} {q : List S} {k : Nat} {x : T} {a : S}, l[k]? = some x → q[k]? = some a → tyOne pick x a = false → T.tyL pick l q = false
  | [], q, k, x, a, h, _, _ => by simp at h
  | y :: r, [], k, x, a, _, h, _ => by simp at h
  | y :: r, b :: q, 0, x, a, h, h2, h3 => by
    simp at h h2; subst h h2
    simp only [T.tyL]
    rw [show (match y.ty pick with | some y => y.eqb b | none => false) = tyOne pick y b from rfl, h3, Bool.false_and]
  | y :: r, b :: q, k + 1, x, a, h, h2, h3 => by
    simp at h h2
    simp only [T.tyL, T.tyL_false h h2 h3, Bool.and_false]
theorem T.tyL_len {pick : Int → Int → Option S} : ∀ {l : List T} {q : List S}, T.tyL pick l q = true → l.length ≤ q.length
  | [], q, _ => by simp
  | y :: r, [], h => by simp [T.tyL] at h
  | y :: r, b :: q, h => by
    simp only [T.tyL, Bool.and_eq_true] at h
    have := T.tyL_len h.2
    simp; omega
theorem S.count_args {s : S} : s.count = 1 + S.countL s.args := by cases s; simp [S.count, S.args]
theorem S.countL_dropLe : ∀ (l : List S) (k : Nat), S.countL (l.drop k) ≤ S.countL l
  | [], k => by simp [S.countL]
  | x :: r, 0 => by simp
  | x :: r, k + 1 => by have := S.countL_dropLe r k; simp [S.countL]; omega
theorem T.ty_small {pick : Int → Int → Option S} (hp : ∀ k n s, pick k n = some s → s.count ≤ 60) : ∀ {t : T} {s : S}, t.ty pick = some s → s.count ≤ 60
  | .mk k n l, s, h => by
    simp only [T.ty] at h
    cases hk : pick k n with
    | none => rw [hk] at h; cases h
    | some a =>
      rw [hk] at h
      have ha := hp _ _ _ hk
      simp only at h
      split at h
      · cases h
        rw [S.count_args] at ha ⊢
        have := S.countL_dropLe a.args l.length
        show 1 + S.countL (a.args.drop l.length) ≤ 60
        omega
      · cases h

/-- The sort lies between blocks of which R holds, or from block b on. -/
def S.At (R : Nat → Nat → Prop) (b : Nat) (w : World) (s : S) (v : Value) : Prop := ∃ lo hi, s.In w lo hi v ∧ (R lo hi ∨ b ≤ lo) ∧ hi ≤ w.heap.size
/-- A sort that was found, or none. -/
def Found (R : Nat → Nat → Prop) (o : Option S) (w : World) (e : Ending) (w' : World) : Prop :=
  ∃ v, e = .returned (.tuple #[.agg #[v], .bool o.isSome]) ∧ S.At R w.heap.size w' (o.getD (.mk [])) v ∧ Below w.heap.size w w'
theorem Found.yes {R : Nat → Nat → Prop} {s : S} {w : World} {e : Ending} {w' : World} (hf : Found R (some s) w e w') : ∃ v, e = .returned (.tuple #[.agg #[v], .bool true]) ∧ S.At R w.heap.size w' s v ∧ Below w.heap.size w w' := hf
theorem Found.no {R : Nat → Nat → Prop} {w : World} {e : Ending} {w' : World} (hf : Found R none w e w') : ∃ v, e = .returned (.tuple #[.agg #[v], .bool false]) ∧ S.At R w.heap.size w' (S.mk []) v ∧ Below w.heap.size w w' := hf
theorem S.In_nil {w : World} {lo hi : Nat} : (S.mk []).In w lo hi (.slice none 0 0) := by
  simp only [S.In]; exact ⟨_, _, _, rfl, rfl, Nat.le_refl _, by omega, by simp [S.All]⟩
theorem S.At_nil {R : Nat → Nat → Prop} {b : Nat} {w : World} : S.At R b w (.mk []) (.slice none 0 0) := ⟨b, 0, S.In_nil, .inr (Nat.le_refl _), Nat.zero_le _⟩
theorem S.At.form {R : Nat → Nat → Prop} {b : Nat} {w : World} {s : S} {v : Value} (hs : S.At R b w s v) : ∃ A n c, v = .slice A n c := by
  obtain ⟨lo, hi, h1, _⟩ := hs
  exact h1.form
theorem S.In_set {w : World} {lo hi b o : Nat} {s : S} {v u : Value} (h : s.In w lo hi v) (hb : b < lo ∨ hi ≤ b) : s.In (w.setCell ⟨b, o, none⟩ u) lo hi v :=
  S.In.keep (fun p h1 h2 => World.cell?_setCell_other w ⟨b, o, none⟩ p u (fun e => by subst e; simp only at h1 h2; omega)) s h
theorem S.In_drop {w : World} {lo hi : Nat} {l : List S} {A : Option Addr} {n c k : Nat} (h : (S.mk l).In w lo hi (.slice A n c)) (hk : k ≤ n) :
    (S.mk (l.drop k)).In w lo hi (.slice (if c = k then A else A.map (·.add k)) (n - k) (c - k)) := by
  simp only [S.In] at h ⊢
  obtain ⟨A', n', c', e, hl, hnc, hc, hall⟩ := h
  injection e with e1 e2 e3
  subst e1 e2 e3
  refine ⟨_, _, _, rfl, by rw [List.length_drop, hl], by omega, by omega, S.All.mk_ fun j x hx => ?_⟩
  rw [List.getElem?_drop] at hx
  obtain ⟨ad, u, rfl, h1, h2, h3, h4⟩ := hall.at_ hx
  have hlt : k + j < l.length := (List.getElem?_eq_some_iff.1 hx).1
  rw [if_neg (by omega)]
  refine ⟨ad.add k, u, rfl, by rw [block_of_add]; exact h1, by rw [block_of_add]; exact h2, ?_, h4⟩
  rw [add_of_add]
  simpa [Nat.add_assoc] using h3


theorem cmpEqual (s t : S) (v u : Value) (w : World) (lo hi lo' hi' : Nat) (_hs : s.count ≤ 60) (_ht : t.count ≤ 60) (hin : s.In w lo hi v) (hhi : hi ≤ w.heap.size) (hin2 : t.In w lo' hi' u) (hhi2 : hi' ≤ w.heap.size) :
    Calls Tryd.prog 68 #[.agg #[v], .agg #[u]] w fun e w' => e = .returned (.bool (s.eqb t)) ∧ Below w.heap.size w w' :=
  refEqual_any _ s t v u w lo hi lo' hi' (Nat.le_refl _) hin hhi hin2 hhi2

theorem ofT_results {tmps : Array Value} {w : World} {a : Nat} {x u : Value} (h2 : tmps.getD 4 undef = .pointer (some ⟨a, 0, none⟩)) (h3 : tmps.getD 5 undef = u)
    (ha : Blk w a 41 #[x]) : (results Tryd.f44 tmps).run Tryd.prog w = .ok (.tuple #[.agg #[x], u]) w := by
  have h4 := ha.cell 0
  simp at h4
  have h2' : tmps[4]?.getD undef = .pointer (some ⟨a, 0, none⟩) := by simpa using h2
  have h3' : tmps[5]?.getD undef = u := by simpa using h3
  simp [results, Tryd.results44, go_sem, h2', h3', h4]

set_option maxRecDepth 100000 in
set_option maxHeartbeats 3200000 in
theorem ofT_any (pick : Int → Int → Option S) (hsm : ∀ k n s, pick k n = some s → s.count ≤ 60) (p0 p1 p2 : Value) (hp0 : ∃ A n c, p0 = .slice A n c) (hp1 : ∃ A n c, p1 = .slice A n c) (hp2 : ∃ A n c, p2 = .slice A n c) (H : World → Prop) (hH : ∀ W W', H W → Below W.heap.size W W' → H W') (h : Nat) (hh : ∀ W, H W → h ≤ W.heap.size) (R : Nat → Nat → Prop) (hR : ∀ lo hi, R lo hi → hi ≤ h)
    (hhead : ∀ (x : T) (v : Value) (W : World) (P : Nat → Prop), H W → x.In W P v → Old P W → Calls Tryd.prog 69 #[.agg #[p0, p1, p2], .agg #[.int .i64 x.kind, .int .i64 x.num, v]] W (Found R (pick x.kind x.num) W))
    (K : Nat) : ∀ (t : T) (v : Value) (w : World) (P : Nat → Prop), t.count ≤ K → H w → t.In w P v → Old P w →
    Calls Tryd.prog 44 #[.agg #[p0, p1, p2], .agg #[.int .i64 t.kind, .int .i64 t.num, v]] w (Found R (t.ty pick) w) := by
  obtain ⟨A0, n0, c0, rfl⟩ := hp0
  obtain ⟨A1, n1, c1, rfl⟩ := hp1
  obtain ⟨A2, n2, c2, rfl⟩ := hp2
  have Hsm := Lib.hid hsm
  have HH := Lib.hid hH
  have Hhd := Lib.hid hhead
  have HRR := Lib.hid hR
  clear hsm hH hhead hR
  induction K with
  | zero => intro t; have := t.count_pos; omega
  | succ K ih =>
    intro t v w P hK hHw hin hold
    obtain ⟨kd, nm, l⟩ := t
    have hin0 := hin
    simp only [T.In] at hin
    obtain ⟨A, _, c, us, rfl, rfl, hnc, hc, hrd, hrow⟩ := hin
    simp only [T.kind, T.num]
    have Hih := Lib.hid ih
    clear ih
    have hw3 : Below w.heap.size w (((w.alloc (.cells #[.slice A0 n0 c0, .slice A1 n1 c1, .slice A2 n2 c2] 96)).alloc (.cells #[.int .i64 kd, .int .i64 nm, .slice A l.length c] 44)).alloc (.cells #[.slice none 0 0] 41)) := (((Below.refl _ _).alloc (Nat.le_refl _) _).alloc (by simp) _).alloc (by simp; omega) _
    have bH : Blk (((w.alloc (.cells #[.slice A0 n0 c0, .slice A1 n1 c1, .slice A2 n2 c2] 96)).alloc (.cells #[.int .i64 kd, .int .i64 nm, .slice A l.length c] 44)).alloc (.cells #[.slice none 0 0] 41)) w.heap.size 96 #[.slice A0 n0 c0, .slice A1 n1 c1, .slice A2 n2 c2] := ((Blk.new _ _ _).alloc _).alloc _
    have bT : Blk (((w.alloc (.cells #[.slice A0 n0 c0, .slice A1 n1 c1, .slice A2 n2 c2] 96)).alloc (.cells #[.int .i64 kd, .int .i64 nm, .slice A l.length c] 44)).alloc (.cells #[.slice none 0 0] 41)) (w.heap.size + 1) 44 #[.int .i64 kd, .int .i64 nm, .slice A l.length c] := by
      simpa using (Blk.new (w.alloc (.cells #[.slice A0 n0 c0, .slice A1 n1 c1, .slice A2 n2 c2] 96)) 44 #[.int .i64 kd, .int .i64 nm, .slice A l.length c]).alloc (.cells #[.slice none 0 0] 41)
    have bR : Blk (((w.alloc (.cells #[.slice A0 n0 c0, .slice A1 n1 c1, .slice A2 n2 c2] 96)).alloc (.cells #[.int .i64 kd, .int .i64 nm, .slice A l.length c] 44)).alloc (.cells #[.slice none 0 0] 41)) (w.heap.size + 1 + 1) 41 #[.slice none 0 0] := by
      simpa using Blk.new ((w.alloc (.cells #[.slice A0 n0 c0, .slice A1 n1 c1, .slice A2 n2 c2] 96)).alloc (.cells #[.int .i64 kd, .int .i64 nm, .slice A l.length c] 44)) 41 #[.slice none 0 0]
    have HC := Lib.hid (Hhd.out (.mk kd nm l) _ _ P (HH.out _ _ hHw hw3) (hin0.old hold hw3) (hold.bel hw3))
    simp only [T.kind, T.num] at HC
    cases hpk : pick kd nm with
    | none =>
      have HF : Hid ((T.mk kd nm l).ty pick = none) := Lib.hid (by simp [T.ty, hpk])
      rw [hpk] at HC
      clear hpk
      rw [HF.out]
      go_enter Tryd.func44, Tryd.ntmps44
      go_wp2_with fail
      refine HC.out.mono ?_
      intro e w1 hfd
      obtain ⟨v1, rfl, hi1, hb1⟩ := Found.no hfd
      clear hfd
      obtain ⟨A3, n3, c3, rfl⟩ := hi1.form
      have k3 := (bR.below hb1 bR.lt).alloc (.cells #[.slice A3 n3 c3] 41)
      have q0 := k3.cell 0
      have q1 := k3.frozen 0
      have hz1 := hb1.size
      simp only [World.size_alloc] at hz1
      go_wp2_with fail
      refine bodyPost_ret (ofT_results rfl rfl (k3.set_ 0 _)) rfl ⟨_, rfl, S.At_nil, ?_⟩
      exact ((hw3.trans (hb1.mono (by simp; omega))).alloc (by omega) _).setCell (by simp; omega) _
    | some s =>
      have hss := Hsm.out _ _ _ hpk
      rw [hpk] at HC
      obtain ⟨q⟩ := s
      have hty : (T.mk kd nm l).ty pick = if T.tyL pick l q = true then some (.mk (q.drop l.length)) else none := by simp only [T.ty, hpk, S.args]; rfl
      have HTY := Lib.hid hty
      clear hpk hty
      by_cases hlen : l.length ≤ q.length
      · go_enter Tryd.func44, Tryd.ntmps44
        go_wp2_with fail
        refine HC.out.mono ?_
        intro e w1 hfd
        obtain ⟨v1, rfl, hi1, hb1⟩ := Found.yes hfd
        clear hfd
        obtain ⟨lo1, h1, hi1, hor1, hle1⟩ := hi1
        have hhw := hh w hHw
        have hi1' := hi1
        simp only [S.In] at hi1'
        obtain ⟨A3, n3, c3, rfl, hn3, hnc3, hc3, hall3⟩ := hi1'
        have g1 := (bH.below hb1 bH.lt).alloc (.cells #[.slice A3 n3 c3] 41)
        have g2 := (bT.below hb1 bT.lt).alloc (.cells #[.slice A3 n3 c3] 41)
        have g3 := (bR.below hb1 bR.lt).alloc (.cells #[.slice A3 n3 c3] 41)
        have g4 := Blk.new w1 41 #[.slice A3 n3 c3]
        have hz1 := hb1.size
        simp only [World.size_alloc] at hz1
        have y2 := g2.cell 2
        have y3 := g4.cell 0
        have hbelA : Below w.heap.size w (w1.alloc (.cells #[.slice A3 n3 c3] 41)) := (hw3.trans (hb1.mono (by simp; omega))).alloc (by omega) _
        have HN3 := Lib.hid hn3
        have hlen3 : l.length ≤ n3 := by omega
        have hd3 : decide (n3 < l.length) = false := decide_eq_false (by omega)
        clear hn3
        go_wp2_with fail
        go_loopw [33] (fun i wr => ∃ k : Nat, k ≤ l.length ∧ i = .int .i64 k ∧ Hid (T.tyL pick (l.take k) q = true) ∧ Below (w1.heap.size + 1) (w1.alloc (.cells #[.slice A3 n3 c3] 41)) wr) (fun i _ => l.length - (intOf i).toNat)
        case atStart => exact ⟨0, Nat.zero_le _, rfl, Lib.hid (by simp [T.tyL]), by simpa using Below.refl _ _⟩
        case round =>
          obtain ⟨k, hk, rfl, hf, hbw⟩ := hrel
          have hzw := hbw.size
          simp only [World.size_alloc] at hzw
          have m1 := g1.below hbw (by have := bH.lt; simp at this; omega)
          have m2 := g2.below hbw (by omega)
          have m3 := g3.below hbw (by omega)
          have m4 := g4.below hbw (by omega)
          have hbelR : Below w.heap.size w wr := hbelA.trans (hbw.mono (by omega))
          have hi3 : (S.mk q).In wr lo1 h1 (.slice A3 n3 c3) := (hi1.below (B := w1.heap.size) ((Below.refl _ _).alloc (Nat.le_refl _) _) hle1).below hbw (by omega)
          clear y2 y3
          by_cases hlt : k < l.length
          · have hx : l[k]? = some l[k] := List.getElem?_eq_getElem hlt
            have hltq : k < q.length := by omega
            have ha : q[k]? = some q[k] := List.getElem?_eq_getElem hltq
            have hcl := T.count_lt (a := kd) (b := nm) hx
            obtain ⟨ad, u, rfl, hP, hel, hinx⟩ := T.In.el hrd hrow hx
            obtain ⟨r0, r1, r2⟩ := hel.keep (hbelR.block _ (hold _ hP))
            have hbx : Below wr.heap.size wr (wr.alloc (.cells #[.int .i64 l[k].kind, .int .i64 l[k].num, u] 44)) := (Below.refl _ _).alloc (Nat.le_refl _) _
            have hHr : H (wr.alloc (.cells #[.int .i64 l[k].kind, .int .i64 l[k].num, u] 44)) := HH.out _ _ (HH.out _ _ hHw hbelR) hbx
            have HX := Lib.hid (Hih.out l[k] u _ P (by omega) hHr ((hinx.old hold hbelR).old (hold.bel hbelR) hbx) ((hold.bel hbelR).bel hbx))
            have hsucc := T.tyL_succ (pick := pick) hx ha
            have hfin := T.tyL_false (pick := pick) hx ha
            rw [hf.out, Bool.true_and] at hsucc
            have hcq : q[k].count ≤ 60 := by have := S.count_lt ha; omega
            have Hsmx := Lib.hid (fun (s : S) (hs : T.ty pick l[k] = some s) => T.ty_small (pick := pick) Hsm.out hs)
            generalize hxe : l[k] = x at *
            generalize hqe : q[k] = aq at *
            obtain ⟨A', n', c', rfl⟩ := hinx.form
            have mA := m1.alloc (.cells #[.int .i64 x.kind, .int .i64 x.num, .slice A' n' c'] 44)
            have z0 := mA.cell 0
            have z1 := mA.cell 1
            have z2 := mA.cell 2
            cases htx : x.ty pick with
            | none =>
              have HR : Hid (T.tyL pick l q = false) := Lib.hid (hfin (by simp [tyOne, htx]))
              rw [htx] at HX
              clear hx hel hsucc hfin htx hxe hqe ha
              go_wp2_with fail
              refine HX.out.mono ?_
              intro e w2 hfd
              obtain ⟨v2, rfl, hi2, hb2⟩ := Found.no hfd
              clear hfd
              obtain ⟨A5, n5, c5, rfl⟩ := hi2.form
              have hz2 := hb2.size
              simp only [World.size_alloc] at hz2
              have w3 := (m3.below (hbx.trans (hb2.mono (by simp))) m3.lt).alloc (.cells #[.slice A5 n5 c5] 41)
              have t0 := w3.cell 0
              have t1 := w3.frozen 0
              clear z0 z1 z2
              go_wp2_with fail
              go_quiet (fail)
              go_wp2
              rw [HTY.out, HR.out]
              refine bodyPost_ret (ofT_results rfl rfl ((w3.drewN _).set_ 0 _)) rfl ⟨_, rfl, S.At_nil, ?_⟩
              exact (below_drewN ((hbelR.trans ((hbx.trans (hb2.mono (by simp))).mono (by omega))).alloc (by omega) _) _).setCell (by simp; omega) _
            | some y =>
              have hys := Hsmx.out _ htx
              rw [htx] at HX
              have hone : tyOne pick x aq = y.eqb aq := by simp only [tyOne, htx]
              rw [hone] at hsucc hfin
              clear hx hel htx hone
              go_wp2_with fail
              refine HX.out.mono ?_
              intro e w2 hfd
              obtain ⟨v2, rfl, hi2, hb2⟩ := Found.yes hfd
              clear hfd
              obtain ⟨A5, n5, c5, rfl⟩ := hi2.form
              have hz2 := hb2.size
              simp only [World.size_alloc] at hz2
              have hb2' : Below wr.heap.size wr w2 := hbx.trans (hb2.mono (by simp))
              have w3 := (m3.below hb2' m3.lt).alloc (.cells #[.slice A5 n5 c5] 41)
              have w4 := (m4.below hb2' m4.lt).alloc (.cells #[.slice A5 n5 c5] 41)
              have w5 := Blk.new w2 41 #[.slice A5 n5 c5]
              have hbX : Below w.heap.size w (w2.alloc (.cells #[.slice A5 n5 c5] 41)) := (hbelR.trans (hb2'.mono (by omega))).alloc (by omega) _
              have hi4 : (S.mk q).In (w2.alloc (.cells #[.slice A5 n5 c5] 41)) lo1 h1 (.slice A3 n3 c3) := (hi3.below (B := wr.heap.size) hb2' (by omega)).below (B := w2.heap.size) ((Below.refl _ _).alloc (Nat.le_refl _) _) (by omega)
              have hi4' := hi4
              simp only [S.In] at hi4'
              obtain ⟨A6, n6, c6, he6, hn6, hnc6, hc6, hall6⟩ := hi4'
              injection he6 with e1 e2 e3
              subst e1 e2 e3
              have haq := ha
              obtain ⟨ad6, u6, rfl, _, hlt6, hcl6, hin6⟩ := hall6.at_ haq
              rw [Nat.zero_add] at hcl6
              obtain ⟨lo2, h2, hi2, _, hle2⟩ := hi2
              have hy4 : y.In (w2.alloc (.cells #[.slice A5 n5 c5] 41)).drew lo2 h2 (.slice A5 n5 c5) := hi2.below (B := w2.heap.size) (((Below.refl _ _).alloc (Nat.le_refl _) _).drew) hle2
              obtain ⟨A7, n7, c7, rfl⟩ := hin6.form
              have z3 := w4.cell 0
              have z4 := w5.cell 0
              have z5 := w3.cell 0
              have z6 := w3.frozen 0
              have HCMP := Lib.hid (cmpEqual y aq _ _ _ _ _ _ _ hys hcq hy4 (by simp [World.drew]; omega) (hin6.below (B := w2.heap.size + 1) (w' := (w2.alloc (.cells #[.slice A5 n5 c5] 41)).drew) ((Below.refl _ _).drew) (by omega)) (by simp [World.drew]; omega))
              have hkn : k < n3 := by omega
              clear haq ha hqe hxe hn6 z0 z1 z2
              cases hb : y.eqb aq with
              | true =>
                have HR : Hid (T.tyL pick (l.take (k + 1)) q = true) := Lib.hid (by rw [hsucc, hb])
                rw [hb] at HCMP
                clear hsucc hfin hb
                go_wp2_with fail
                go_region_held3 (fun w' => w'.cell? ⟨w1.heap.size, 0, none⟩ = some (.slice (some ad6) n3 c3) ∧ w'.cell? ⟨w2.heap.size, 0, none⟩ = some (.slice A5 n5 c5) ∧ w'.cell? (ad6.add k) = some (.slice A7 n7 c7)) (first | go_keep | assumption)
                  (first
                    | (go_at_call 68
                       refine HCMP.out.mono ?_
                       rintro e w9 ⟨rfl, hw9⟩
                       have QK : ∀ (p : Addr) (z : Value), p.block < w2.heap.size + 1 → (w2.alloc (.cells #[.slice A5 n5 c5] 41)).cell? p = some z → w9.cell? p = some z := fun p z hp h => (hw9.cell (by simp [World.drew]; exact hp)).trans h
                       have Q := And.intro (QK _ _ (by simp; omega) z3) (And.intro (QK _ _ (by simp) z4) (QK _ _ (by rw [block_of_add]; omega) hcl6))
                       clear QK))
                all_goals
                  go_wp2_with fail
                  go_roundw
                  case rel => exact ⟨k + 1, by omega, by go_num, HR, (hbw.trans (hb2'.mono (by omega))).trans ((((Below.refl _ _).alloc (by omega) _).drew).trans (hw9.mono (by simp [World.drew]; omega)))⟩
                  case measure => simp [intOf]; omega
              | false =>
                have HR : Hid (T.tyL pick l q = false) := Lib.hid (hfin hb)
                rw [hb] at HCMP
                clear hsucc hfin hb
                go_wp2_with fail
                go_region_held3 (fun w' => w'.cell? ⟨w1.heap.size, 0, none⟩ = some (.slice (some ad6) n3 c3) ∧ w'.cell? ⟨w2.heap.size, 0, none⟩ = some (.slice A5 n5 c5) ∧ w'.cell? (ad6.add k) = some (.slice A7 n7 c7)) (first | go_keep | assumption)
                  (first
                    | (go_at_call 68
                       refine HCMP.out.mono ?_
                       rintro e w9 ⟨rfl, hw9⟩
                       have QK : ∀ (p : Addr) (z : Value), p.block < w2.heap.size + 1 → (w2.alloc (.cells #[.slice A5 n5 c5] 41)).cell? p = some z → w9.cell? p = some z := fun p z hp h => (hw9.cell (by simp [World.drew]; exact hp)).trans h
                       have Q := And.intro (QK _ _ (by simp; omega) z3) (And.intro (QK _ _ (by simp) z4) (QK _ _ (by rw [block_of_add]; omega) hcl6))
                       have w6 : Blk w9 (w.heap.size + 1 + 1) 41 #[.slice none 0 0] := w3.drew.below hw9 (by simp [World.drew]; omega)
                       have z7 := w6.cell 0
                       have z8 := w6.frozen 0
                       simp at z7
                       clear QK))
                all_goals
                  go_wp2_with fail
                  rw [HTY.out, HR.out]
                  refine bodyPost_ret (ofT_results rfl rfl (w6.set_ 0 _)) rfl ⟨_, rfl, S.At_nil, ?_⟩
                  exact (hbX.drew.trans (hw9.mono (by simp [World.drew]; omega))).setCell (by simp; omega) _
          · have hll : l.take k = l := List.take_of_length_le (by omega)
            rw [hll] at hf
            have y2 := m2.cell 2
            have y3 := m4.cell 0
            have y4 := m3.cell 0
            have y5 := m3.frozen 0
            have hd := S.In_drop hi3 hlen3
            clear hll
            go_wp2_with fail
            all_goals
              rw [HTY.out, hf.out]
              refine bodyPost_ret (ofT_results rfl rfl (m3.set_ 0 _)) rfl ⟨_, rfl, ⟨lo1, h1, ?_, ?_, ?_⟩, hbelR.setCell (by simp; omega) _⟩
              · refine S.In_set ?_ ?_
                · first
                    | (rw [if_pos (by assumption), show c3 - l.length = 0 from by omega] at hd; exact hd)
                    | (rw [if_pos (by assumption)] at hd; exact hd)
                    | (rw [if_neg (by assumption)] at hd; exact hd)
                · rcases hor1 with hr | hr
                  · have := HRR.out _ _ hr; omega
                  · simp at hr; omega
              · rcases hor1 with hr | hr
                · exact .inl hr
                · exact .inr (by simp at hr; omega)
              · simp [World.setCell]; omega
      · have HR : Hid (T.tyL pick l q = false) := Lib.hid (by rw [Bool.eq_false_iff]; intro h; exact hlen (T.tyL_len h))
        go_enter Tryd.func44, Tryd.ntmps44
        go_wp2_with fail
        refine HC.out.mono ?_
        intro e w1 hfd
        obtain ⟨v1, rfl, hi1, hb1⟩ := Found.yes hfd
        clear hfd
        obtain ⟨lo1, h1, hi1, hor1, hle1⟩ := hi1
        simp only [S.In] at hi1
        obtain ⟨A3, n3, c3, rfl, hn3, hnc3, hc3, hall3⟩ := hi1
        have g2 := (bT.below hb1 bT.lt).alloc (.cells #[.slice A3 n3 c3] 41)
        have g3 := (bR.below hb1 bR.lt).alloc (.cells #[.slice A3 n3 c3] 41)
        have hz1 := hb1.size
        simp only [World.size_alloc] at hz1
        have y2 := g2.cell 2
        have y4 := g3.cell 0
        have y5 := g3.frozen 0
        have hlt3 : n3 < l.length := by omega
        clear hn3
        go_wp2_with fail
        rw [HTY.out, HR.out]
        refine bodyPost_ret (ofT_results rfl rfl (g3.set_ 0 _)) rfl ⟨_, rfl, S.At_nil, ?_⟩
        exact (((hw3.trans (hb1.mono (by simp; omega))).alloc (by omega) _)).setCell (by simp; omega) _
end Go.Proofs.YtkkfdiidneoelaaDoor
