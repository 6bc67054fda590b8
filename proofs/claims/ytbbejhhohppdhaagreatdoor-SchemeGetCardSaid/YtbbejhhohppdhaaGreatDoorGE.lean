/-
  The sort of a term: (term.heads).sort, and the reference's Of: contracts.
  term.symbolSorts, term.headsOf, (term.heads).head: contracts.
  term.Sort: its contract.
  The reference's Is, head and Sort of terms: contracts.
-/
import Derived.Test.YtbbejhhohppdhaaGreatDoorGD
import Derived.Test.YtbbejhhohppdhaaGreatDoorGC
import Derived.Test.YtbbejhhohppdhaaGreatDoorGA
import Derived.Deep.RegionHeld3
import Derived.Deep.QuietTactic
import Derived.BigQuiet
import Derived.Deep.AppendLies
namespace Go.Proofs.YtbbejhhohppdhaaGreatDoor
open Go.RowKit

/-- The sort of a head, out of three lists. -/
def pickH (l0 l1 l2 : List S) (k n : Int) : Option S :=
  if n < 0 then none else if k = 0 then l0[n.toNat]? else if k = 1 then l1[n.toNat]? else if k = 2 then l2[n.toNat]? else none
mutual
/-- The sort of a term, by the sorts of heads. -/
def T.ty (pick : Int → Int → Option S) : T → Option S
  | .mk k n l => match pick k n with
    | none => none
    | some s => if T.tyL pick l s.args = true then some (.mk (s.args.drop l.length)) else none
def T.tyL (pick : Int → Int → Option S) : List T → List S → Bool
  | [], _ => true
  | _ :: _, [] => false
  | x :: r, a :: q => (match x.ty pick with | some y => y.eqb a | none => false) && T.tyL pick r q
end
def tyOne (pick : Int → Int → Option S) (x : T) (a : S) : Bool := match x.ty pick with | some y => y.eqb a | none => false
theorem T.tyL_succ {pick : Int → Int → Option S} : ∀ {l : List T} {q : List S} {k : Nat} {x : T} {a : S}, l[k]? = some x → q[k]? = some a → T.tyL pick (l.take (k + 1)) q = (T.tyL pick (l.take k) q && tyOne pick x a)
  | [], q, k, x, a, h, _ => by simp at h
  | y :: r, [], k, x, a, _, h => by simp at h
  | y :: r, b :: q, 0, x, a, h, h2 => by
    simp at h h2; subst h h2
    simp only [List.take_succ_cons, List.take_zero, T.tyL, tyOne, Bool.and_true, Bool.true_and]
  | y :: r, b :: q, k + 1, x, a, h, h2 => by
    simp at h h2
    simp only [List.take_succ_cons, T.tyL, T.tyL_succ h h2, Bool.and_assoc]
theorem T.tyL_false {pick : Int → Int → Option S} : ∀ {l : List T} {q : List S} {k : Nat} {x : T} {a : S}, l[k]? = some x → q[k]? = some a → tyOne pick x a = false → T.tyL pick l q = false
  | [], q, k, x, a, h, _, _ => by simp at h
  | y :: r, [], k, x, a, _, h, _ => by simp at h
  | y :: r, b :: q, 0, x, a, h, h2, h3 => by
    simp at h h2; subst h h2
    simp only [T.tyL]
    rw [show (match y.ty pick with | some y => y.eqb b | none => false) = tyOne pick y b from rfl, h3, Bool.false_and]
  | y :: r, b :: q, k + 1, x, a, h, h2, h3 => by
    simp at h h2
    simp only [T.tyL, T.tyL_false h h2 h3, Bool.and_false]
theorem T.tyL_len {pick : Int → Int → Option S} : ∀ {l : List T} {q : List S}, T.tyL pick l q = true → l.length ≤ q.length
  | [], q, _ => by simp
  | y :: r, [], h => by simp [T.tyL] at h
  | y :: r, b :: q, h => by
    simp only [T.tyL, Bool.and_eq_true] at h
    have := T.tyL_len h.2
    simp; omega
theorem S.count_args {s : S} : s.count = 1 + S.countL s.args := by cases s; simp [S.count, S.args]
theorem S.countL_dropLe : ∀ (l : List S) (k : Nat), S.countL (l.drop k) ≤ S.countL l
  | [], k => by simp [S.countL]
  | x :: r, 0 => by simp
  | x :: r, k + 1 => by have := S.countL_dropLe r k; simp [S.countL]; omega
theorem T.ty_small {pick : Int → Int → Option S} (hp : ∀ k n s, pick k n = some s → s.count ≤ 60) : ∀ {t : T} {s : S}, t.ty pick = some s → s.count ≤ 60
  | .mk k n l, s, h => by
    simp only [T.ty] at h
    cases hk : pick k n with
    | none => rw [hk] at h; cases h
    | some a =>
      rw [hk] at h
      have ha := hp _ _ _ hk
      simp only at h
      split at h
      · cases h
        rw [S.count_args] at ha ⊢
        have := S.countL_dropLe a.args l.length
        show 1 + S.countL (a.args.drop l.length) ≤ 60
        omega
      · cases h

theorem cmpSame (s t : S) (v u : Value) (w : World) (lo hi lo' hi' : Nat) (hs : s.count ≤ 60) (ht : t.count ≤ 60) (hin : s.In w lo hi v) (hhi : hi ≤ w.heap.size) (hin2 : t.In w lo' hi' u) (hhi2 : hi' ≤ w.heap.size) :
    Calls Tryz.prog 138 #[.agg #[v], .agg #[u]] w fun e w' => e = .returned (.bool (s.eqb t)) ∧ Below w.heap.size w w' := by
  have := same_any s t v u w lo hi lo' hi' hin hhi hin2 hhi2
  simpa [hs, ht] using this
/-- The sort lies between blocks of which R holds, or from block b on. -/
def S.At (R : Nat → Nat → Prop) (b : Nat) (w : World) (s : S) (v : Value) : Prop := ∃ lo hi, s.In w lo hi v ∧ (R lo hi ∨ b ≤ lo) ∧ hi ≤ w.heap.size
/-- A sort that was found, or none. -/
def Found (R : Nat → Nat → Prop) (o : Option S) (w : World) (e : Ending) (w' : World) : Prop :=
  ∃ v, e = .returned (.tuple #[.agg #[v], .bool o.isSome]) ∧ S.At R w.heap.size w' (o.getD (.mk [])) v ∧ Below w.heap.size w w'
theorem Found.yes {R : Nat → Nat → Prop} {s : S} {w : World} {e : Ending} {w' : World} (hf : Found R (some s) w e w') : ∃ v, e = .returned (.tuple #[.agg #[v], .bool true]) ∧ S.At R w.heap.size w' s v ∧ Below w.heap.size w w' := hf
theorem Found.no {R : Nat → Nat → Prop} {w : World} {e : Ending} {w' : World} (hf : Found R none w e w') : ∃ v, e = .returned (.tuple #[.agg #[v], .bool false]) ∧ S.At R w.heap.size w' (S.mk []) v ∧ Below w.heap.size w w' := hf
theorem S.In_nil {w : World} {lo hi : Nat} : (S.mk []).In w lo hi (.slice none 0 0) := by
  simp only [S.In]; exact ⟨_, _, _, rfl, rfl, Nat.le_refl _, by omega, by simp [S.All]⟩
theorem S.At_nil {R : Nat → Nat → Prop} {b : Nat} {w : World} : S.At R b w (.mk []) (.slice none 0 0) := ⟨b, 0, S.In_nil, .inr (Nat.le_refl _), Nat.zero_le _⟩
theorem S.At.form {R : Nat → Nat → Prop} {b : Nat} {w : World} {s : S} {v : Value} (hs : S.At R b w s v) : ∃ A n c, v = .slice A n c := by
  obtain ⟨lo, hi, h1, _⟩ := hs
  exact h1.form
theorem S.In_set {w : World} {lo hi b o : Nat} {s : S} {v u : Value} (h : s.In w lo hi v) (hb : b < lo ∨ hi ≤ b) : s.In (w.setCell ⟨b, o, none⟩ u) lo hi v :=
  S.In.keep (fun p h1 h2 => World.cell?_setCell_other w ⟨b, o, none⟩ p u (fun e => by subst e; simp only at h1 h2; omega)) s h
theorem S.In_drop {w : World} {lo hi : Nat} {l : List S} {A : Option Addr} {n c k : Nat} (h : (S.mk l).In w lo hi (.slice A n c)) (hk : k ≤ n) :
    (S.mk (l.drop k)).In w lo hi (.slice (if c = k then A else A.map (·.add k)) (n - k) (c - k)) := by
  simp only [S.In] at h ⊢
  obtain ⟨A', n', c', e, hl, hnc, hc, hall⟩ := h
  injection e with e1 e2 e3
  subst e1 e2 e3
  refine ⟨_, _, _, rfl, by rw [List.length_drop, hl], by omega, by omega, S.All.mk_ fun j x hx => ?_⟩
  rw [List.getElem?_drop] at hx
  obtain ⟨ad, u, rfl, h1, h2, h3, h4⟩ := hall.at_ hx
  have hlt : k + j < l.length := (List.getElem?_eq_some_iff.1 hx).1
  rw [if_neg (by omega)]
  refine ⟨ad.add k, u, rfl, by rw [block_of_add]; exact h1, by rw [block_of_add]; exact h2, ?_, h4⟩
  rw [add_of_add]
  simpa [Nat.add_assoc] using h3


theorem sortT_results {tmps : Array Value} {w : World} {a : Nat} {x u : Value} (h2 : tmps.getD 4 undef = .pointer (some ⟨a, 0, none⟩)) (h3 : tmps.getD 5 undef = u)
    (ha : Blk w a 62 #[x]) : (results Tryz.f96 tmps).run Tryz.prog w = .ok (.tuple #[.agg #[x], u]) w := by
  have h4 := ha.cell 0
  simp at h4
  have h2' : tmps[4]?.getD undef = .pointer (some ⟨a, 0, none⟩) := by simpa using h2
  have h3' : tmps[5]?.getD undef = u := by simpa using h3
  simp [results, Tryz.results96, go_sem, h2', h3', h4]

set_option maxRecDepth 100000 in
set_option maxHeartbeats 3200000 in
theorem sortT_any (pick : Int → Int → Option S) (hsm : ∀ k n s, pick k n = some s → s.count ≤ 60) (p0 p1 p2 : Value) (hp0 : ∃ A n c, p0 = .slice A n c) (hp1 : ∃ A n c, p1 = .slice A n c) (hp2 : ∃ A n c, p2 = .slice A n c) (H : World → Prop) (hH : ∀ W W', H W → Below W.heap.size W W' → H W') (h : Nat) (hh : ∀ W, H W → h ≤ W.heap.size) (R : Nat → Nat → Prop) (hR : ∀ lo hi, R lo hi → hi ≤ h)
    (hhead : ∀ (x : T) (v : Value) (W : World) (P : Nat → Prop), H W → x.In W P v → Old P W → Calls Tryz.prog 137 #[.agg #[p0, p1, p2], .agg #[.int .i64 x.kind, .int .i64 x.num, v]] W (Found R (pick x.kind x.num) W))
    (K : Nat) : ∀ (t : T) (v : Value) (w : World) (P : Nat → Prop), t.count ≤ K → H w → t.In w P v → Old P w →
    Calls Tryz.prog 96 #[.agg #[p0, p1, p2], .agg #[.int .i64 t.kind, .int .i64 t.num, v]] w (Found R (t.ty pick) w) := by
  obtain ⟨A0, n0, c0, rfl⟩ := hp0
  obtain ⟨A1, n1, c1, rfl⟩ := hp1
  obtain ⟨A2, n2, c2, rfl⟩ := hp2
  have Hsm := Lib.hid hsm
  have HH := Lib.hid hH
  have Hhd := Lib.hid hhead
  have HRR := Lib.hid hR
  clear hsm hH hhead hR
  induction K with
  | zero => intro t; have := t.count_pos; omega
  | succ K ih =>
    intro t v w P hK hHw hin hold
    obtain ⟨kd, nm, l⟩ := t
    have hin0 := hin
    simp only [T.In] at hin
    obtain ⟨A, _, c, us, rfl, rfl, hnc, hc, hrd, hrow⟩ := hin
    simp only [T.kind, T.num]
    have Hih := Lib.hid ih
    clear ih
    have hw3 : Below w.heap.size w (((w.alloc (.cells #[.slice A0 n0 c0, .slice A1 n1 c1, .slice A2 n2 c2] 145)).alloc (.cells #[.int .i64 kd, .int .i64 nm, .slice A l.length c] 34)).alloc (.cells #[.slice none 0 0] 62)) := (((Below.refl _ _).alloc (Nat.le_refl _) _).alloc (by simp) _).alloc (by simp; omega) _
    have bH : Blk (((w.alloc (.cells #[.slice A0 n0 c0, .slice A1 n1 c1, .slice A2 n2 c2] 145)).alloc (.cells #[.int .i64 kd, .int .i64 nm, .slice A l.length c] 34)).alloc (.cells #[.slice none 0 0] 62)) w.heap.size 145 #[.slice A0 n0 c0, .slice A1 n1 c1, .slice A2 n2 c2] := ((Blk.new _ _ _).alloc _).alloc _
    have bT : Blk (((w.alloc (.cells #[.slice A0 n0 c0, .slice A1 n1 c1, .slice A2 n2 c2] 145)).alloc (.cells #[.int .i64 kd, .int .i64 nm, .slice A l.length c] 34)).alloc (.cells #[.slice none 0 0] 62)) (w.heap.size + 1) 34 #[.int .i64 kd, .int .i64 nm, .slice A l.length c] := by
      simpa using (Blk.new (w.alloc (.cells #[.slice A0 n0 c0, .slice A1 n1 c1, .slice A2 n2 c2] 145)) 34 #[.int .i64 kd, .int .i64 nm, .slice A l.length c]).alloc (.cells #[.slice none 0 0] 62)
    have bR : Blk (((w.alloc (.cells #[.slice A0 n0 c0, .slice A1 n1 c1, .slice A2 n2 c2] 145)).alloc (.cells #[.int .i64 kd, .int .i64 nm, .slice A l.length c] 34)).alloc (.cells #[.slice none 0 0] 62)) (w.heap.size + 1 + 1) 62 #[.slice none 0 0] := by
      simpa using Blk.new ((w.alloc (.cells #[.slice A0 n0 c0, .slice A1 n1 c1, .slice A2 n2 c2] 145)).alloc (.cells #[.int .i64 kd, .int .i64 nm, .slice A l.length c] 34)) 62 #[.slice none 0 0]
    have HC := Lib.hid (Hhd.out (.mk kd nm l) _ _ P (HH.out _ _ hHw hw3) (hin0.old hold hw3) (hold.bel hw3))
    simp only [T.kind, T.num] at HC
    cases hpk : pick kd nm with
    | none =>
      have HF : Hid ((T.mk kd nm l).ty pick = none) := Lib.hid (by simp [T.ty, hpk])
      rw [hpk] at HC
      clear hpk
      rw [HF.out]
      go_enter Tryz.func96, Tryz.ntmps96
      go_wp2_with fail
      refine HC.out.mono ?_
      intro e w1 hfd
      obtain ⟨v1, rfl, hi1, hb1⟩ := Found.no hfd
      clear hfd
      obtain ⟨A3, n3, c3, rfl⟩ := hi1.form
      have k3 := (bR.below hb1 bR.lt).alloc (.cells #[.slice A3 n3 c3] 62)
      have q0 := k3.cell 0
      have q1 := k3.frozen 0
      have hz1 := hb1.size
      simp only [World.size_alloc] at hz1
      go_wp2_with fail
      refine bodyPost_ret (sortT_results rfl rfl (k3.set_ 0 _)) rfl ⟨_, rfl, S.At_nil, ?_⟩
      exact ((hw3.trans (hb1.mono (by simp; omega))).alloc (by omega) _).setCell (by simp; omega) _
    | some s =>
      have hss := Hsm.out _ _ _ hpk
      rw [hpk] at HC
      obtain ⟨q⟩ := s
      have hty : (T.mk kd nm l).ty pick = if T.tyL pick l q = true then some (.mk (q.drop l.length)) else none := by simp only [T.ty, hpk, S.args]; rfl
      have HTY := Lib.hid hty
      clear hpk hty
      by_cases hlen : l.length ≤ q.length
      · go_enter Tryz.func96, Tryz.ntmps96
        go_wp2_with fail
        refine HC.out.mono ?_
        intro e w1 hfd
        obtain ⟨v1, rfl, hi1, hb1⟩ := Found.yes hfd
        clear hfd
        obtain ⟨lo1, h1, hi1, hor1, hle1⟩ := hi1
        have hhw := hh w hHw
        have hi1' := hi1
        simp only [S.In] at hi1'
        obtain ⟨A3, n3, c3, rfl, hn3, hnc3, hc3, hall3⟩ := hi1'
        have g1 := (bH.below hb1 bH.lt).alloc (.cells #[.slice A3 n3 c3] 62)
        have g2 := (bT.below hb1 bT.lt).alloc (.cells #[.slice A3 n3 c3] 62)
        have g3 := (bR.below hb1 bR.lt).alloc (.cells #[.slice A3 n3 c3] 62)
        have g4 := Blk.new w1 62 #[.slice A3 n3 c3]
        have hz1 := hb1.size
        simp only [World.size_alloc] at hz1
        have y2 := g2.cell 2
        have y3 := g4.cell 0
        have hbelA : Below w.heap.size w (w1.alloc (.cells #[.slice A3 n3 c3] 62)) := (hw3.trans (hb1.mono (by simp; omega))).alloc (by omega) _
        have HN3 := Lib.hid hn3
        have hlen3 : l.length ≤ n3 := by omega
        have hd3 : decide (n3 < l.length) = false := decide_eq_false (by omega)
        clear hn3
        go_wp2_with fail
        go_loopw [33] (fun i wr => ∃ k : Nat, k ≤ l.length ∧ i = .int .i64 k ∧ Hid (T.tyL pick (l.take k) q = true) ∧ Below (w1.heap.size + 1) (w1.alloc (.cells #[.slice A3 n3 c3] 62)) wr) (fun i _ => l.length - (intOf i).toNat)
        case atStart => exact ⟨0, Nat.zero_le _, rfl, Lib.hid (by simp [T.tyL]), by simpa using Below.refl _ _⟩
        case round =>
          obtain ⟨k, hk, rfl, hf, hbw⟩ := hrel
          have hzw := hbw.size
          simp only [World.size_alloc] at hzw
          have m1 := g1.below hbw (by have := bH.lt; simp at this; omega)
          have m2 := g2.below hbw (by omega)
          have m3 := g3.below hbw (by omega)
          have m4 := g4.below hbw (by omega)
          have hbelR : Below w.heap.size w wr := hbelA.trans (hbw.mono (by omega))
          have hi3 : (S.mk q).In wr lo1 h1 (.slice A3 n3 c3) := (hi1.below (B := w1.heap.size) ((Below.refl _ _).alloc (Nat.le_refl _) _) hle1).below hbw (by omega)
          clear y2 y3
          by_cases hlt : k < l.length
          · have hx : l[k]? = some l[k] := List.getElem?_eq_getElem hlt
            have hltq : k < q.length := by omega
            have ha : q[k]? = some q[k] := List.getElem?_eq_getElem hltq
            have hcl := T.count_lt (a := kd) (b := nm) hx
            obtain ⟨ad, u, rfl, hP, hel, hinx⟩ := T.In.el hrd hrow hx
            obtain ⟨r0, r1, r2⟩ := hel.keep (hbelR.block _ (hold _ hP))
            have hbx : Below wr.heap.size wr (wr.alloc (.cells #[.int .i64 l[k].kind, .int .i64 l[k].num, u] 34)) := (Below.refl _ _).alloc (Nat.le_refl _) _
            have hHr : H (wr.alloc (.cells #[.int .i64 l[k].kind, .int .i64 l[k].num, u] 34)) := HH.out _ _ (HH.out _ _ hHw hbelR) hbx
            have HX := Lib.hid (Hih.out l[k] u _ P (by omega) hHr ((hinx.old hold hbelR).old (hold.bel hbelR) hbx) ((hold.bel hbelR).bel hbx))
            have hsucc := T.tyL_succ (pick := pick) hx ha
            have hfin := T.tyL_false (pick := pick) hx ha
            rw [hf.out, Bool.true_and] at hsucc
            have hcq : q[k].count ≤ 60 := by have := S.count_lt ha; omega
            have Hsmx := Lib.hid (fun (s : S) (hs : T.ty pick l[k] = some s) => T.ty_small (pick := pick) Hsm.out hs)
            generalize hxe : l[k] = x at *
            generalize hqe : q[k] = aq at *
            obtain ⟨A', n', c', rfl⟩ := hinx.form
            have mA := m1.alloc (.cells #[.int .i64 x.kind, .int .i64 x.num, .slice A' n' c'] 34)
            have z0 := mA.cell 0
            have z1 := mA.cell 1
            have z2 := mA.cell 2
            cases htx : x.ty pick with
            | none =>
              have HR : Hid (T.tyL pick l q = false) := Lib.hid (hfin (by simp [tyOne, htx]))
              rw [htx] at HX
              clear hx hel hsucc hfin htx hxe hqe ha
              go_wp2_with fail
              refine HX.out.mono ?_
              intro e w2 hfd
              obtain ⟨v2, rfl, hi2, hb2⟩ := Found.no hfd
              clear hfd
              obtain ⟨A5, n5, c5, rfl⟩ := hi2.form
              have hz2 := hb2.size
              simp only [World.size_alloc] at hz2
              have w3 := (m3.below (hbx.trans (hb2.mono (by simp))) m3.lt).alloc (.cells #[.slice A5 n5 c5] 62)
              have t0 := w3.cell 0
              have t1 := w3.frozen 0
              clear z0 z1 z2
              go_wp2_with fail
              go_quiet (fail)
              go_wp2
              rw [HTY.out, HR.out]
              refine bodyPost_ret (sortT_results rfl rfl ((w3.drewN _).set_ 0 _)) rfl ⟨_, rfl, S.At_nil, ?_⟩
              exact (below_drewN ((hbelR.trans ((hbx.trans (hb2.mono (by simp))).mono (by omega))).alloc (by omega) _) _).setCell (by simp; omega) _
            | some y =>
              have hys := Hsmx.out _ htx
              rw [htx] at HX
              have hone : tyOne pick x aq = y.eqb aq := by simp only [tyOne, htx]
              rw [hone] at hsucc hfin
              clear hx hel htx hone
              go_wp2_with fail
              refine HX.out.mono ?_
              intro e w2 hfd
              obtain ⟨v2, rfl, hi2, hb2⟩ := Found.yes hfd
              clear hfd
              obtain ⟨A5, n5, c5, rfl⟩ := hi2.form
              have hz2 := hb2.size
              simp only [World.size_alloc] at hz2
              have hb2' : Below wr.heap.size wr w2 := hbx.trans (hb2.mono (by simp))
              have w3 := (m3.below hb2' m3.lt).alloc (.cells #[.slice A5 n5 c5] 62)
              have w4 := (m4.below hb2' m4.lt).alloc (.cells #[.slice A5 n5 c5] 62)
              have w5 := Blk.new w2 62 #[.slice A5 n5 c5]
              have hbX : Below w.heap.size w (w2.alloc (.cells #[.slice A5 n5 c5] 62)) := (hbelR.trans (hb2'.mono (by omega))).alloc (by omega) _
              have hi4 : (S.mk q).In (w2.alloc (.cells #[.slice A5 n5 c5] 62)) lo1 h1 (.slice A3 n3 c3) := (hi3.below (B := wr.heap.size) hb2' (by omega)).below (B := w2.heap.size) ((Below.refl _ _).alloc (Nat.le_refl _) _) (by omega)
              have hi4' := hi4
              simp only [S.In] at hi4'
              obtain ⟨A6, n6, c6, he6, hn6, hnc6, hc6, hall6⟩ := hi4'
              injection he6 with e1 e2 e3
              subst e1 e2 e3
              have haq := ha
              obtain ⟨ad6, u6, rfl, _, hlt6, hcl6, hin6⟩ := hall6.at_ haq
              rw [Nat.zero_add] at hcl6
              obtain ⟨lo2, h2, hi2, _, hle2⟩ := hi2
              have hy4 : y.In (w2.alloc (.cells #[.slice A5 n5 c5] 62)).drew lo2 h2 (.slice A5 n5 c5) := hi2.below (B := w2.heap.size) (((Below.refl _ _).alloc (Nat.le_refl _) _).drew) hle2
              obtain ⟨A7, n7, c7, rfl⟩ := hin6.form
              have z3 := w4.cell 0
              have z4 := w5.cell 0
              have z5 := w3.cell 0
              have z6 := w3.frozen 0
              have HCMP := Lib.hid (cmpSame y aq _ _ _ _ _ _ _ hys hcq hy4 (by simp [World.drew]; omega) (hin6.below (B := w2.heap.size + 1) (w' := (w2.alloc (.cells #[.slice A5 n5 c5] 62)).drew) ((Below.refl _ _).drew) (by omega)) (by simp [World.drew]; omega))
              have hkn : k < n3 := by omega
              clear haq ha hqe hxe hn6 z0 z1 z2
              cases hb : y.eqb aq with
              | true =>
                have HR : Hid (T.tyL pick (l.take (k + 1)) q = true) := Lib.hid (by rw [hsucc, hb])
                rw [hb] at HCMP
                clear hsucc hfin hb
                go_wp2_with fail
                go_region_held3 (fun w' => w'.cell? ⟨w1.heap.size, 0, none⟩ = some (.slice (some ad6) n3 c3) ∧ w'.cell? ⟨w2.heap.size, 0, none⟩ = some (.slice A5 n5 c5) ∧ w'.cell? (ad6.add k) = some (.slice A7 n7 c7)) (first | go_keep | assumption)
                  (first
                    | (go_at_call 138
                       refine HCMP.out.mono ?_
                       rintro e w9 ⟨rfl, hw9⟩
                       have QK : ∀ (p : Addr) (z : Value), p.block < w2.heap.size + 1 → (w2.alloc (.cells #[.slice A5 n5 c5] 62)).cell? p = some z → w9.cell? p = some z := fun p z hp h => (hw9.cell (by simp [World.drew]; exact hp)).trans h
                       have Q := And.intro (QK _ _ (by simp; omega) z3) (And.intro (QK _ _ (by simp) z4) (QK _ _ (by rw [block_of_add]; omega) hcl6))
                       clear QK))
                all_goals
                  go_wp2_with fail
                  go_roundw
                  case rel => exact ⟨k + 1, by omega, by go_num, HR, (hbw.trans (hb2'.mono (by omega))).trans ((((Below.refl _ _).alloc (by omega) _).drew).trans (hw9.mono (by simp [World.drew]; omega)))⟩
                  case measure => simp [intOf]; omega
              | false =>
                have HR : Hid (T.tyL pick l q = false) := Lib.hid (hfin hb)
                rw [hb] at HCMP
                clear hsucc hfin hb
                go_wp2_with fail
                go_region_held3 (fun w' => w'.cell? ⟨w1.heap.size, 0, none⟩ = some (.slice (some ad6) n3 c3) ∧ w'.cell? ⟨w2.heap.size, 0, none⟩ = some (.slice A5 n5 c5) ∧ w'.cell? (ad6.add k) = some (.slice A7 n7 c7)) (first | go_keep | assumption)
                  (first
                    | (go_at_call 138
                       refine HCMP.out.mono ?_
                       rintro e w9 ⟨rfl, hw9⟩
                       have QK : ∀ (p : Addr) (z : Value), p.block < w2.heap.size + 1 → (w2.alloc (.cells #[.slice A5 n5 c5] 62)).cell? p = some z → w9.cell? p = some z := fun p z hp h => (hw9.cell (by simp [World.drew]; exact hp)).trans h
                       have Q := And.intro (QK _ _ (by simp; omega) z3) (And.intro (QK _ _ (by simp) z4) (QK _ _ (by rw [block_of_add]; omega) hcl6))
                       have w6 : Blk w9 (w.heap.size + 1 + 1) 62 #[.slice none 0 0] := w3.drew.below hw9 (by simp [World.drew]; omega)
                       have z7 := w6.cell 0
                       have z8 := w6.frozen 0
                       simp at z7
                       clear QK))
                all_goals
                  go_wp2_with fail
                  rw [HTY.out, HR.out]
                  refine bodyPost_ret (sortT_results rfl rfl (w6.set_ 0 _)) rfl ⟨_, rfl, S.At_nil, ?_⟩
                  exact (hbX.drew.trans (hw9.mono (by simp [World.drew]; omega))).setCell (by simp; omega) _
          · have hll : l.take k = l := List.take_of_length_le (by omega)
            rw [hll] at hf
            have y2 := m2.cell 2
            have y3 := m4.cell 0
            have y4 := m3.cell 0
            have y5 := m3.frozen 0
            have hd := S.In_drop hi3 hlen3
            clear hll
            go_wp2_with fail
            all_goals
              rw [HTY.out, hf.out]
              refine bodyPost_ret (sortT_results rfl rfl (m3.set_ 0 _)) rfl ⟨_, rfl, ⟨lo1, h1, ?_, ?_, ?_⟩, hbelR.setCell (by simp; omega) _⟩
              · refine S.In_set ?_ ?_
                · first
                    | (rw [if_pos (by assumption), show c3 - l.length = 0 from by omega] at hd; exact hd)
                    | (rw [if_pos (by assumption)] at hd; exact hd)
                    | (rw [if_neg (by assumption)] at hd; exact hd)
                · rcases hor1 with hr | hr
                  · have := HRR.out _ _ hr; omega
                  · simp at hr; omega
              · rcases hor1 with hr | hr
                · exact .inl hr
                · exact .inr (by simp at hr; omega)
              · simp [World.setCell]; omega
      · have HR : Hid (T.tyL pick l q = false) := Lib.hid (by rw [Bool.eq_false_iff]; intro h; exact hlen (T.tyL_len h))
        go_enter Tryz.func96, Tryz.ntmps96
        go_wp2_with fail
        refine HC.out.mono ?_
        intro e w1 hfd
        obtain ⟨v1, rfl, hi1, hb1⟩ := Found.yes hfd
        clear hfd
        obtain ⟨lo1, h1, hi1, hor1, hle1⟩ := hi1
        simp only [S.In] at hi1
        obtain ⟨A3, n3, c3, rfl, hn3, hnc3, hc3, hall3⟩ := hi1
        have g2 := (bT.below hb1 bT.lt).alloc (.cells #[.slice A3 n3 c3] 62)
        have g3 := (bR.below hb1 bR.lt).alloc (.cells #[.slice A3 n3 c3] 62)
        have hz1 := hb1.size
        simp only [World.size_alloc] at hz1
        have y2 := g2.cell 2
        have y4 := g3.cell 0
        have y5 := g3.frozen 0
        have hlt3 : n3 < l.length := by omega
        clear hn3
        go_wp2_with fail
        rw [HTY.out, HR.out]
        refine bodyPost_ret (sortT_results rfl rfl (g3.set_ 0 _)) rfl ⟨_, rfl, S.At_nil, ?_⟩
        exact (((hw3.trans (hb1.mono (by simp; omega))).alloc (by omega) _)).setCell (by simp; omega) _

theorem cmpEqual (s t : S) (v u : Value) (w : World) (lo hi lo' hi' : Nat) (_hs : s.count ≤ 60) (_ht : t.count ≤ 60) (hin : s.In w lo hi v) (hhi : hi ≤ w.heap.size) (hin2 : t.In w lo' hi' u) (hhi2 : hi' ≤ w.heap.size) :
    Calls Tryz.prog 60 #[.agg #[v], .agg #[u]] w fun e w' => e = .returned (.bool (s.eqb t)) ∧ Below w.heap.size w w' :=
  refEqual_any _ s t v u w lo hi lo' hi' (Nat.le_refl _) hin hhi hin2 hhi2

theorem ofT_results {tmps : Array Value} {w : World} {a : Nat} {x u : Value} (h2 : tmps.getD 4 undef = .pointer (some ⟨a, 0, none⟩)) (h3 : tmps.getD 5 undef = u)
    (ha : Blk w a 62 #[x]) : (results Tryz.f81 tmps).run Tryz.prog w = .ok (.tuple #[.agg #[x], u]) w := by
  have h4 := ha.cell 0
  simp at h4
  have h2' : tmps[4]?.getD undef = .pointer (some ⟨a, 0, none⟩) := by simpa using h2
  have h3' : tmps[5]?.getD undef = u := by simpa using h3
  simp [results, Tryz.results81, go_sem, h2', h3', h4]

set_option maxRecDepth 100000 in
set_option maxHeartbeats 3200000 in
theorem ofT_any (pick : Int → Int → Option S) (hsm : ∀ k n s, pick k n = some s → s.count ≤ 60) (p0 p1 p2 : Value) (hp0 : ∃ A n c, p0 = .slice A n c) (hp1 : ∃ A n c, p1 = .slice A n c) (hp2 : ∃ A n c, p2 = .slice A n c) (H : World → Prop) (hH : ∀ W W', H W → Below W.heap.size W W' → H W') (h : Nat) (hh : ∀ W, H W → h ≤ W.heap.size) (R : Nat → Nat → Prop) (hR : ∀ lo hi, R lo hi → hi ≤ h)
    (hhead : ∀ (x : T) (v : Value) (W : World) (P : Nat → Prop), H W → x.In W P v → Old P W → Calls Tryz.prog 124 #[.agg #[p0, p1, p2], .agg #[.int .i64 x.kind, .int .i64 x.num, v]] W (Found R (pick x.kind x.num) W))
    (K : Nat) : ∀ (t : T) (v : Value) (w : World) (P : Nat → Prop), t.count ≤ K → H w → t.In w P v → Old P w →
    Calls Tryz.prog 81 #[.agg #[p0, p1, p2], .agg #[.int .i64 t.kind, .int .i64 t.num, v]] w (Found R (t.ty pick) w) := by
  obtain ⟨A0, n0, c0, rfl⟩ := hp0
  obtain ⟨A1, n1, c1, rfl⟩ := hp1
  obtain ⟨A2, n2, c2, rfl⟩ := hp2
  have Hsm := Lib.hid hsm
  have HH := Lib.hid hH
  have Hhd := Lib.hid hhead
  have HRR := Lib.hid hR
  clear hsm hH hhead hR
  induction K with
  | zero => intro t; have := t.count_pos; omega
  | succ K ih =>
    intro t v w P hK hHw hin hold
    obtain ⟨kd, nm, l⟩ := t
    have hin0 := hin
    simp only [T.In] at hin
    obtain ⟨A, _, c, us, rfl, rfl, hnc, hc, hrd, hrow⟩ := hin
    simp only [T.kind, T.num]
    have Hih := Lib.hid ih
    clear ih
    have hw3 : Below w.heap.size w (((w.alloc (.cells #[.slice A0 n0 c0, .slice A1 n1 c1, .slice A2 n2 c2] 125)).alloc (.cells #[.int .i64 kd, .int .i64 nm, .slice A l.length c] 34)).alloc (.cells #[.slice none 0 0] 62)) := (((Below.refl _ _).alloc (Nat.le_refl _) _).alloc (by simp) _).alloc (by simp; omega) _
    have bH : Blk (((w.alloc (.cells #[.slice A0 n0 c0, .slice A1 n1 c1, .slice A2 n2 c2] 125)).alloc (.cells #[.int .i64 kd, .int .i64 nm, .slice A l.length c] 34)).alloc (.cells #[.slice none 0 0] 62)) w.heap.size 125 #[.slice A0 n0 c0, .slice A1 n1 c1, .slice A2 n2 c2] := ((Blk.new _ _ _).alloc _).alloc _
    have bT : Blk (((w.alloc (.cells #[.slice A0 n0 c0, .slice A1 n1 c1, .slice A2 n2 c2] 125)).alloc (.cells #[.int .i64 kd, .int .i64 nm, .slice A l.length c] 34)).alloc (.cells #[.slice none 0 0] 62)) (w.heap.size + 1) 34 #[.int .i64 kd, .int .i64 nm, .slice A l.length c] := by
      simpa using (Blk.new (w.alloc (.cells #[.slice A0 n0 c0, .slice A1 n1 c1, .slice A2 n2 c2] 125)) 34 #[.int .i64 kd, .int .i64 nm, .slice A l.length c]).alloc (.cells #[.slice none 0 0] 62)
    have bR : Blk (((w.alloc (.cells #[.slice A0 n0 c0, .slice A1 n1 c1, .slice A2 n2 c2] 125)).alloc (.cells #[.int .i64 kd, .int .i64 nm, .slice A l.length c] 34)).alloc (.cells #[.slice none 0 0] 62)) (w.heap.size + 1 + 1) 62 #[.slice none 0 0] := by
      simpa using Blk.new ((w.alloc (.cells #[.slice A0 n0 c0, .slice A1 n1 c1, .slice A2 n2 c2] 125)).alloc (.cells #[.int .i64 kd, .int .i64 nm, .slice A l.length c] 34)) 62 #[.slice none 0 0]
    have HC := Lib.hid (Hhd.out (.mk kd nm l) _ _ P (HH.out _ _ hHw hw3) (hin0.old hold hw3) (hold.bel hw3))
    simp only [T.kind, T.num] at HC
    cases hpk : pick kd nm with
    | none =>
      have HF : Hid ((T.mk kd nm l).ty pick = none) := Lib.hid (by simp [T.ty, hpk])
      rw [hpk] at HC
      clear hpk
      rw [HF.out]
      go_enter Tryz.func81, Tryz.ntmps81
      go_wp2_with fail
      refine HC.out.mono ?_
      intro e w1 hfd
      obtain ⟨v1, rfl, hi1, hb1⟩ := Found.no hfd
      clear hfd
      obtain ⟨A3, n3, c3, rfl⟩ := hi1.form
      have k3 := (bR.below hb1 bR.lt).alloc (.cells #[.slice A3 n3 c3] 62)
      have q0 := k3.cell 0
      have q1 := k3.frozen 0
      have hz1 := hb1.size
      simp only [World.size_alloc] at hz1
      go_wp2_with fail
      refine bodyPost_ret (ofT_results rfl rfl (k3.set_ 0 _)) rfl ⟨_, rfl, S.At_nil, ?_⟩
      exact ((hw3.trans (hb1.mono (by simp; omega))).alloc (by omega) _).setCell (by simp; omega) _
    | some s =>
      have hss := Hsm.out _ _ _ hpk
      rw [hpk] at HC
      obtain ⟨q⟩ := s
      have hty : (T.mk kd nm l).ty pick = if T.tyL pick l q = true then some (.mk (q.drop l.length)) else none := by simp only [T.ty, hpk, S.args]; rfl
      have HTY := Lib.hid hty
      clear hpk hty
      by_cases hlen : l.length ≤ q.length
      · go_enter Tryz.func81, Tryz.ntmps81
        go_wp2_with fail
        refine HC.out.mono ?_
        intro e w1 hfd
        obtain ⟨v1, rfl, hi1, hb1⟩ := Found.yes hfd
        clear hfd
        obtain ⟨lo1, h1, hi1, hor1, hle1⟩ := hi1
        have hhw := hh w hHw
        have hi1' := hi1
        simp only [S.In] at hi1'
        obtain ⟨A3, n3, c3, rfl, hn3, hnc3, hc3, hall3⟩ := hi1'
        have g1 := (bH.below hb1 bH.lt).alloc (.cells #[.slice A3 n3 c3] 62)
        have g2 := (bT.below hb1 bT.lt).alloc (.cells #[.slice A3 n3 c3] 62)
        have g3 := (bR.below hb1 bR.lt).alloc (.cells #[.slice A3 n3 c3] 62)
        have g4 := Blk.new w1 62 #[.slice A3 n3 c3]
        have hz1 := hb1.size
        simp only [World.size_alloc] at hz1
        have y2 := g2.cell 2
        have y3 := g4.cell 0
        have hbelA : Below w.heap.size w (w1.alloc (.cells #[.slice A3 n3 c3] 62)) := (hw3.trans (hb1.mono (by simp; omega))).alloc (by omega) _
        have HN3 := Lib.hid hn3
        have hlen3 : l.length ≤ n3 := by omega
        have hd3 : decide (n3 < l.length) = false := decide_eq_false (by omega)
        clear hn3
        go_wp2_with fail
        go_loopw [33] (fun i wr => ∃ k : Nat, k ≤ l.length ∧ i = .int .i64 k ∧ Hid (T.tyL pick (l.take k) q = true) ∧ Below (w1.heap.size + 1) (w1.alloc (.cells #[.slice A3 n3 c3] 62)) wr) (fun i _ => l.length - (intOf i).toNat)
        case atStart => exact ⟨0, Nat.zero_le _, rfl, Lib.hid (by simp [T.tyL]), by simpa using Below.refl _ _⟩
        case round =>
          obtain ⟨k, hk, rfl, hf, hbw⟩ := hrel
          have hzw := hbw.size
          simp only [World.size_alloc] at hzw
          have m1 := g1.below hbw (by have := bH.lt; simp at this; omega)
          have m2 := g2.below hbw (by omega)
          have m3 := g3.below hbw (by omega)
          have m4 := g4.below hbw (by omega)
          have hbelR : Below w.heap.size w wr := hbelA.trans (hbw.mono (by omega))
          have hi3 : (S.mk q).In wr lo1 h1 (.slice A3 n3 c3) := (hi1.below (B := w1.heap.size) ((Below.refl _ _).alloc (Nat.le_refl _) _) hle1).below hbw (by omega)
          clear y2 y3
          by_cases hlt : k < l.length
          · have hx : l[k]? = some l[k] := List.getElem?_eq_getElem hlt
            have hltq : k < q.length := by omega
            have ha : q[k]? = some q[k] := List.getElem?_eq_getElem hltq
            have hcl := T.count_lt (a := kd) (b := nm) hx
            obtain ⟨ad, u, rfl, hP, hel, hinx⟩ := T.In.el hrd hrow hx
            obtain ⟨r0, r1, r2⟩ := hel.keep (hbelR.block _ (hold _ hP))
            have hbx : Below wr.heap.size wr (wr.alloc (.cells #[.int .i64 l[k].kind, .int .i64 l[k].num, u] 34)) := (Below.refl _ _).alloc (Nat.le_refl _) _
            have hHr : H (wr.alloc (.cells #[.int .i64 l[k].kind, .int .i64 l[k].num, u] 34)) := HH.out _ _ (HH.out _ _ hHw hbelR) hbx
            have HX := Lib.hid (Hih.out l[k] u _ P (by omega) hHr ((hinx.old hold hbelR).old (hold.bel hbelR) hbx) ((hold.bel hbelR).bel hbx))
            have hsucc := T.tyL_succ (pick := pick) hx ha
            have hfin := T.tyL_false (pick := pick) hx ha
            rw [hf.out, Bool.true_and] at hsucc
            have hcq : q[k].count ≤ 60 := by have := S.count_lt ha; omega
            have Hsmx := Lib.hid (fun (s : S) (hs : T.ty pick l[k] = some s) => T.ty_small (pick := pick) Hsm.out hs)
            generalize hxe : l[k] = x at *
            generalize hqe : q[k] = aq at *
            obtain ⟨A', n', c', rfl⟩ := hinx.form
            have mA := m1.alloc (.cells #[.int .i64 x.kind, .int .i64 x.num, .slice A' n' c'] 34)
            have z0 := mA.cell 0
            have z1 := mA.cell 1
            have z2 := mA.cell 2
            cases htx : x.ty pick with
            | none =>
              have HR : Hid (T.tyL pick l q = false) := Lib.hid (hfin (by simp [tyOne, htx]))
              rw [htx] at HX
              clear hx hel hsucc hfin htx hxe hqe ha
              go_wp2_with fail
              refine HX.out.mono ?_
              intro e w2 hfd
              obtain ⟨v2, rfl, hi2, hb2⟩ := Found.no hfd
              clear hfd
              obtain ⟨A5, n5, c5, rfl⟩ := hi2.form
              have hz2 := hb2.size
              simp only [World.size_alloc] at hz2
              have w3 := (m3.below (hbx.trans (hb2.mono (by simp))) m3.lt).alloc (.cells #[.slice A5 n5 c5] 62)
              have t0 := w3.cell 0
              have t1 := w3.frozen 0
              clear z0 z1 z2
              go_wp2_with fail
              go_quiet (fail)
              go_wp2
              rw [HTY.out, HR.out]
              refine bodyPost_ret (ofT_results rfl rfl ((w3.drewN _).set_ 0 _)) rfl ⟨_, rfl, S.At_nil, ?_⟩
              exact (below_drewN ((hbelR.trans ((hbx.trans (hb2.mono (by simp))).mono (by omega))).alloc (by omega) _) _).setCell (by simp; omega) _
            | some y =>
              have hys := Hsmx.out _ htx
              rw [htx] at HX
              have hone : tyOne pick x aq = y.eqb aq := by simp only [tyOne, htx]
              rw [hone] at hsucc hfin
              clear hx hel htx hone
              go_wp2_with fail
              refine HX.out.mono ?_
              intro e w2 hfd
              obtain ⟨v2, rfl, hi2, hb2⟩ := Found.yes hfd
              clear hfd
              obtain ⟨A5, n5, c5, rfl⟩ := hi2.form
              have hz2 := hb2.size
              simp only [World.size_alloc] at hz2
              have hb2' : Below wr.heap.size wr w2 := hbx.trans (hb2.mono (by simp))
              have w3 := (m3.below hb2' m3.lt).alloc (.cells #[.slice A5 n5 c5] 62)
              have w4 := (m4.below hb2' m4.lt).alloc (.cells #[.slice A5 n5 c5] 62)
              have w5 := Blk.new w2 62 #[.slice A5 n5 c5]
              have hbX : Below w.heap.size w (w2.alloc (.cells #[.slice A5 n5 c5] 62)) := (hbelR.trans (hb2'.mono (by omega))).alloc (by omega) _
              have hi4 : (S.mk q).In (w2.alloc (.cells #[.slice A5 n5 c5] 62)) lo1 h1 (.slice A3 n3 c3) := (hi3.below (B := wr.heap.size) hb2' (by omega)).below (B := w2.heap.size) ((Below.refl _ _).alloc (Nat.le_refl _) _) (by omega)
              have hi4' := hi4
              simp only [S.In] at hi4'
              obtain ⟨A6, n6, c6, he6, hn6, hnc6, hc6, hall6⟩ := hi4'
              injection he6 with e1 e2 e3
              subst e1 e2 e3
              have haq := ha
              obtain ⟨ad6, u6, rfl, _, hlt6, hcl6, hin6⟩ := hall6.at_ haq
              rw [Nat.zero_add] at hcl6
              obtain ⟨lo2, h2, hi2, _, hle2⟩ := hi2
              have hy4 : y.In (w2.alloc (.cells #[.slice A5 n5 c5] 62)).drew lo2 h2 (.slice A5 n5 c5) := hi2.below (B := w2.heap.size) (((Below.refl _ _).alloc (Nat.le_refl _) _).drew) hle2
              obtain ⟨A7, n7, c7, rfl⟩ := hin6.form
              have z3 := w4.cell 0
              have z4 := w5.cell 0
              have z5 := w3.cell 0
              have z6 := w3.frozen 0
              have HCMP := Lib.hid (cmpEqual y aq _ _ _ _ _ _ _ hys hcq hy4 (by simp [World.drew]; omega) (hin6.below (B := w2.heap.size + 1) (w' := (w2.alloc (.cells #[.slice A5 n5 c5] 62)).drew) ((Below.refl _ _).drew) (by omega)) (by simp [World.drew]; omega))
              have hkn : k < n3 := by omega
              clear haq ha hqe hxe hn6 z0 z1 z2
              cases hb : y.eqb aq with
              | true =>
                have HR : Hid (T.tyL pick (l.take (k + 1)) q = true) := Lib.hid (by rw [hsucc, hb])
                rw [hb] at HCMP
                clear hsucc hfin hb
                go_wp2_with fail
                go_region_held3 (fun w' => w'.cell? ⟨w1.heap.size, 0, none⟩ = some (.slice (some ad6) n3 c3) ∧ w'.cell? ⟨w2.heap.size, 0, none⟩ = some (.slice A5 n5 c5) ∧ w'.cell? (ad6.add k) = some (.slice A7 n7 c7)) (first | go_keep | assumption)
                  (first
                    | (go_at_call 60
                       refine HCMP.out.mono ?_
                       rintro e w9 ⟨rfl, hw9⟩
                       have QK : ∀ (p : Addr) (z : Value), p.block < w2.heap.size + 1 → (w2.alloc (.cells #[.slice A5 n5 c5] 62)).cell? p = some z → w9.cell? p = some z := fun p z hp h => (hw9.cell (by simp [World.drew]; exact hp)).trans h
                       have Q := And.intro (QK _ _ (by simp; omega) z3) (And.intro (QK _ _ (by simp) z4) (QK _ _ (by rw [block_of_add]; omega) hcl6))
                       clear QK))
                all_goals
                  go_wp2_with fail
                  go_roundw
                  case rel => exact ⟨k + 1, by omega, by go_num, HR, (hbw.trans (hb2'.mono (by omega))).trans ((((Below.refl _ _).alloc (by omega) _).drew).trans (hw9.mono (by simp [World.drew]; omega)))⟩
                  case measure => simp [intOf]; omega
              | false =>
                have HR : Hid (T.tyL pick l q = false) := Lib.hid (hfin hb)
                rw [hb] at HCMP
                clear hsucc hfin hb
                go_wp2_with fail
                go_region_held3 (fun w' => w'.cell? ⟨w1.heap.size, 0, none⟩ = some (.slice (some ad6) n3 c3) ∧ w'.cell? ⟨w2.heap.size, 0, none⟩ = some (.slice A5 n5 c5) ∧ w'.cell? (ad6.add k) = some (.slice A7 n7 c7)) (first | go_keep | assumption)
                  (first
                    | (go_at_call 60
                       refine HCMP.out.mono ?_
                       rintro e w9 ⟨rfl, hw9⟩
                       have QK : ∀ (p : Addr) (z : Value), p.block < w2.heap.size + 1 → (w2.alloc (.cells #[.slice A5 n5 c5] 62)).cell? p = some z → w9.cell? p = some z := fun p z hp h => (hw9.cell (by simp [World.drew]; exact hp)).trans h
                       have Q := And.intro (QK _ _ (by simp; omega) z3) (And.intro (QK _ _ (by simp) z4) (QK _ _ (by rw [block_of_add]; omega) hcl6))
                       have w6 : Blk w9 (w.heap.size + 1 + 1) 62 #[.slice none 0 0] := w3.drew.below hw9 (by simp [World.drew]; omega)
                       have z7 := w6.cell 0
                       have z8 := w6.frozen 0
                       simp at z7
                       clear QK))
                all_goals
                  go_wp2_with fail
                  rw [HTY.out, HR.out]
                  refine bodyPost_ret (ofT_results rfl rfl (w6.set_ 0 _)) rfl ⟨_, rfl, S.At_nil, ?_⟩
                  exact (hbX.drew.trans (hw9.mono (by simp [World.drew]; omega))).setCell (by simp; omega) _
          · have hll : l.take k = l := List.take_of_length_le (by omega)
            rw [hll] at hf
            have y2 := m2.cell 2
            have y3 := m4.cell 0
            have y4 := m3.cell 0
            have y5 := m3.frozen 0
            have hd := S.In_drop hi3 hlen3
            clear hll
            go_wp2_with fail
            all_goals
              rw [HTY.out, hf.out]
              refine bodyPost_ret (ofT_results rfl rfl (m3.set_ 0 _)) rfl ⟨_, rfl, ⟨lo1, h1, ?_, ?_, ?_⟩, hbelR.setCell (by simp; omega) _⟩
              · refine S.In_set ?_ ?_
                · first
                    | (rw [if_pos (by assumption), show c3 - l.length = 0 from by omega] at hd; exact hd)
                    | (rw [if_pos (by assumption)] at hd; exact hd)
                    | (rw [if_neg (by assumption)] at hd; exact hd)
                · rcases hor1 with hr | hr
                  · have := HRR.out _ _ hr; omega
                  · simp at hr; omega
              · rcases hor1 with hr | hr
                · exact .inl hr
                · exact .inr (by simp at hr; omega)
              · simp [World.setCell]; omega
      · have HR : Hid (T.tyL pick l q = false) := Lib.hid (by rw [Bool.eq_false_iff]; intro h; exact hlen (T.tyL_len h))
        go_enter Tryz.func81, Tryz.ntmps81
        go_wp2_with fail
        refine HC.out.mono ?_
        intro e w1 hfd
        obtain ⟨v1, rfl, hi1, hb1⟩ := Found.yes hfd
        clear hfd
        obtain ⟨lo1, h1, hi1, hor1, hle1⟩ := hi1
        simp only [S.In] at hi1
        obtain ⟨A3, n3, c3, rfl, hn3, hnc3, hc3, hall3⟩ := hi1
        have g2 := (bT.below hb1 bT.lt).alloc (.cells #[.slice A3 n3 c3] 62)
        have g3 := (bR.below hb1 bR.lt).alloc (.cells #[.slice A3 n3 c3] 62)
        have hz1 := hb1.size
        simp only [World.size_alloc] at hz1
        have y2 := g2.cell 2
        have y4 := g3.cell 0
        have y5 := g3.frozen 0
        have hlt3 : n3 < l.length := by omega
        clear hn3
        go_wp2_with fail
        rw [HTY.out, HR.out]
        refine bodyPost_ret (ofT_results rfl rfl (g3.set_ 0 _)) rfl ⟨_, rfl, S.At_nil, ?_⟩
        exact (((hw3.trans (hb1.mono (by simp; omega))).alloc (by omega) _)).setCell (by simp; omega) _
end Go.Proofs.YtbbejhhohppdhaaGreatDoor

namespace Go.Proofs.YtbbejhhohppdhaaGreatDoor
open Go.RowKit

theorem S.In_drewN {w : World} {lo hi : Nat} {s : S} {v : Value} (h : s.In w lo hi v) (n : Nat) : s.In (w.drewN n) lo hi v := S.In.keep (w := w) (w' := w.drewN n) (fun _ _ _ => rfl) s h
/-- The sort of a symbol of a rank. -/
def rankS (r : Nat) : S := .mk (List.replicate r (.mk []))
/-- A slice of its own that holds the sorts of symbols of these ranks. -/
structure RankRow (B : Nat) (w : World) (l : List Nat) (v : Value) (us : List Value) : Prop where
  own : w.ownsRow B 62 1 v l.length us
  el : ∀ (j r : Nat), l[j]? = some r → ∃ g, us[j]? = some (.slice (some ⟨g, 0, none⟩) r r) ∧ B ≤ g ∧ g < w.heap.size ∧ v.ownBlock ≠ some g ∧ Blk w g 62 (madeCells #[.slice none 0 0] r)
theorem sort_info2 : (Tryz.prog.info? 62).map (fun i => (i.zero, i.size, i.bytes)) = some (some (.agg #[.slice none 0 0]), 1, 24) := by kernel_rfl
theorem made_at {r j : Nat} (h : j < r) : (madeCells #[.slice none 0 0] r)[j]? = some (.slice none 0 0) := by
  simp [madeCells, h, Nat.mod_one]
theorem S.In_ranks {w : World} {lo hi g r : Nat} (hr : r ≤ 100) (h : Blk w g 62 (madeCells #[.slice none 0 0] r)) (h1 : lo ≤ g) (h2 : g < hi) : (rankS r).In w lo hi (.slice (some ⟨g, 0, none⟩) r r) := by
  simp only [rankS, S.In]
  refine ⟨_, _, _, rfl, by simp, Nat.le_refl _, by omega, S.All.mk_ fun j x hx => ?_⟩
  rw [List.getElem?_replicate] at hx
  split at hx
  · rename_i hj
    cases hx
    refine ⟨_, _, rfl, h1, h2, ?_, S.In_nil⟩
    have hadd : (⟨g, 0, none⟩ : Addr).add (0 + j) = ⟨g, j, none⟩ := by unfold Addr.add; split <;> simp_all
    rw [hadd, h.cell, made_at hj]
  · cases hx
theorem RankRow.in_ {B : Nat} {w : World} {l : List Nat} {v : Value} {us : List Value} (h : RankRow B w l v us) (hl : ∀ r ∈ l, r ≤ 100) : (S.mk (l.map rankS)).In w B w.heap.size v := by
  simp only [S.In]
  rcases h.own.2 with ⟨rfl, h0⟩ | ⟨g, cap, cur, rfl, h1, h2, h3, h4, h5, h6⟩
  · have : l = [] := List.eq_nil_of_length_eq_zero h0
    subst this
    exact ⟨_, _, _, rfl, rfl, Nat.le_refl _, by omega, by simp [S.All]⟩
  · refine ⟨_, _, _, rfl, by simp, h3, by simpa [maxLen] using h4, S.All.mk_ fun j x hx => ?_⟩
    rw [List.getElem?_map, Option.map_eq_some_iff] at hx
    obtain ⟨r, hr, rfl⟩ := hx
    obtain ⟨g', e1, e2, e3, _, e5⟩ := h.el j r hr
    have hg := World.ownsRow.lt h.own g rfl
    refine ⟨_, _, rfl, hg.1, hg.2, ?_, S.In_ranks (hl r (List.mem_of_getElem? hr)) e5 e2 e3⟩
    rw [Nat.zero_add]
    exact World.ownsRow.cells h.own (g := g) rfl j _ e1
theorem RankRow.form {B : Nat} {w : World} {l : List Nat} {v : Value} {us : List Value} (h : RankRow B w l v us) : ∃ A c, v = .slice A l.length c := by
  rcases h.own.2 with ⟨rfl, h0⟩ | ⟨g, cap, cur, rfl, _⟩
  · exact ⟨none, 0, by rw [h0]⟩
  · exact ⟨_, cap, rfl⟩
theorem owns_kept1 {w w' : World} {base : Nat} {e : TypeId} {size : Nat} {v : Value} {n : Nat} {xs : List Value} (h : w.ownsRow base e size v n xs) (hk : ∀ b, v.ownBlock = some b → w'.heap[b]? = w.heap[b]?) : w'.ownsRow base e size v n xs := owns_kept3 h hk
theorem RankRow.push {B : Nat} {wr w1 w2 : World} {l : List Nat} {v : Value} {us : List Value} (h : RankRow B wr l v us) (hBr : B ≤ wr.heap.size) (hk : ∀ b, b < wr.heap.size → w1.heap[b]? = wr.heap[b]?) (hz : wr.heap.size ≤ w1.heap.size)
    {gx r : Nat} (hgx : wr.heap.size ≤ gx) (hgx2 : gx < w1.heap.size) (hbx : Blk w1 gx 62 (madeCells #[.slice none 0 0] r)) {o1 : Obj} {g cap : Nat}
    (hown2 : w2.ownsRow B 62 1 (.slice (some ⟨g, 0, none⟩) (l.length + 1) cap) (l.length + 1) (us ++ [.slice (some ⟨gx, 0, none⟩) r r])) (hgrow : (w1.alloc o1).grownBy w2 v.ownBlock)
    (hat : v.ownBlock = some g ∨ g = w1.heap.size + 1) : RankRow B w2 (l ++ [r]) (.slice (some ⟨g, 0, none⟩) (l.length + 1) cap) (us ++ [.slice (some ⟨gx, 0, none⟩) r r]) := by
  have hgs := hgrow.size
  simp only [World.size_alloc] at hgs
  have hfar : ∀ b, b < w1.heap.size → v.ownBlock ≠ some b → w2.heap[b]? = w1.heap[b]? := fun b hb' hne => by
    rw [hgrow.block b (by simp; omega) (fun e => hne e.symm), Below.heap_alloc _ _ _ hb']
  have hvlt : ∀ b, v.ownBlock = some b → b < wr.heap.size := fun b hb' => (World.ownsRow.lt h.own b hb').2
  have hul : us.length = l.length := by simpa using h.own.1
  refine ⟨by rw [List.length_append]; exact hown2, fun j r' hj => ?_⟩
  rcases Nat.lt_or_ge j l.length with hlt | hge
  · rw [List.getElem?_append_left hlt] at hj
    obtain ⟨g', e1, e2, e3, e4, e5⟩ := h.el j r' hj
    refine ⟨g', by rw [List.getElem?_append_left (by omega)]; exact e1, e2, by omega, fun e => ?_, (hfar g' (by omega) e4).trans ((hk g' e3).trans e5)⟩
    have e' : g = g' := by simpa [Value.ownBlock] using e
    rcases hat with ha | ha
    · exact e4 (by rw [ha, e'])
    · omega
  · rw [List.getElem?_append_right hge] at hj
    have hj0 : j - l.length = 0 := by
      rcases Nat.eq_zero_or_pos (j - l.length) with h0 | h0
      · exact h0
      · rw [List.getElem?_eq_none (by simp; omega)] at hj; cases hj
    rw [hj0] at hj
    simp at hj
    subst hj
    refine ⟨gx, by rw [List.getElem?_append_right (by omega), hul, hj0]; rfl, by omega, by omega, fun e => ?_, (hfar gx hgx2 (fun e => by have := hvlt gx e; omega)).trans hbx⟩
    have e' : g = gx := by simpa [Value.ownBlock] using e
    rcases hat with ha | ha
    · have := hvlt g ha; omega
    · omega

/-- Ranks, as numbers. -/
def ranksOf (l : List Sy) : List Nat := l.map fun x => x.rank.toNat
set_option maxRecDepth 100000 in
set_option maxHeartbeats 1600000 in
theorem symbolSorts_any (l : List Sy) (v : Value) (w : World) (P : Nat → Prop) (hin : SyIn w P l v) (hold : Old P w) (h24 : l.length ≤ 24) (hr : ∀ x ∈ l, 0 ≤ x.rank ∧ x.rank ≤ 4) :
    Calls Tryz.prog 136 #[v] w fun e w' => ∃ v us, e = .returned v ∧ RankRow w.heap.size w' (ranksOf l) v us ∧ Below w.heap.size w w' := by
  obtain ⟨i0, hi0, hz0, hz1, hz2⟩ := info_parts sort_info2
  obtain ⟨A, _, c, rfl, rfl, hnc, hc, hrd, hsz⟩ := hin
  have hmk := fun W (r : Nat) (h4 : r ≤ 4) => run_make (P := Tryz.prog) W 60 62 i0 _ Tryz.underlying60 hi0 hz0 .i64 .i64 (r : Int) (r : Int) (by omega) (by omega) (by rw [hz2]; omega) (by omega)
  simp only [hz1, Int.toNat_natCast, Nat.mul_one] at hmk
  have HMK := Lib.hid hmk
  have HZ1 := Lib.hid hz1
  have HZ2 := Lib.hid hz2
  clear hmk
  go_enter Tryz.func136, Tryz.ntmps136
  go_wp2_with fail
  go_loopw [8, 3] (fun i v wr => ∃ (k : Nat) (us : List Value), k ≤ l.length ∧ i = .int .i64 k ∧ RankRow w.heap.size wr (ranksOf (l.take k)) v us ∧ Below w.heap.size w wr) (fun i _ _ => l.length - (intOf i).toNat)
  case atStart => exact ⟨0, [], Nat.zero_le _, rfl, ⟨⟨by simp [ranksOf], .inl ⟨rfl, by simp [ranksOf]⟩⟩, fun j r hj => by simp [ranksOf] at hj⟩, Below.refl _ _⟩
  case round =>
    obtain ⟨k, us, hk, rfl, hrr, hbel⟩ := hrel
    have hzr := hbel.size
    by_cases hlt : k < l.length
    · have hx : l[k]? = some l[k] := List.getElem?_eq_getElem hlt
      obtain ⟨ad, rfl, hPa, hel⟩ := sy_el hrd hx
      obtain ⟨r0, r1⟩ := hel.keep (hbel.block _ (hold _ hPa))
      have hrk := hr l[k] (List.getElem_mem hlt)
      have hsnoc : ranksOf (l.take (k + 1)) = ranksOf (l.take k) ++ [l[k].rank.toNat] := by unfold ranksOf; rw [List.take_add_one, hx, List.map_append]; rfl
      have hlk : (ranksOf (l.take k)).length = k := by simp [ranksOf]; omega
      generalize ranksOf (l.take k) = rl at *
      generalize l[k] = x at *
      obtain ⟨name, rank⟩ := x
      simp only at *
      obtain ⟨r, rfl⟩ : ∃ r : Nat, rank = (r : Int) := ⟨rank.toNat, by omega⟩
      have h4 : r ≤ 4 := by omega
      rw [Int.toNat_natCast] at hsnoc
      have HS := Lib.hid hsnoc
      have HL := Lib.hid hlk
      have hmake := HMK.out ((wr.alloc (.cells #[.string name, .int .i64 (r : Int)] 98))) r h4
      have hvl : ∀ b, u3.ownBlock = some b → w.heap.size ≤ b ∧ b < wr.heap.size := fun b hb => World.ownsRow.lt hrr.own b hb
      have hbx : Blk ((wr.alloc (.cells #[.string name, .int .i64 (r : Int)] 98)).alloc (.cells (madeCells #[.slice none 0 0] r) 62)) (wr.heap.size + 1) 62 (madeCells #[.slice none 0 0] r) := by
        simpa using Blk.new (wr.alloc (.cells #[.string name, .int .i64 (r : Int)] 98)) 62 (madeCells #[.slice none 0 0] r)
      have hk1 : ∀ b, b < wr.heap.size → ((wr.alloc (.cells #[.string name, .int .i64 (r : Int)] 98)).alloc (.cells (madeCells #[.slice none 0 0] r) 62)).heap[b]? = wr.heap[b]? := fun b hb => by
        rw [Below.heap_alloc _ _ _ (by simp; omega), Below.heap_alloc _ _ _ hb]
      have hmz : (Value.agg #[Value.slice none 0 0]).cells = #[.slice none 0 0] := rfl
      rw [hmz] at hmake
      have hown1 : ((wr.alloc (.cells #[.string name, .int .i64 (r : Int)] 98)).alloc (.cells (madeCells #[.slice none 0 0] r) 62)).ownsRow w.heap.size 62 1 u3 rl.length us := owns_kept3 hrr.own (fun b hb => hk1 b (hvl b hb).2)
      have hw2z : ((wr.alloc (.cells #[.string name, .int .i64 (r : Int)] 98)).alloc (.cells (madeCells #[.slice none 0 0] r) 62)).heap.size = wr.heap.size + 2 := by simp
      generalize hmc : madeCells #[Value.slice none 0 0] r = mc at *
      have HMC := Lib.hid hmc
      clear hx hel hsnoc hlk hmz hmc
      have HW2 := Lib.hid hw2z
      clear hw2z
      go_wp2_with
        (at_builtin
         refine wpList_append_lies _ rfl _ _ _ rfl w.heap.size 62 i0 _ 1 24 Tryz.underlying60 hi0 hz0 HZ1.out HZ2.out rfl (by omega) u3 _ us (by rfl) (hown1.alloc _)
           ⟨wr.heap.size + 1 + 1, 0, none⟩ 1 1 [.slice (some ⟨wr.heap.size + 1, 0, none⟩) r r] (by rfl) (by rfl) (World.news_of_block (cs := #[.slice (some ⟨wr.heap.size + 1, 0, none⟩) r r]) (t := 62) (fr := (0, 0)) (by simpa using heap_alloc_new ((wr.alloc (.cells #[.string name, .int .i64 (r : Int)] 98)).alloc (.cells mc 62)) _)) (fun u hu => by rw [List.mem_singleton.1 hu]; rfl) (by omega) (by rw [HL.out]; simp only [maxLen]; omega) (by rw [HL.out]; omega) (by simp; omega) (wr.heap.size + 2 + 1) (by simp) ?_
         intro gg cap2 w3 hown3 hgrow hat3 hlt3)
      go_roundw
      case rel =>
        refine ⟨k + 1, us ++ [.slice (some ⟨wr.heap.size + 1, 0, none⟩) r r], by omega, by go_num, ?_, ?_⟩
        · rw [HS.out]
          exact hrr.push (gx := wr.heap.size + 1) (by omega) hk1 (by rw [HW2.out]; omega) (by omega) (by rw [HW2.out]; omega) (by rw [HMC.out]; exact hbx) hown3 hgrow (by rw [HW2.out]; exact hat3)
        · exact (((hbel.alloc (by omega) _).alloc (by simp; omega) _).alloc (by simp; omega) _).grown hgrow (by simp; omega) (fun b hb => (hvl b hb).1)
      case measure => simp [intOf]; omega
    · have hll : l.take k = l := List.take_of_length_le (by omega)
      rw [hll] at hrr
      clear hll
      go_wp2_with fail
      go_ret
      exact ⟨_, _, rfl, hrr, hbel⟩

theorem head_results {tmps : Array Value} {w : World} {a : Nat} {x u : Value} (h2 : tmps.getD 4 undef = .pointer (some ⟨a, 0, none⟩)) (h3 : tmps.getD 5 undef = u)
    (ha : Blk w a 62 #[x]) : (results Tryz.f137 tmps).run Tryz.prog w = .ok (.tuple #[.agg #[x], u]) w := by
  have h4 := ha.cell 0
  simp at h4
  have h2' : tmps[4]?.getD undef = .pointer (some ⟨a, 0, none⟩) := by simpa using h2
  have h3' : tmps[5]?.getD undef = u := by simpa using h3
  simp [results, Tryz.results137, go_sem, h2', h3', h4]
/-- Three lists of sorts: two below block h, the third one between blocks lo2 and h2. -/
structure Heads (h lo2 h2 : Nat) (l0 l1 l2 : List S) (p0 p1 p2 : Value) (w : World) : Prop where
  i0 : (S.mk l0).In w 0 h p0
  i1 : (S.mk l1).In w 0 h p1
  i2 : (S.mk l2).In w lo2 h2 p2
  hh : h ≤ w.heap.size
  hh2 : h2 ≤ w.heap.size
theorem Heads.below {h lo2 h2 : Nat} {l0 l1 l2 : List S} {p0 p1 p2 : Value} {w w' : World} (hs : Heads h lo2 h2 l0 l1 l2 p0 p1 p2 w) (hb : Below w.heap.size w w') : Heads h lo2 h2 l0 l1 l2 p0 p1 p2 w' :=
  ⟨hs.i0.below hb hs.hh, hs.i1.below hb hs.hh, hs.i2.below hb hs.hh2, Nat.le_trans hs.hh hb.size, Nat.le_trans hs.hh2 hb.size⟩
/-- Where heads' sorts lie. -/
def HeadsR (h lo2 h2 lo hi : Nat) : Prop := (lo = 0 ∧ hi = h) ∨ (lo = lo2 ∧ hi = h2)

set_option maxRecDepth 100000 in
set_option maxHeartbeats 3200000 in
theorem head_any (h lo2 h2 : Nat) (l0 l1 l2 : List S) (p0 p1 p2 : Value) (x : T) (v : Value) (w : World) (P : Nat → Prop) (hs : Heads h lo2 h2 l0 l1 l2 p0 p1 p2 w) (hin : x.In w P v) (_hold : Old P w) :
    Calls Tryz.prog 137 #[.agg #[p0, p1, p2], .agg #[.int .i64 x.kind, .int .i64 x.num, v]] w (Found (HeadsR h lo2 h2) (pickH l0 l1 l2 x.kind x.num) w) := by
  have hs' := hs
  obtain ⟨g0, g1, g2, hh, hh2⟩ := hs
  simp only [S.In] at g0 g1 g2
  obtain ⟨A0, n0, c0, rfl, hn0, hc0, hm0, a0⟩ := g0
  obtain ⟨A1, n1, c1, rfl, hn1, hc1, hm1, a1⟩ := g1
  obtain ⟨A2, n2, c2, rfl, hn2, hc2, hm2, a2⟩ := g2
  obtain ⟨A, n, c, rfl⟩ := hin.form
  obtain ⟨kd, nm, l⟩ := x
  simp only [T.kind, T.num]
  have hw3 : Below w.heap.size w (((w.alloc (.cells #[.slice A0 n0 c0, .slice A1 n1 c1, .slice A2 n2 c2] 145)).alloc (.cells #[.int .i64 kd, .int .i64 nm, .slice A n c] 34)).alloc (.cells #[.slice none 0 0] 62)) := (((Below.refl _ _).alloc (Nat.le_refl _) _).alloc (by simp) _).alloc (by simp; omega) _
  have bR : Blk (((w.alloc (.cells #[.slice A0 n0 c0, .slice A1 n1 c1, .slice A2 n2 c2] 145)).alloc (.cells #[.int .i64 kd, .int .i64 nm, .slice A n c] 34)).alloc (.cells #[.slice none 0 0] 62)) (w.heap.size + 1 + 1) 62 #[.slice none 0 0] := by
    simpa using Blk.new ((w.alloc (.cells #[.slice A0 n0 c0, .slice A1 n1 c1, .slice A2 n2 c2] 145)).alloc (.cells #[.int .i64 kd, .int .i64 nm, .slice A n c] 34)) 62 #[.slice none 0 0]
  by_cases k0 : kd < 0
  · have HF : Hid (pickH l0 l1 l2 kd nm = none) := Lib.hid (by
      have h1 : kd ≠ 0 := by omega
      have h2 : kd ≠ 1 := by omega
      have h3 : kd ≠ 2 := by omega
      simp [pickH, h1, h2, h3])
    have e1 : decide (kd < 0) = true := decide_eq_true k0
    clear hn0 hn1 hn2
    go_enter Tryz.func137, Tryz.ntmps137
    go_wp2_with fail
    go_quiet (fail)
    go_wp2
    rw [HF.out]
    exact bodyPost_ret (head_results rfl rfl ((bR.drewN _).set_ 0 _)) rfl ⟨_, rfl, S.At_nil, (below_drewN hw3 _).setCell (by simp; omega) _⟩
  · have e1 : decide (kd < 0) = false := decide_eq_false k0
    by_cases k3 : 3 ≤ kd
    · have HF : Hid (pickH l0 l1 l2 kd nm = none) := Lib.hid (by
        have h1 : kd ≠ 0 := by omega
        have h2 : kd ≠ 1 := by omega
        have h3 : kd ≠ 2 := by omega
        simp [pickH, h1, h2, h3])
      have e2 : decide (3 ≤ kd) = true := decide_eq_true k3
      clear hn0 hn1 hn2
      go_enter Tryz.func137, Tryz.ntmps137
      go_wp2_with fail
      go_quiet (fail)
      go_wp2
      rw [HF.out]
      exact bodyPost_ret (head_results rfl rfl ((bR.drewN _).set_ 0 _)) rfl ⟨_, rfl, S.At_nil, (below_drewN hw3 _).setCell (by simp; omega) _⟩
    · have e2 : decide (3 ≤ kd) = false := decide_eq_false k3
      by_cases hneg : nm < 0
      · have HF : Hid (pickH l0 l1 l2 kd nm = none) := Lib.hid (by simp [pickH, hneg])
        have e3 : decide (nm < 0) = true := decide_eq_true hneg
        clear hn0 hn1 hn2
        go_enter Tryz.func137, Tryz.ntmps137
        go_wp2_with fail
        go_quiet (fail)
        go_wp2
        rw [HF.out]
        exact bodyPost_ret (head_results rfl rfl ((bR.drewN _).set_ 0 _)) rfl ⟨_, rfl, S.At_nil, (below_drewN hw3 _).setCell (by simp; omega) _⟩
      · obtain ⟨j, rfl⟩ : ∃ j : Nat, nm = (j : Int) := ⟨nm.toNat, by omega⟩
        have e3 : decide ((j : Int) < 0) = false := decide_eq_false (by omega)
        have hkk : kd = 0 ∨ kd = 1 ∨ kd = 2 := by omega
        clear e1 e2 k0 k3 hneg
        rcases hkk with rfl | rfl | rfl
        · by_cases hj : n0 ≤ j
          · have HF : Hid (pickH l0 l1 l2 0 (j : Int) = none) := Lib.hid (by simp [pickH]; omega)
            have e4 : decide (n0 ≤ j) = true := decide_eq_true hj
            clear hn0 hn1 hn2
            go_enter Tryz.func137, Tryz.ntmps137
            go_wp2_with fail
            go_quiet (fail)
            go_wp2
            rw [HF.out]
            exact bodyPost_ret (head_results rfl rfl ((bR.drewN _).set_ 0 _)) rfl ⟨_, rfl, S.At_nil, (below_drewN hw3 _).setCell (by simp; omega) _⟩
          · skip
            have hlt : j < l0.length := by omega
            have hx : l0[j]? = some l0[j] := List.getElem?_eq_getElem hlt
            have HF : Hid (pickH l0 l1 l2 0 (j : Int) = some l0[j]) := Lib.hid (by simp [pickH, hlt])
            obtain ⟨ad, u, rfl, _, hlt2, hcl, hinx⟩ := a0.at_ hx
            rw [Nat.zero_add] at hcl
            have hcl3 := (hw3.cell (p := ad.add j) (by rw [block_of_add]; omega)).trans hcl
            obtain ⟨A7, n7, c7, rfl⟩ := hinx.form
            have hin7 := hinx.below hw3 hh
            generalize l0[j] = y at *
            have hjn : j < n0 := by omega
            have e4 : decide (n0 ≤ j) = false := decide_eq_false (by omega)
            clear hx hcl hn0 hn1 hn2
            go_enter Tryz.func137, Tryz.ntmps137
            go_wp2_with fail
            go_quiet (fail)
            go_wp2
            go_region
            go_wp2
            rw [HF.out]
            exact bodyPost_ret (head_results rfl rfl (((bR.drewN _).set_ 0 _))) rfl ⟨_, rfl, ⟨0, h, S.In_set (S.In_drewN hin7 _) (.inr (by omega)), .inl (.inl ⟨rfl, rfl⟩), by simp [World.setCell]; omega⟩, (below_drewN hw3 _).setCell (by simp; omega) _⟩
        · by_cases hj : n1 ≤ j
          · have HF : Hid (pickH l0 l1 l2 1 (j : Int) = none) := Lib.hid (by simp [pickH]; omega)
            have e4 : decide (n1 ≤ j) = true := decide_eq_true hj
            clear hn0 hn1 hn2
            go_enter Tryz.func137, Tryz.ntmps137
            go_wp2_with fail
            go_quiet (fail)
            go_wp2
            rw [HF.out]
            exact bodyPost_ret (head_results rfl rfl ((bR.drewN _).set_ 0 _)) rfl ⟨_, rfl, S.At_nil, (below_drewN hw3 _).setCell (by simp; omega) _⟩
          · skip
            have hlt : j < l1.length := by omega
            have hx : l1[j]? = some l1[j] := List.getElem?_eq_getElem hlt
            have HF : Hid (pickH l0 l1 l2 1 (j : Int) = some l1[j]) := Lib.hid (by simp [pickH, hlt])
            obtain ⟨ad, u, rfl, _, hlt2, hcl, hinx⟩ := a1.at_ hx
            rw [Nat.zero_add] at hcl
            have hcl3 := (hw3.cell (p := ad.add j) (by rw [block_of_add]; omega)).trans hcl
            obtain ⟨A7, n7, c7, rfl⟩ := hinx.form
            have hin7 := hinx.below hw3 hh
            generalize l1[j] = y at *
            have hjn : j < n1 := by omega
            have e4 : decide (n1 ≤ j) = false := decide_eq_false (by omega)
            clear hx hcl hn0 hn1 hn2
            go_enter Tryz.func137, Tryz.ntmps137
            go_wp2_with fail
            go_quiet (fail)
            go_wp2
            go_region
            go_wp2
            rw [HF.out]
            exact bodyPost_ret (head_results rfl rfl (((bR.drewN _).set_ 0 _))) rfl ⟨_, rfl, ⟨0, h, S.In_set (S.In_drewN hin7 _) (.inr (by omega)), .inl (.inl ⟨rfl, rfl⟩), by simp [World.setCell]; omega⟩, (below_drewN hw3 _).setCell (by simp; omega) _⟩
        · by_cases hj : n2 ≤ j
          · have HF : Hid (pickH l0 l1 l2 2 (j : Int) = none) := Lib.hid (by simp [pickH]; omega)
            have e4 : decide (n2 ≤ j) = true := decide_eq_true hj
            clear hn0 hn1 hn2
            go_enter Tryz.func137, Tryz.ntmps137
            go_wp2_with fail
            go_quiet (fail)
            go_wp2
            rw [HF.out]
            exact bodyPost_ret (head_results rfl rfl ((bR.drewN _).set_ 0 _)) rfl ⟨_, rfl, S.At_nil, (below_drewN hw3 _).setCell (by simp; omega) _⟩
          · skip
            have hlt : j < l2.length := by omega
            have hx : l2[j]? = some l2[j] := List.getElem?_eq_getElem hlt
            have HF : Hid (pickH l0 l1 l2 2 (j : Int) = some l2[j]) := Lib.hid (by simp [pickH, hlt])
            obtain ⟨ad, u, rfl, _, hlt2, hcl, hinx⟩ := a2.at_ hx
            rw [Nat.zero_add] at hcl
            have hcl3 := (hw3.cell (p := ad.add j) (by rw [block_of_add]; omega)).trans hcl
            obtain ⟨A7, n7, c7, rfl⟩ := hinx.form
            have hin7 := hinx.below hw3 hh2
            generalize l2[j] = y at *
            have hjn : j < n2 := by omega
            have e4 : decide (n2 ≤ j) = false := decide_eq_false (by omega)
            clear hx hcl hn0 hn1 hn2
            go_enter Tryz.func137, Tryz.ntmps137
            go_wp2_with fail
            go_quiet (fail)
            go_wp2
            go_region
            go_wp2
            rw [HF.out]
            exact bodyPost_ret (head_results rfl rfl (((bR.drewN _).set_ 0 _))) rfl ⟨_, rfl, ⟨lo2, h2, S.In_set (S.In_drewN hin7 _) (.inr (by omega)), .inl (.inr ⟨rfl, rfl⟩), by simp [World.setCell]; omega⟩, (below_drewN hw3 _).setCell (by simp; omega) _⟩
end Go.Proofs.YtbbejhhohppdhaaGreatDoor

namespace Go.Proofs.YtbbejhhohppdhaaGreatDoor
open Go.RowKit

def symS (x : Sy) : S := rankS x.rank.toNat
/-- The sort of a head in a place. -/
def Pl.pick (p : Pl) : Int → Int → Option S := pickH p.params p.funs (p.syms.map symS)
theorem ranks_symS (l : List Sy) : (ranksOf l).map rankS = l.map symS := by simp [ranksOf, symS]
theorem Pl.ok_parts {p : Pl} (h : p.ok = true) : p.syms.length ≤ 24 ∧ (∀ x ∈ p.syms, 0 ≤ x.rank ∧ x.rank ≤ 4) ∧ p.funs.all S.ok = true ∧ p.params.all S.ok = true ∧ p.params.length ≤ 8 := by
  simp only [Pl.ok, symsB, sortsB, Bool.and_eq_true, decide_eq_true_eq] at h
  refine ⟨h.1.1, fun x hx => ?_, h.2.1.2, h.2.2.2, h.2.2.1⟩
  obtain ⟨k, hk⟩ := List.getElem?_of_mem hx
  cases h1 : syOk1 p.syms k x with
  | true =>
    simp only [syOk1, Bool.and_eq_true, rankB, decide_eq_true_eq] at h1
    exact h1.2.2
  | false =>
    have := syOk_false hk h1
    rw [h.1.2] at this; cases this
theorem S.fewL_drop : ∀ (l : List S) (k : Nat), S.fewL l = true → S.fewL (l.drop k) = true
  | [], k, h => by simpa using h
  | x :: r, 0, h => by simpa using h
  | x :: r, k + 1, h => by
    simp only [S.fewL, Bool.and_eq_true] at h
    simpa using S.fewL_drop r k h.2
theorem S.deepL_drop : ∀ (l : List S) (k : Nat), S.deepL (l.drop k) ≤ S.deepL l
  | [], k => by simp
  | x :: r, 0 => by simp
  | x :: r, k + 1 => by have := S.deepL_drop r k; simp [S.deepL]; omega
theorem S.ok_drop {l : List S} (k : Nat) (h : (S.mk l).ok = true) : (S.mk (l.drop k)).ok = true := by
  have e1 : ∀ m : List S, (S.mk m).ok = true ↔ (1 + S.countL m ≤ 60 ∧ S.deepL m + 1 ≤ 30) ∧ S.fewL m = true ∧ m.length ≤ 8 := fun m => by
    unfold S.ok
    rw [Bool.and_eq_true, Bool.and_eq_true, decide_eq_true_eq, decide_eq_true_eq, show (S.mk m).few = (S.fewL m && decide (m.length ≤ 8)) from rfl, Bool.and_eq_true, decide_eq_true_eq]
    rfl
  rw [e1] at h ⊢
  have h1 := S.countL_dropLe l k
  have h2 := S.deepL_drop l k
  obtain ⟨⟨ha, hb⟩, hc, hd⟩ := h
  refine ⟨⟨by omega, by omega⟩, S.fewL_drop l k hc, by rw [List.length_drop]; omega⟩
theorem S.ok_rank {r : Nat} (h : r ≤ 4) : (rankS r).ok = true := by
  match r, h with
  | 0, _ => decide
  | 1, _ => decide
  | 2, _ => decide
  | 3, _ => decide
  | 4, _ => decide
theorem all_at {l : List S} (h : l.all S.ok = true) {k : Nat} {x : S} (hx : l[k]? = some x) : x.ok = true := List.all_eq_true.1 h x (List.mem_of_getElem? hx)
theorem Pl.pick_ok {p : Pl} (h : p.ok = true) {k n : Int} {s : S} (hs : p.pick k n = some s) : s.ok = true := by
  obtain ⟨_, h2, h3, h4, _⟩ := Pl.ok_parts h
  simp only [Pl.pick, pickH] at hs
  split at hs
  · cases hs
  split at hs
  · exact all_at h4 hs
  split at hs
  · exact all_at h3 hs
  split at hs
  · rw [List.getElem?_map, Option.map_eq_some_iff] at hs
    obtain ⟨x, hx, rfl⟩ := hs
    have := h2 x (List.mem_of_getElem? hx)
    exact S.ok_rank (by omega)
  · cases hs
theorem T.ty_ok {pick : Int → Int → Option S} (hp : ∀ k n s, pick k n = some s → s.ok = true) : ∀ {t : T} {s : S}, t.ty pick = some s → s.ok = true
  | .mk k n l, s, h => by
    simp only [T.ty] at h
    cases hk : pick k n with
    | none => rw [hk] at h; cases h
    | some a =>
      rw [hk] at h
      have ha := hp _ _ _ hk
      obtain ⟨q⟩ := a
      simp only at h
      split at h
      · cases h
        exact S.ok_drop _ ha
      · cases h

theorem headsOf_results {tmps : Array Value} {w : World} {a : Nat} {x y z : Value} (h2 : tmps.getD 2 undef = .pointer (some ⟨a, 0, none⟩))
    (ha : Blk w a 145 #[x, y, z]) : (results Tryz.f95 tmps).run Tryz.prog w = .ok (.agg #[x, y, z]) w := by
  have h4 := ha.cell 0
  have h5 := ha.cell 1
  have h6 := ha.cell 2
  simp at h4 h5 h6
  have h2' : tmps[2]?.getD undef = .pointer (some ⟨a, 0, none⟩) := by simpa using h2
  simp [results, Tryz.results95, go_sem, h2', h4, h5, h6]

set_option maxRecDepth 100000 in
set_option maxHeartbeats 1600000 in
theorem headsOf_any (p : Pl) (v0 v1 v2 : Value) (w : World) (hi : Nat) (hok : p.ok = true) (hin : PlIn w 0 hi p v0 v1 v2) (hhi : hi ≤ w.heap.size) :
    Calls Tryz.prog 95 #[.agg #[v0, v1, v2]] w fun e w' => ∃ u, e = .returned (.agg #[v2, v1, u]) ∧ (S.mk (p.syms.map symS)).In w' w.heap.size w'.heap.size u ∧ Below w.heap.size w w' := by
  obtain ⟨h24, hrk, _⟩ := Pl.ok_parts hok
  obtain ⟨A0, n0, c0, rfl⟩ := hin.s.form
  obtain ⟨A1, n1, c1, rfl⟩ := hin.f.form
  obtain ⟨A2, n2, c2, rfl⟩ := hin.r.form
  have hw2 : Below w.heap.size w ((w.alloc (.cells #[.slice A0 n0 c0, .slice A1 n1 c1, .slice A2 n2 c2] 76)).alloc (.cells #[.slice none 0 0, .slice none 0 0, .slice none 0 0] 145)).drew := (((Below.refl _ _).alloc (Nat.le_refl _) _).alloc (by simp) _).drew
  have bA : Blk ((w.alloc (.cells #[.slice A0 n0 c0, .slice A1 n1 c1, .slice A2 n2 c2] 76)).alloc (.cells #[.slice none 0 0, .slice none 0 0, .slice none 0 0] 145)).drew w.heap.size 76 #[.slice A0 n0 c0, .slice A1 n1 c1, .slice A2 n2 c2] := ((Blk.new _ _ _).alloc _).drew
  have bB : Blk ((w.alloc (.cells #[.slice A0 n0 c0, .slice A1 n1 c1, .slice A2 n2 c2] 76)).alloc (.cells #[.slice none 0 0, .slice none 0 0, .slice none 0 0] 145)).drew (w.heap.size + 1) 145 #[.slice none 0 0, .slice none 0 0, .slice none 0 0] := by
    have := (Blk.new (w.alloc (.cells #[.slice A0 n0 c0, .slice A1 n1 c1, .slice A2 n2 c2] 76)) 145 #[.slice none 0 0, .slice none 0 0, .slice none 0 0]).drew
    simpa using this
  have HC := Lib.hid (symbolSorts_any p.syms _ _ _ (hin.below hw2 hhi).s (fun b hb => by have := hw2.size; omega) h24 hrk)
  go_enter Tryz.func95, Tryz.ntmps95
  go_wp2_with fail
  go_region_held3 (fun w' => w'.cell? ⟨w.heap.size, 0, none⟩ = some (.slice A0 n0 c0) ∧ w'.cell? ⟨w.heap.size, 1, none⟩ = some (.slice A1 n1 c1) ∧ w'.cell? ⟨w.heap.size, 2, none⟩ = some (.slice A2 n2 c2)) (first | go_keep | assumption)
    (first
      | (go_at_call 136
         refine HC.out.mono ?_
         rintro e w1 ⟨v3, us, rfl, hrr, hb1⟩
         have hz1 := hb1.size
         have k1 := bA.below hb1 bA.lt
         have k2 := bB.below hb1 bB.lt
         have q0 := k1.cell 0
         have q1 := k1.cell 1
         have q2 := k1.cell 2
         have r0 := k2.cell 0
         have r1 := k2.cell 1
         have r2 := k2.cell 2
         have f0 := k2.frozen 0
         have f1 := k2.frozen 1
         have f2 := k2.frozen 2
         simp at q0 q1 q2 r0 r1 r2
         have Q : w1.cell? ⟨w.heap.size, 0, none⟩ = some (.slice A0 n0 c0) ∧ w1.cell? ⟨w.heap.size, 1, none⟩ = some (.slice A1 n1 c1) ∧ w1.cell? ⟨w.heap.size, 2, none⟩ = some (.slice A2 n2 c2) := ⟨q0, q1, q2⟩
         obtain ⟨A3, c3, rfl⟩ := hrr.form))
  go_wp2_with fail
  refine bodyPost_ret (headsOf_results rfl ((((k2.set_ 0 _).set_ 1 _).set_ 2 _).eq_ rfl)) rfl ⟨_, rfl, ?_, ?_⟩
  · have hzz : w.heap.size + 2 ≤ w1.heap.size := by simpa [World.drew] using hz1
    have hin1 := hrr.in_ (fun r hr => by
      unfold ranksOf at hr
      obtain ⟨x, hx, rfl⟩ := List.mem_map.1 hr
      have := hrk x hx
      omega)
    rw [ranks_symS] at hin1
    have hlo : ((w.alloc (.cells #[.slice A0 n0 c0, .slice A1 n1 c1, .slice A2 n2 c2] 76)).alloc (.cells #[.slice none 0 0, .slice none 0 0, .slice none 0 0] 145)).drew.heap.size = w.heap.size + 2 := by simp [World.drew]
    rw [hlo] at hin1
    exact S.In.more (by omega) (by simp [World.setCell]) _ (S.In_set (S.In_set (S.In_set hin1 (.inl (by omega))) (.inl (by omega))) (.inl (by omega)))
  · exact (((hw2.trans (hb1.mono (by simp [World.drew]; omega))).setCell (by simp) _).setCell (by simp) _).setCell (by simp) _

/-- What Sort answers. -/
def Pl.sortE (p : Pl) (t : T) : Int := if p.ok = true then (if t.large = true then 3 else if (t.ty p.pick).isSome = true then 0 else 6) else 2
def Pl.sortS (p : Pl) (t : T) : S := if p.sortE t = 0 then (t.ty p.pick).getD (.mk []) else .mk []
/-- A sort in new memory, and an error. -/
def GaveS (s : S) (E : Int) (w : World) (e : Ending) (w' : World) : Prop :=
  ∃ v, e = .returned (.tuple #[.agg #[v], .int .i64 E]) ∧ s.In w' w.heap.size w'.heap.size v ∧ Below w.heap.size w w'
/-- The list of a sort's arguments has an array of its own, from B on. -/
def TopS (B : Nat) (w : World) (s : S) (v : Value) : Prop := ∃ us, w.ownsRow B 62 1 v s.args.length us ∧ ∀ u ∈ us, ∃ A n c, u = .slice A n c ∧ n ≤ 1000
theorem S.len_le : ∀ l : List S, l.length ≤ S.countL l
  | [] => by simp
  | a :: r => by have := S.len_le r; have := a.count_pos; simp [S.countL]; omega
theorem SepL_slices {w : World} : ∀ (l : List S) {us : List Value} {fp : List Nat}, S.SepL w l us fp → S.countL l ≤ 1000 → ∀ u ∈ us, ∃ A n c, u = .slice A n c ∧ n ≤ 1000
  | [], us, fp, h, _, u, hu => by simp only [S.SepL] at h; simp [h.1] at hu
  | s :: r, us, fp, h, hc, u, hu => by
    simp only [S.SepL] at h
    obtain ⟨u1, ut, f1, f2, rfl, h1, h2, _⟩ := h
    simp only [S.countL] at hc
    rcases List.mem_cons.1 hu with rfl | hu
    · obtain ⟨l⟩ := s
      simp only [S.Sep] at h1
      obtain ⟨us1, rest, h3, _, _⟩ := h1
      have hl := S.len_le l
      simp only [S.count] at hc
      rcases h3.2 with ⟨rfl, h0⟩ | ⟨g, cap, cur, rfl, _⟩
      · exact ⟨none, 0, 0, rfl, by omega⟩
      · exact ⟨_, _, cap, rfl, by omega⟩
    · exact SepL_slices r h2 (by omega) u hu
theorem TopS.of {B : Nat} {w : World} {s : S} {v : Value} {fp : List Nat} (h : s.Sep w v fp) (hfp : ∀ b ∈ fp, B ≤ b ∧ b < w.heap.size) (hc : s.count ≤ 1000) : TopS B w s v := by
  obtain ⟨l⟩ := s
  simp only [S.Sep] at h
  obtain ⟨us, rest, h1, h2, rfl⟩ := h
  simp only [S.count] at hc
  refine ⟨us, ⟨h1.1, ?_⟩, SepL_slices l h2 (by omega)⟩
  rcases h1.2 with h3 | ⟨g, cap, cur, rfl, _, h4⟩
  · exact .inl h3
  · exact .inr ⟨g, cap, cur, rfl, (hfp g (by simp [Value.ownBlock])).1, h4⟩
theorem TopS.set_ {B : Nat} {w : World} {s : S} {v : Value} (h : TopS B w s v) {p : Addr} (hp : p.block < B) (u : Value) : TopS B (w.setCell p u) s v := by
  obtain ⟨us, h1, h2⟩ := h
  exact ⟨us, owns_kept3 h1 (fun b hb => Below.heap_setCell w p u b (by have := (h1.lt b hb).1; omega)), h2⟩
theorem TopS.nil (B : Nat) (w : World) : TopS B w (.mk []) (.slice none 0 0) := ⟨[], ⟨by simp [S.args], .inl ⟨rfl, rfl⟩⟩, by simp⟩
theorem TopS.less {B B' : Nat} {w : World} {s : S} {v : Value} (h : TopS B w s v) (hb : B' ≤ B) : TopS B' w s v := by
  obtain ⟨us, h1, h2⟩ := h
  exact ⟨us, owns_less h1 hb, h2⟩
/-- .. and its arguments' list is an array of its own. -/
def GaveP (s : S) (E : Int) (w : World) (e : Ending) (w' : World) : Prop :=
  ∃ v, e = .returned (.tuple #[.agg #[v], .int .i64 E]) ∧ s.In w' w.heap.size w'.heap.size v ∧ Below w.heap.size w w' ∧ TopS w.heap.size w' s v
theorem sortTop_results {tmps : Array Value} {w : World} {a : Nat} {x u : Value} (h2 : tmps.getD 4 undef = .pointer (some ⟨a, 0, none⟩)) (h3 : tmps.getD 5 undef = u)
    (ha : Blk w a 62 #[x]) : (results Tryz.f43 tmps).run Tryz.prog w = .ok (.tuple #[.agg #[x], u]) w := by
  have h4 := ha.cell 0
  simp at h4
  have h2' : tmps[4]?.getD undef = .pointer (some ⟨a, 0, none⟩) := by simpa using h2
  have h3' : tmps[5]?.getD undef = u := by simpa using h3
  simp [results, Tryz.results43, go_sem, h2', h3', h4]
/-- A place and a term, their boxes, and a box for the result, kept. -/
structure SortCtx (ty : Nat) (p : Pl) (v0 v1 v2 : Value) (hi : Nat) (t : T) (v : Value) (P : Nat → Prop) (B : Nat) (w0 w : World) : Prop where
  bP : Blk w B ty #[v0, v1, v2]
  bT : Blk w (B + 1) 34 #[.int .i64 t.kind, .int .i64 t.num, v]
  bR : Blk w (B + 1 + 1) 62 #[.slice none 0 0]
  iP : PlIn w 0 hi p v0 v1 v2
  lh : hi ≤ w.heap.size
  iT : t.In w P v
  oT : Old P w
  bel : Below B w0 w
  pB : ∀ b, P b → b < B
  hB : hi ≤ B
theorem SortCtx.set {ty : Nat} {p : Pl} {v0 v1 v2 : Value} {hi : Nat} {t : T} {v : Value} {P : Nat → Prop} {B : Nat} {w0 w : World} (h : SortCtx ty p v0 v1 v2 hi t v P B w0 w) {b : Nat} (hb : B + 1 + 1 < b) (u : Value) : SortCtx ty p v0 v1 v2 hi t v P B w0 (w.setCell ⟨b, 0, none⟩ u) := by
  have hbl : Below (B + 3) w (w.setCell ⟨b, 0, none⟩ u) := (Below.refl _ _).setCell (by simp; omega) u
  have hz := h.bR.lt
  refine ⟨h.bP.below hbl (by omega), h.bT.below hbl (by omega), h.bR.below hbl (by omega), h.iP.below hbl (by have := h.hB; omega), by simpa [World.setCell] using h.lh, h.iT.below hbl (fun b hb' => by have := h.pB b hb'; omega), fun b hb' => by simpa [World.setCell] using h.oT b hb', h.bel.trans (hbl.mono (by omega)), h.pB, h.hB⟩
theorem SortCtx.next {ty : Nat} {p : Pl} {v0 v1 v2 : Value} {hi : Nat} {t : T} {v : Value} {P : Nat → Prop} {B : Nat} {w0 w w' : World} (h : SortCtx ty p v0 v1 v2 hi t v P B w0 w) (hb : Below w.heap.size w w') : SortCtx ty p v0 v1 v2 hi t v P B w0 w' :=
  ⟨h.bP.below hb h.bP.lt, h.bT.below hb h.bT.lt, h.bR.below hb h.bR.lt, h.iP.below hb h.lh, Nat.le_trans h.lh hb.size, h.iT.old h.oT hb, h.oT.bel hb, h.bel.trans (hb.mono (by have := h.bP.lt; omega)), h.pB, h.hB⟩
theorem SortCtx.start {ty : Nat} {p : Pl} {v0 v1 v2 : Value} {hi : Nat} {t : T} {v : Value} {P : Nat → Prop} {w : World} (hp : PlIn w 0 hi p v0 v1 v2) (hhi : hi ≤ w.heap.size) (hin : t.In w P v) (hold : Old P w) :
    SortCtx ty p v0 v1 v2 hi t v P w.heap.size w (((w.alloc (.cells #[v0, v1, v2] ty)).alloc (.cells #[.int .i64 t.kind, .int .i64 t.num, v] 34)).alloc (.cells #[.slice none 0 0] 62)) := by
  have hw3 : Below w.heap.size w (((w.alloc (.cells #[v0, v1, v2] ty)).alloc (.cells #[.int .i64 t.kind, .int .i64 t.num, v] 34)).alloc (.cells #[.slice none 0 0] 62)) := (((Below.refl _ _).alloc (Nat.le_refl _) _).alloc (by simp) _).alloc (by simp; omega) _
  refine ⟨((Blk.new _ _ _).alloc _).alloc _, ?_, ?_, hp.below hw3 hhi, by simp; omega, hin.old hold hw3, hold.bel hw3, hw3, hold, hhi⟩
  · simpa using (Blk.new (w.alloc (.cells #[v0, v1, v2] ty)) 34 #[.int .i64 t.kind, .int .i64 t.num, v]).alloc (.cells #[.slice none 0 0] 62)
  · simpa using Blk.new ((w.alloc (.cells #[v0, v1, v2] ty)).alloc (.cells #[.int .i64 t.kind, .int .i64 t.num, v] 34)) 62 #[.slice none 0 0]

set_option maxRecDepth 100000 in
set_option maxHeartbeats 3200000 in
theorem termSort_own (p : Pl) (v0 v1 v2 : Value) (t : T) (v : Value) (w : World) (hi : Nat) (P : Nat → Prop) (hp : PlIn w 0 hi p v0 v1 v2) (hhi : hi ≤ w.heap.size) (hin : t.In w P v) (hold : Old P w) :
    Calls Tryz.prog 43 #[.agg #[v0, v1, v2], .agg #[.int .i64 t.kind, .int .i64 t.num, v]] w (GaveP (p.sortS t) (p.sortE t) w) := by
  have k0 := SortCtx.start (ty := 76) hp hhi hin hold
  obtain ⟨A0, n0, c0, rfl⟩ := hp.s.form
  obtain ⟨A1, n1, c1, rfl⟩ := hp.f.form
  obtain ⟨A2, n2, c2, rfl⟩ := hp.r.form
  obtain ⟨A, n, c, rfl⟩ := hin.form
  have HC := Lib.hid (placeCheck_any p _ _ _ _ 0 hi k0.iP k0.lh)
  cases hok : p.ok with
  | false =>
    have HE : Hid (p.sortE t = 2) := Lib.hid (by simp [Pl.sortE, hok])
    have HT : Hid (p.sortS t = .mk []) := Lib.hid (by simp [Pl.sortS, HE.out])
    rw [hok] at HC
    have hae : argErr false = 2 := rfl
    rw [hae] at HC
    clear hok hae
    go_enter Tryz.func43, Tryz.ntmps43
    go_wp2_with fail
    refine HC.out.mono ?_
    rintro e w1 ⟨rfl, hb1⟩
    have k1 := k0.next hb1
    have q0 := k1.bR.cell 0
    have q1 := k1.bR.frozen 0
    clear k0 hb1
    go_wp2_with fail
    rw [HE.out, HT.out]
    exact bodyPost_ret (sortTop_results rfl rfl (k1.bR.set_ 0 _)) rfl ⟨_, rfl, S.In_nil, k1.bel.setCell (by simp; omega) _, TopS.nil _ _⟩
  | true =>
    have HOK := Lib.hid hok
    rw [hok] at HC
    have hae : argErr true = 0 := rfl
    rw [hae] at HC
    cases hlg : t.large with
    | true =>
      have HE : Hid (p.sortE t = 3) := Lib.hid (by simp [Pl.sortE, hok, hlg])
      have HT : Hid (p.sortS t = .mk []) := Lib.hid (by simp [Pl.sortS, HE.out])
      have HG := Lib.hid hlg
      clear hok hae hlg
      go_enter Tryz.func43, Tryz.ntmps43
      go_wp2_with fail
      refine HC.out.mono ?_
      rintro e w1 ⟨rfl, hb1⟩
      have k1 := k0.next hb1
      have a0 := k1.bT.cell 0
      have a1 := k1.bT.cell 1
      have a2 := k1.bT.cell 2
      have HL := Lib.hid (tooLarge_any t _ _ P k1.iT k1.oT)
      rw [HG.out] at HL
      clear k0 hb1
      go_wp2_with fail
      refine HL.out.mono ?_
      rintro e w2 ⟨rfl, hb2⟩
      have k2 := k1.next hb2
      have q0 := k2.bR.cell 0
      have q1 := k2.bR.frozen 0
      clear k1 hb2 a0 a1 a2
      go_wp2_with fail
      rw [HE.out, HT.out]
      exact bodyPost_ret (sortTop_results rfl rfl (k2.bR.set_ 0 _)) rfl ⟨_, rfl, S.In_nil, k2.bel.setCell (by simp; omega) _, TopS.nil _ _⟩
    | false =>
      have HG := Lib.hid hlg
      have HTOK := Lib.hid (fun (s : S) (h : t.ty p.pick = some s) => T.ty_ok (fun _ _ _ hs => Pl.pick_ok hok hs) h)
      have HSM := Lib.hid (fun (k n : Int) (s : S) (h : p.pick k n = some s) => S.ok_count (Pl.pick_ok hok h))
      cases hty : t.ty p.pick with
      | none =>
        have HE : Hid (p.sortE t = 6) := Lib.hid (by simp [Pl.sortE, hok, hlg, hty])
        have HT : Hid (p.sortS t = .mk []) := Lib.hid (by simp [Pl.sortS, HE.out])
        have HTY := Lib.hid hty
        clear hty
        clear hok hae hlg
        go_enter Tryz.func43, Tryz.ntmps43
        go_wp2_with fail
        refine HC.out.mono ?_
        rintro e w1 ⟨rfl, hb1⟩
        have k1 := k0.next hb1
        have a0 := k1.bT.cell 0
        have a1 := k1.bT.cell 1
        have a2 := k1.bT.cell 2
        have HL := Lib.hid (tooLarge_any t _ _ P k1.iT k1.oT)
        rw [HG.out] at HL
        clear k0 hb1
        go_wp2_with fail
        refine HL.out.mono ?_
        rintro e w2 ⟨rfl, hb2⟩
        have k2 := k1.next hb2
        clear k1 hb2 a0 a1 a2
        have a0 := k2.bT.cell 0
        have a1 := k2.bT.cell 1
        have a2 := k2.bT.cell 2
        have b0 := k2.bP.cell 0
        have b1 := k2.bP.cell 1
        have b2 := k2.bP.cell 2
        have k2d : SortCtx 76 p (.slice A0 n0 c0) (.slice A1 n1 c1) (.slice A2 n2 c2) hi t (.slice A n c) P w.heap.size w w2.drew := k2.next ((Below.refl _ _).drew)
        have HH := Lib.hid (fun W (hbW : Below w2.heap.size w2 W) => headsOf_any p _ _ _ W hi HOK.out (k2.next hbW).iP (k2.next hbW).lh)
        have HKK := Lib.hid k2d
        clear k2d
        go_wp2_with fail
        go_region_held3 (fun w' => w'.cell? ⟨w.heap.size, 0, none⟩ = some (.slice A0 n0 c0) ∧ w'.cell? ⟨w.heap.size, 1, none⟩ = some (.slice A1 n1 c1) ∧ w'.cell? ⟨w.heap.size, 2, none⟩ = some (.slice A2 n2 c2) ∧ w'.cell? ⟨w.heap.size + 1, 0, none⟩ = some (.int .i64 t.kind) ∧ w'.cell? ⟨w.heap.size + 1, 1, none⟩ = some (.int .i64 t.num) ∧ w'.cell? ⟨w.heap.size + 1, 2, none⟩ = some (.slice A n c)) (first | go_keep | assumption)
          (first
            | (go_at_call 95
               refine (HH.out w2.drew ((Below.refl _ _).drew)).mono ?_
               rintro e w3 ⟨u3, rfl, hi3, hb3⟩
               have k3 := (k2.next ((Below.refl _ _).drew)).next hb3
               have kb0 : True := trivial
               have s0 := k3.bP.cell 0
               have s1 := k3.bP.cell 1
               have s2 := k3.bP.cell 2
               have s3 := k3.bT.cell 0
               have s4 := k3.bT.cell 1
               have s5 := k3.bT.cell 2
               simp at s0 s1 s2 s3 s4 s5
               have hu3 := hi3.form
               have hds : Heads hi w2.drew.heap.size w3.heap.size p.params p.funs (p.syms.map symS) (.slice A2 n2 c2) (.slice A1 n1 c1) u3 w3 := ⟨k3.iP.r, k3.iP.f, hi3, k3.lh, Nat.le_refl _⟩
               have HS := Lib.hid (fun W (hbW : Below w3.heap.size w3 W) => HTY.out ▸ sortT_any p.pick HSM.out (.slice A2 n2 c2) (.slice A1 n1 c1) u3 ⟨_, _, _, rfl⟩ ⟨_, _, _, rfl⟩ hu3 (fun W => Heads hi w2.drew.heap.size w3.heap.size p.params p.funs (p.syms.map symS) (.slice A2 n2 c2) (.slice A1 n1 c1) u3 W) (fun _ _ h hb => h.below hb) w3.heap.size (fun _ h => h.hh2) (HeadsR hi w2.drew.heap.size w3.heap.size) (fun lo h' hr => by have := k3.lh; rcases hr with ⟨_, e⟩ | ⟨_, e⟩ <;> omega) (fun x v W P h hx ho => head_any hi w2.drew.heap.size w3.heap.size p.params p.funs (p.syms.map symS) _ _ _ x v W P h hx ho) _ t _ W P (Nat.le_refl _) (hds.below hbW) (k3.next hbW).iT (k3.next hbW).oT)
               have Q : w3.cell? ⟨w.heap.size, 0, none⟩ = some (.slice A0 n0 c0) ∧ w3.cell? ⟨w.heap.size, 1, none⟩ = some (.slice A1 n1 c1) ∧ w3.cell? ⟨w.heap.size, 2, none⟩ = some (.slice A2 n2 c2) ∧ w3.cell? ⟨w.heap.size + 1, 0, none⟩ = some (.int .i64 t.kind) ∧ w3.cell? ⟨w.heap.size + 1, 1, none⟩ = some (.int .i64 t.num) ∧ w3.cell? ⟨w.heap.size + 1, 2, none⟩ = some (.slice A n c) := ⟨s0, s1, s2, s3, s4, s5⟩
               obtain ⟨A8, n8, c8, rfl⟩ := hu3
               clear s0 s1 s2 s3 s4 s5)
            | (go_at_call 95
               refine (HH.out (w2.alloc (.cells #[.slice none 0 0] 62)).drew (((Below.refl _ _).alloc (Nat.le_refl _) _).drew)).mono ?_
               rintro e w3 ⟨u3, rfl, hi3, hb3⟩
               have k3 := (k2.next (((Below.refl _ _).alloc (Nat.le_refl _) _).drew)).next hb3
               have kb0 : Blk w3 w2.heap.size 62 #[.slice none 0 0] := ((Blk.new w2 _ _).drew).below hb3 (by simp [World.drew])
               have s0 := k3.bP.cell 0
               have s1 := k3.bP.cell 1
               have s2 := k3.bP.cell 2
               have s3 := k3.bT.cell 0
               have s4 := k3.bT.cell 1
               have s5 := k3.bT.cell 2
               simp at s0 s1 s2 s3 s4 s5
               have hu3 := hi3.form
               have hds : Heads hi (w2.alloc (.cells #[.slice none 0 0] 62)).drew.heap.size w3.heap.size p.params p.funs (p.syms.map symS) (.slice A2 n2 c2) (.slice A1 n1 c1) u3 w3 := ⟨k3.iP.r, k3.iP.f, hi3, k3.lh, Nat.le_refl _⟩
               have HS := Lib.hid (fun W (hbW : Below w3.heap.size w3 W) => HTY.out ▸ sortT_any p.pick HSM.out (.slice A2 n2 c2) (.slice A1 n1 c1) u3 ⟨_, _, _, rfl⟩ ⟨_, _, _, rfl⟩ hu3 (fun W => Heads hi (w2.alloc (.cells #[.slice none 0 0] 62)).drew.heap.size w3.heap.size p.params p.funs (p.syms.map symS) (.slice A2 n2 c2) (.slice A1 n1 c1) u3 W) (fun _ _ h hb => h.below hb) w3.heap.size (fun _ h => h.hh2) (HeadsR hi (w2.alloc (.cells #[.slice none 0 0] 62)).drew.heap.size w3.heap.size) (fun lo h' hr => by have := k3.lh; rcases hr with ⟨_, e⟩ | ⟨_, e⟩ <;> omega) (fun x v W P h hx ho => head_any hi (w2.alloc (.cells #[.slice none 0 0] 62)).drew.heap.size w3.heap.size p.params p.funs (p.syms.map symS) _ _ _ x v W P h hx ho) _ t _ W P (Nat.le_refl _) (hds.below hbW) (k3.next hbW).iT (k3.next hbW).oT)
               have Q : w3.cell? ⟨w.heap.size, 0, none⟩ = some (.slice A0 n0 c0) ∧ w3.cell? ⟨w.heap.size, 1, none⟩ = some (.slice A1 n1 c1) ∧ w3.cell? ⟨w.heap.size, 2, none⟩ = some (.slice A2 n2 c2) ∧ w3.cell? ⟨w.heap.size + 1, 0, none⟩ = some (.int .i64 t.kind) ∧ w3.cell? ⟨w.heap.size + 1, 1, none⟩ = some (.int .i64 t.num) ∧ w3.cell? ⟨w.heap.size + 1, 2, none⟩ = some (.slice A n c) := ⟨s0, s1, s2, s3, s4, s5⟩
               obtain ⟨A8, n8, c8, rfl⟩ := hu3
               clear s0 s1 s2 s3 s4 s5)
            | (go_at_call 96
               have kbt := kb0.lt
               refine (HS.out w3 (Below.refl _ _)).mono ?_
               intro e w4 hfd
               obtain ⟨v4, rfl, hat4, hb4⟩ := Found.no hfd
               clear hfd
               have k4 := k3.next hb4
               have kb7 : Blk w4 w2.heap.size 62 #[.slice none 0 0] := kb0.below hb4 kb0.lt
               have s6 := kb7.cell 0
               have s7 := kb7.frozen 0
               simp at s6
               have s0 := k4.bP.cell 0
               have s1 := k4.bP.cell 1
               have s2 := k4.bP.cell 2
               have s3 := k4.bT.cell 0
               have s4 := k4.bT.cell 1
               have s5 := k4.bT.cell 2
               simp at s0 s1 s2 s3 s4 s5
               have Q4 : w4.cell? ⟨w.heap.size, 0, none⟩ = some (.slice A0 n0 c0) ∧ w4.cell? ⟨w.heap.size, 1, none⟩ = some (.slice A1 n1 c1) ∧ w4.cell? ⟨w.heap.size, 2, none⟩ = some (.slice A2 n2 c2) ∧ w4.cell? ⟨w.heap.size + 1, 0, none⟩ = some (.int .i64 t.kind) ∧ w4.cell? ⟨w.heap.size + 1, 1, none⟩ = some (.int .i64 t.num) ∧ w4.cell? ⟨w.heap.size + 1, 2, none⟩ = some (.slice A n c) := ⟨s0, s1, s2, s3, s4, s5⟩
               obtain ⟨A9, n9, c9, rfl⟩ := hat4.form
               have kS := k4.set (b := w2.heap.size) (by have := k2.bR.lt; omega) (.slice A9 n9 c9)
               clear s0 s1 s2 s3 s4 s5
               have s0 := kS.bP.cell 0
               have s1 := kS.bP.cell 1
               have s2 := kS.bP.cell 2
               have s3 := kS.bT.cell 0
               have s4 := kS.bT.cell 1
               have s5 := kS.bT.cell 2
               simp at s0 s1 s2 s3 s4 s5
               have Q5 := And.intro s0 (And.intro s1 (And.intro s2 (And.intro s3 (And.intro s4 s5))))
               clear s0 s1 s2 s3 s4 s5)
            | (go_at_call 96
               refine (HS.out w3 (Below.refl _ _)).mono ?_
               intro e w4 hfd
               obtain ⟨v4, rfl, hat4, hb4⟩ := Found.no hfd
               clear hfd
               have k4 := (k3.next (Below.refl _ _)).next hb4
               have kb7 : True := trivial
               have s0 := k4.bP.cell 0
               have s1 := k4.bP.cell 1
               have s2 := k4.bP.cell 2
               have s3 := k4.bT.cell 0
               have s4 := k4.bT.cell 1
               have s5 := k4.bT.cell 2
               simp at s0 s1 s2 s3 s4 s5
               have Q4 : w4.cell? ⟨w.heap.size, 0, none⟩ = some (.slice A0 n0 c0) ∧ w4.cell? ⟨w.heap.size, 1, none⟩ = some (.slice A1 n1 c1) ∧ w4.cell? ⟨w.heap.size, 2, none⟩ = some (.slice A2 n2 c2) ∧ w4.cell? ⟨w.heap.size + 1, 0, none⟩ = some (.int .i64 t.kind) ∧ w4.cell? ⟨w.heap.size + 1, 1, none⟩ = some (.int .i64 t.num) ∧ w4.cell? ⟨w.heap.size + 1, 2, none⟩ = some (.slice A n c) := ⟨s0, s1, s2, s3, s4, s5⟩
               obtain ⟨A9, n9, c9, rfl⟩ := hat4.form
               clear s0 s1 s2 s3 s4 s5)
            | (go_at_call 96
               refine (HS.out (w3.alloc (.cells #[.slice none 0 0] 62)) ((Below.refl _ _).alloc (Nat.le_refl _) _)).mono ?_
               intro e w4 hfd
               obtain ⟨v4, rfl, hat4, hb4⟩ := Found.no hfd
               clear hfd
               have k4 := (k3.next ((Below.refl _ _).alloc (Nat.le_refl _) _)).next hb4
               have kb7 : Blk w4 w3.heap.size 62 #[.slice none 0 0] := (Blk.new w3 _ _).below hb4 (by simp)
               have s6 := kb7.cell 0
               have s7 := kb7.frozen 0
               simp at s6
               have s0 := k4.bP.cell 0
               have s1 := k4.bP.cell 1
               have s2 := k4.bP.cell 2
               have s3 := k4.bT.cell 0
               have s4 := k4.bT.cell 1
               have s5 := k4.bT.cell 2
               simp at s0 s1 s2 s3 s4 s5
               have Q4 : w4.cell? ⟨w.heap.size, 0, none⟩ = some (.slice A0 n0 c0) ∧ w4.cell? ⟨w.heap.size, 1, none⟩ = some (.slice A1 n1 c1) ∧ w4.cell? ⟨w.heap.size, 2, none⟩ = some (.slice A2 n2 c2) ∧ w4.cell? ⟨w.heap.size + 1, 0, none⟩ = some (.int .i64 t.kind) ∧ w4.cell? ⟨w.heap.size + 1, 1, none⟩ = some (.int .i64 t.num) ∧ w4.cell? ⟨w.heap.size + 1, 2, none⟩ = some (.slice A n c) := ⟨s0, s1, s2, s3, s4, s5⟩
               obtain ⟨A9, n9, c9, rfl⟩ := hat4.form
               have kS := k4.set (b := w3.heap.size) (by have := k3.bR.lt; omega) (.slice A9 n9 c9)
               clear s0 s1 s2 s3 s4 s5
               have s0 := kS.bP.cell 0
               have s1 := kS.bP.cell 1
               have s2 := kS.bP.cell 2
               have s3 := kS.bT.cell 0
               have s4 := kS.bT.cell 1
               have s5 := kS.bT.cell 2
               simp at s0 s1 s2 s3 s4 s5
               have Q5 := And.intro s0 (And.intro s1 (And.intro s2 (And.intro s3 (And.intro s4 s5))))
               clear s0 s1 s2 s3 s4 s5))
        all_goals
          first
            | (have k5 := k4.set (b := w2.heap.size) (by have := k2.bR.lt; omega) (.slice A9 n9 c9)
               have kchk := kb0.lt
               have q0 := k5.bR.cell 0
               have q1 := k5.bR.frozen 0
               go_wp2_with fail
               rw [HE.out, HT.out]
               exact bodyPost_ret (sortTop_results rfl rfl (k5.bR.set_ 0 _)) rfl ⟨_, rfl, S.In_nil, k5.bel.setCell (by simp; omega) _, TopS.nil _ _⟩)
            | (have k5 := k4.set (b := w3.heap.size) (by have := k3.bR.lt; omega) (.slice A9 n9 c9)
               have kchk := kb7.lt
               have q0 := k5.bR.cell 0
               have q1 := k5.bR.frozen 0
               go_wp2_with fail
               rw [HE.out, HT.out]
               exact bodyPost_ret (sortTop_results rfl rfl (k5.bR.set_ 0 _)) rfl ⟨_, rfl, S.In_nil, k5.bel.setCell (by simp; omega) _, TopS.nil _ _⟩)
            | (have k5 := k4.next ((Below.refl _ _).alloc (Nat.le_refl _) (.cells #[.slice A9 n9 c9] 62))
               have q0 := k5.bR.cell 0
               have q1 := k5.bR.frozen 0
               go_wp2_with fail
               rw [HE.out, HT.out]
               exact bodyPost_ret (sortTop_results rfl rfl (k5.bR.set_ 0 _)) rfl ⟨_, rfl, S.In_nil, k5.bel.setCell (by simp; omega) _, TopS.nil _ _⟩)
      | some s =>
        have HE : Hid (p.sortE t = 0) := Lib.hid (by simp [Pl.sortE, hok, hlg, hty])
        have HT : Hid (p.sortS t = s) := Lib.hid (by simp [Pl.sortS, HE.out, hty])
        have hsok := HTOK.out s hty
        have HCNT : Hid (s.count ≤ 60) := Lib.hid (S.ok_count hsok)
        have hS0 : s.behindE 0 = 0 := S.behindE_ok s hsok (by omega)
        have HS1 : Hid (s.behindS 0 = s) := Lib.hid (by have h0 := S.behindS_yes s (m := 0) hS0; simpa [S.eta] using h0)
        have HS0 := Lib.hid hS0
        have HTY := Lib.hid hty
        clear hty hsok hS0
        clear hok hae hlg
        go_enter Tryz.func43, Tryz.ntmps43
        go_wp2_with fail
        refine HC.out.mono ?_
        rintro e w1 ⟨rfl, hb1⟩
        have k1 := k0.next hb1
        have a0 := k1.bT.cell 0
        have a1 := k1.bT.cell 1
        have a2 := k1.bT.cell 2
        have HL := Lib.hid (tooLarge_any t _ _ P k1.iT k1.oT)
        rw [HG.out] at HL
        clear k0 hb1
        go_wp2_with fail
        refine HL.out.mono ?_
        rintro e w2 ⟨rfl, hb2⟩
        have k2 := k1.next hb2
        clear k1 hb2 a0 a1 a2
        have a0 := k2.bT.cell 0
        have a1 := k2.bT.cell 1
        have a2 := k2.bT.cell 2
        have b0 := k2.bP.cell 0
        have b1 := k2.bP.cell 1
        have b2 := k2.bP.cell 2
        have k2d : SortCtx 76 p (.slice A0 n0 c0) (.slice A1 n1 c1) (.slice A2 n2 c2) hi t (.slice A n c) P w.heap.size w w2.drew := k2.next ((Below.refl _ _).drew)
        have HH := Lib.hid (fun W (hbW : Below w2.heap.size w2 W) => headsOf_any p _ _ _ W hi HOK.out (k2.next hbW).iP (k2.next hbW).lh)
        have HKK := Lib.hid k2d
        clear k2d
        go_wp2_with fail
        go_region_held3 (fun w' => w'.cell? ⟨w.heap.size, 0, none⟩ = some (.slice A0 n0 c0) ∧ w'.cell? ⟨w.heap.size, 1, none⟩ = some (.slice A1 n1 c1) ∧ w'.cell? ⟨w.heap.size, 2, none⟩ = some (.slice A2 n2 c2) ∧ w'.cell? ⟨w.heap.size + 1, 0, none⟩ = some (.int .i64 t.kind) ∧ w'.cell? ⟨w.heap.size + 1, 1, none⟩ = some (.int .i64 t.num) ∧ w'.cell? ⟨w.heap.size + 1, 2, none⟩ = some (.slice A n c)) (first | go_keep | assumption)
          (first
            | (go_at_call 95
               refine (HH.out w2.drew ((Below.refl _ _).drew)).mono ?_
               rintro e w3 ⟨u3, rfl, hi3, hb3⟩
               have k3 := (k2.next ((Below.refl _ _).drew)).next hb3
               have kb0 : True := trivial
               have s0 := k3.bP.cell 0
               have s1 := k3.bP.cell 1
               have s2 := k3.bP.cell 2
               have s3 := k3.bT.cell 0
               have s4 := k3.bT.cell 1
               have s5 := k3.bT.cell 2
               simp at s0 s1 s2 s3 s4 s5
               have hu3 := hi3.form
               have hds : Heads hi w2.drew.heap.size w3.heap.size p.params p.funs (p.syms.map symS) (.slice A2 n2 c2) (.slice A1 n1 c1) u3 w3 := ⟨k3.iP.r, k3.iP.f, hi3, k3.lh, Nat.le_refl _⟩
               have HS := Lib.hid (fun W (hbW : Below w3.heap.size w3 W) => HTY.out ▸ sortT_any p.pick HSM.out (.slice A2 n2 c2) (.slice A1 n1 c1) u3 ⟨_, _, _, rfl⟩ ⟨_, _, _, rfl⟩ hu3 (fun W => Heads hi w2.drew.heap.size w3.heap.size p.params p.funs (p.syms.map symS) (.slice A2 n2 c2) (.slice A1 n1 c1) u3 W) (fun _ _ h hb => h.below hb) w3.heap.size (fun _ h => h.hh2) (HeadsR hi w2.drew.heap.size w3.heap.size) (fun lo h' hr => by have := k3.lh; rcases hr with ⟨_, e⟩ | ⟨_, e⟩ <;> omega) (fun x v W P h hx ho => head_any hi w2.drew.heap.size w3.heap.size p.params p.funs (p.syms.map symS) _ _ _ x v W P h hx ho) _ t _ W P (Nat.le_refl _) (hds.below hbW) (k3.next hbW).iT (k3.next hbW).oT)
               have Q : w3.cell? ⟨w.heap.size, 0, none⟩ = some (.slice A0 n0 c0) ∧ w3.cell? ⟨w.heap.size, 1, none⟩ = some (.slice A1 n1 c1) ∧ w3.cell? ⟨w.heap.size, 2, none⟩ = some (.slice A2 n2 c2) ∧ w3.cell? ⟨w.heap.size + 1, 0, none⟩ = some (.int .i64 t.kind) ∧ w3.cell? ⟨w.heap.size + 1, 1, none⟩ = some (.int .i64 t.num) ∧ w3.cell? ⟨w.heap.size + 1, 2, none⟩ = some (.slice A n c) := ⟨s0, s1, s2, s3, s4, s5⟩
               obtain ⟨A8, n8, c8, rfl⟩ := hu3
               clear s0 s1 s2 s3 s4 s5)
            | (go_at_call 95
               refine (HH.out (w2.alloc (.cells #[.slice none 0 0] 62)).drew (((Below.refl _ _).alloc (Nat.le_refl _) _).drew)).mono ?_
               rintro e w3 ⟨u3, rfl, hi3, hb3⟩
               have k3 := (k2.next (((Below.refl _ _).alloc (Nat.le_refl _) _).drew)).next hb3
               have kb0 : Blk w3 w2.heap.size 62 #[.slice none 0 0] := ((Blk.new w2 _ _).drew).below hb3 (by simp [World.drew])
               have s0 := k3.bP.cell 0
               have s1 := k3.bP.cell 1
               have s2 := k3.bP.cell 2
               have s3 := k3.bT.cell 0
               have s4 := k3.bT.cell 1
               have s5 := k3.bT.cell 2
               simp at s0 s1 s2 s3 s4 s5
               have hu3 := hi3.form
               have hds : Heads hi (w2.alloc (.cells #[.slice none 0 0] 62)).drew.heap.size w3.heap.size p.params p.funs (p.syms.map symS) (.slice A2 n2 c2) (.slice A1 n1 c1) u3 w3 := ⟨k3.iP.r, k3.iP.f, hi3, k3.lh, Nat.le_refl _⟩
               have HS := Lib.hid (fun W (hbW : Below w3.heap.size w3 W) => HTY.out ▸ sortT_any p.pick HSM.out (.slice A2 n2 c2) (.slice A1 n1 c1) u3 ⟨_, _, _, rfl⟩ ⟨_, _, _, rfl⟩ hu3 (fun W => Heads hi (w2.alloc (.cells #[.slice none 0 0] 62)).drew.heap.size w3.heap.size p.params p.funs (p.syms.map symS) (.slice A2 n2 c2) (.slice A1 n1 c1) u3 W) (fun _ _ h hb => h.below hb) w3.heap.size (fun _ h => h.hh2) (HeadsR hi (w2.alloc (.cells #[.slice none 0 0] 62)).drew.heap.size w3.heap.size) (fun lo h' hr => by have := k3.lh; rcases hr with ⟨_, e⟩ | ⟨_, e⟩ <;> omega) (fun x v W P h hx ho => head_any hi (w2.alloc (.cells #[.slice none 0 0] 62)).drew.heap.size w3.heap.size p.params p.funs (p.syms.map symS) _ _ _ x v W P h hx ho) _ t _ W P (Nat.le_refl _) (hds.below hbW) (k3.next hbW).iT (k3.next hbW).oT)
               have Q : w3.cell? ⟨w.heap.size, 0, none⟩ = some (.slice A0 n0 c0) ∧ w3.cell? ⟨w.heap.size, 1, none⟩ = some (.slice A1 n1 c1) ∧ w3.cell? ⟨w.heap.size, 2, none⟩ = some (.slice A2 n2 c2) ∧ w3.cell? ⟨w.heap.size + 1, 0, none⟩ = some (.int .i64 t.kind) ∧ w3.cell? ⟨w.heap.size + 1, 1, none⟩ = some (.int .i64 t.num) ∧ w3.cell? ⟨w.heap.size + 1, 2, none⟩ = some (.slice A n c) := ⟨s0, s1, s2, s3, s4, s5⟩
               obtain ⟨A8, n8, c8, rfl⟩ := hu3
               clear s0 s1 s2 s3 s4 s5)
            | (go_at_call 96
               have kbt := kb0.lt
               refine (HS.out w3 (Below.refl _ _)).mono ?_
               intro e w4 hfd
               obtain ⟨v4, rfl, hat4, hb4⟩ := Found.yes hfd
               clear hfd
               have k4 := k3.next hb4
               have kb7 : Blk w4 w2.heap.size 62 #[.slice none 0 0] := kb0.below hb4 kb0.lt
               have s6 := kb7.cell 0
               have s7 := kb7.frozen 0
               simp at s6
               have s0 := k4.bP.cell 0
               have s1 := k4.bP.cell 1
               have s2 := k4.bP.cell 2
               have s3 := k4.bT.cell 0
               have s4 := k4.bT.cell 1
               have s5 := k4.bT.cell 2
               simp at s0 s1 s2 s3 s4 s5
               have Q4 : w4.cell? ⟨w.heap.size, 0, none⟩ = some (.slice A0 n0 c0) ∧ w4.cell? ⟨w.heap.size, 1, none⟩ = some (.slice A1 n1 c1) ∧ w4.cell? ⟨w.heap.size, 2, none⟩ = some (.slice A2 n2 c2) ∧ w4.cell? ⟨w.heap.size + 1, 0, none⟩ = some (.int .i64 t.kind) ∧ w4.cell? ⟨w.heap.size + 1, 1, none⟩ = some (.int .i64 t.num) ∧ w4.cell? ⟨w.heap.size + 1, 2, none⟩ = some (.slice A n c) := ⟨s0, s1, s2, s3, s4, s5⟩
               obtain ⟨A9, n9, c9, rfl⟩ := hat4.form
               have kS := k4.set (b := w2.heap.size) (by have := k2.bR.lt; omega) (.slice A9 n9 c9)
               clear s0 s1 s2 s3 s4 s5
               have s0 := kS.bP.cell 0
               have s1 := kS.bP.cell 1
               have s2 := kS.bP.cell 2
               have s3 := kS.bT.cell 0
               have s4 := kS.bT.cell 1
               have s5 := kS.bT.cell 2
               simp at s0 s1 s2 s3 s4 s5
               have Q5 := And.intro s0 (And.intro s1 (And.intro s2 (And.intro s3 (And.intro s4 s5))))
               clear s0 s1 s2 s3 s4 s5)
            | (go_at_call 96
               refine (HS.out w3 (Below.refl _ _)).mono ?_
               intro e w4 hfd
               obtain ⟨v4, rfl, hat4, hb4⟩ := Found.yes hfd
               clear hfd
               have k4 := (k3.next (Below.refl _ _)).next hb4
               have kb7 : True := trivial
               have s0 := k4.bP.cell 0
               have s1 := k4.bP.cell 1
               have s2 := k4.bP.cell 2
               have s3 := k4.bT.cell 0
               have s4 := k4.bT.cell 1
               have s5 := k4.bT.cell 2
               simp at s0 s1 s2 s3 s4 s5
               have Q4 : w4.cell? ⟨w.heap.size, 0, none⟩ = some (.slice A0 n0 c0) ∧ w4.cell? ⟨w.heap.size, 1, none⟩ = some (.slice A1 n1 c1) ∧ w4.cell? ⟨w.heap.size, 2, none⟩ = some (.slice A2 n2 c2) ∧ w4.cell? ⟨w.heap.size + 1, 0, none⟩ = some (.int .i64 t.kind) ∧ w4.cell? ⟨w.heap.size + 1, 1, none⟩ = some (.int .i64 t.num) ∧ w4.cell? ⟨w.heap.size + 1, 2, none⟩ = some (.slice A n c) := ⟨s0, s1, s2, s3, s4, s5⟩
               obtain ⟨A9, n9, c9, rfl⟩ := hat4.form
               clear s0 s1 s2 s3 s4 s5)
            | (go_at_call 96
               refine (HS.out (w3.alloc (.cells #[.slice none 0 0] 62)) ((Below.refl _ _).alloc (Nat.le_refl _) _)).mono ?_
               intro e w4 hfd
               obtain ⟨v4, rfl, hat4, hb4⟩ := Found.yes hfd
               clear hfd
               have k4 := (k3.next ((Below.refl _ _).alloc (Nat.le_refl _) _)).next hb4
               have kb7 : Blk w4 w3.heap.size 62 #[.slice none 0 0] := (Blk.new w3 _ _).below hb4 (by simp)
               have s6 := kb7.cell 0
               have s7 := kb7.frozen 0
               simp at s6
               have s0 := k4.bP.cell 0
               have s1 := k4.bP.cell 1
               have s2 := k4.bP.cell 2
               have s3 := k4.bT.cell 0
               have s4 := k4.bT.cell 1
               have s5 := k4.bT.cell 2
               simp at s0 s1 s2 s3 s4 s5
               have Q4 : w4.cell? ⟨w.heap.size, 0, none⟩ = some (.slice A0 n0 c0) ∧ w4.cell? ⟨w.heap.size, 1, none⟩ = some (.slice A1 n1 c1) ∧ w4.cell? ⟨w.heap.size, 2, none⟩ = some (.slice A2 n2 c2) ∧ w4.cell? ⟨w.heap.size + 1, 0, none⟩ = some (.int .i64 t.kind) ∧ w4.cell? ⟨w.heap.size + 1, 1, none⟩ = some (.int .i64 t.num) ∧ w4.cell? ⟨w.heap.size + 1, 2, none⟩ = some (.slice A n c) := ⟨s0, s1, s2, s3, s4, s5⟩
               obtain ⟨A9, n9, c9, rfl⟩ := hat4.form
               have kS := k4.set (b := w3.heap.size) (by have := k3.bR.lt; omega) (.slice A9 n9 c9)
               clear s0 s1 s2 s3 s4 s5
               have s0 := kS.bP.cell 0
               have s1 := kS.bP.cell 1
               have s2 := kS.bP.cell 2
               have s3 := kS.bT.cell 0
               have s4 := kS.bT.cell 1
               have s5 := kS.bT.cell 2
               simp at s0 s1 s2 s3 s4 s5
               have Q5 := And.intro s0 (And.intro s1 (And.intro s2 (And.intro s3 (And.intro s4 s5))))
               clear s0 s1 s2 s3 s4 s5))
        all_goals
          obtain ⟨lo4, h4, hin4, hor4, hle4⟩ := hat4
          first
            | (have k5 := k4.set (b := w2.heap.size) (by have := k2.bR.lt; omega) (.slice A9 n9 c9)
               have kb := kb7.set_ 0 (.slice A9 n9 c9)
               have hin5 : s.In (w4.setCell ⟨w2.heap.size, 0, none⟩ (.slice A9 n9 c9)) lo4 h4 (.slice A9 n9 c9) := S.In_set hin4 (by have := k2.lh; have := kb0.lt; simp [HeadsR, World.drew] at hor4; omega)
               have hle5 : h4 ≤ (w4.setCell ⟨w2.heap.size, 0, none⟩ (.slice A9 n9 c9)).heap.size := by simpa [World.setCell] using hle4
               have y0 := kb.cell 0
               have HB := Lib.hid (behind_any s _ 0 _ lo4 h4 hin5 hle5)
               unfold Behinds at HB
               rw [HS0.out, HS1.out] at HB
               go_wp2_with fail
               refine HB.out.mono ?_
               rintro e w6 ⟨v6, fp, rfl, hsep6, _, hr6, hb6⟩
               have k6 := k5.next hb6
               obtain ⟨A6, n6, c6, rfl⟩ := hsep6.form
               have q0 := k6.bR.cell 0
               have q1 := k6.bR.frozen 0
               have hz5 := k5.bR.lt
               have i6 := hsep6.in_ _ hr6
               go_wp2_with fail
               rw [HE.out, HT.out]
               exact bodyPost_ret (sortTop_results rfl rfl (k6.bR.set_ 0 _)) rfl ⟨_, rfl, S.In.more (by simp [World.setCell] at hz5 ⊢; omega) (by simp [World.setCell]) _ (S.In_set i6 (.inl (by simp [World.setCell] at hz5 ⊢; omega))), k6.bel.setCell (by simp; omega) _, ((TopS.of hsep6 hr6 (by have := HCNT.out; omega)).set_ (by simp [World.setCell] at hz5 ⊢; omega) _).less (by simp [World.setCell] at hz5 ⊢; omega)⟩)
            | (have k5 := k4.set (b := w3.heap.size) (by have := k3.bR.lt; omega) (.slice A9 n9 c9)
               have kb := kb7.set_ 0 (.slice A9 n9 c9)
               have hin5 : s.In (w4.setCell ⟨w3.heap.size, 0, none⟩ (.slice A9 n9 c9)) lo4 h4 (.slice A9 n9 c9) := S.In_set hin4 (by have := k3.lh; have := k3.bR.lt; simp [HeadsR] at hor4; omega)
               have hle5 : h4 ≤ (w4.setCell ⟨w3.heap.size, 0, none⟩ (.slice A9 n9 c9)).heap.size := by simpa [World.setCell] using hle4
               have y0 := kb.cell 0
               have HB := Lib.hid (behind_any s _ 0 _ lo4 h4 hin5 hle5)
               unfold Behinds at HB
               rw [HS0.out, HS1.out] at HB
               go_wp2_with fail
               refine HB.out.mono ?_
               rintro e w6 ⟨v6, fp, rfl, hsep6, _, hr6, hb6⟩
               have k6 := k5.next hb6
               obtain ⟨A6, n6, c6, rfl⟩ := hsep6.form
               have q0 := k6.bR.cell 0
               have q1 := k6.bR.frozen 0
               have hz5 := k5.bR.lt
               have i6 := hsep6.in_ _ hr6
               go_wp2_with fail
               rw [HE.out, HT.out]
               exact bodyPost_ret (sortTop_results rfl rfl (k6.bR.set_ 0 _)) rfl ⟨_, rfl, S.In.more (by simp [World.setCell] at hz5 ⊢; omega) (by simp [World.setCell]) _ (S.In_set i6 (.inl (by simp [World.setCell] at hz5 ⊢; omega))), k6.bel.setCell (by simp; omega) _, ((TopS.of hsep6 hr6 (by have := HCNT.out; omega)).set_ (by simp [World.setCell] at hz5 ⊢; omega) _).less (by simp [World.setCell] at hz5 ⊢; omega)⟩)
            | (have k5 := k4.next ((Below.refl _ _).alloc (Nat.le_refl _) (.cells #[.slice A9 n9 c9] 62))
               have hin5 : s.In (w4.alloc (.cells #[.slice A9 n9 c9] 62)) lo4 h4 (.slice A9 n9 c9) := hin4.below ((Below.refl _ _).alloc (Nat.le_refl _) _) hle4
               have hle5 : h4 ≤ (w4.alloc (.cells #[.slice A9 n9 c9] 62)).heap.size := by simp; omega
               have HB := Lib.hid (behind_any s _ 0 _ lo4 h4 hin5 hle5)
               unfold Behinds at HB
               rw [HS0.out, HS1.out] at HB
               go_wp2_with fail
               refine HB.out.mono ?_
               rintro e w6 ⟨v6, fp, rfl, hsep6, _, hr6, hb6⟩
               have k6 := k5.next hb6
               obtain ⟨A6, n6, c6, rfl⟩ := hsep6.form
               have q0 := k6.bR.cell 0
               have q1 := k6.bR.frozen 0
               have hz5 := k5.bR.lt
               have i6 := hsep6.in_ _ hr6
               go_wp2_with fail
               rw [HE.out, HT.out]
               exact bodyPost_ret (sortTop_results rfl rfl (k6.bR.set_ 0 _)) rfl ⟨_, rfl, S.In.more (by simp at hz5 ⊢; omega) (by simp [World.setCell]) _ (S.In_set i6 (.inl (by simp at hz5 ⊢; omega))), k6.bel.setCell (by simp; omega) _, ((TopS.of hsep6 hr6 (by have := HCNT.out; omega)).set_ (by simp at hz5 ⊢; omega) _).less (by simp at hz5 ⊢; omega)⟩)
theorem termSort_any (p : Pl) (v0 v1 v2 : Value) (t : T) (v : Value) (w : World) (hi : Nat) (P : Nat → Prop) (hp : PlIn w 0 hi p v0 v1 v2) (hhi : hi ≤ w.heap.size) (hin : t.In w P v) (hold : Old P w) :
    Calls Tryz.prog 43 #[.agg #[v0, v1, v2], .agg #[.int .i64 t.kind, .int .i64 t.num, v]] w (GaveS (p.sortS t) (p.sortE t) w) :=
  (termSort_own p v0 v1 v2 t v w hi P hp hhi hin hold).mono fun _ _ ⟨u, he, hi, hb, _⟩ => ⟨u, he, hi, hb⟩
end Go.Proofs.YtbbejhhohppdhaaGreatDoor

namespace Go.Proofs.YtbbejhhohppdhaaGreatDoor
open Go.RowKit

theorem refHead_results {tmps : Array Value} {w : World} {a : Nat} {x u : Value} (h2 : tmps.getD 4 undef = .pointer (some ⟨a, 0, none⟩)) (h3 : tmps.getD 5 undef = u)
    (ha : Blk w a 62 #[x]) : (results Tryz.f124 tmps).run Tryz.prog w = .ok (.tuple #[.agg #[x], u]) w := by
  have h4 := ha.cell 0
  simp at h4
  have h2' : tmps[4]?.getD undef = .pointer (some ⟨a, 0, none⟩) := by simpa using h2
  have h3' : tmps[5]?.getD undef = u := by simpa using h3
  simp [results, Tryz.results124, go_sem, h2', h3', h4]

theorem blk3 (w : World) (o1 o2 : Obj) (t : TypeId) (cs : Array Value) : Blk (((w.alloc o1).alloc o2).alloc (.cells cs t)) (w.heap.size + 1 + 1) t cs := by simpa using Blk.new ((w.alloc o1).alloc o2) t cs
theorem blk4 (w : World) (o1 o2 o3 : Obj) (t : TypeId) (cs : Array Value) : Blk ((((w.alloc o1).alloc o2).alloc o3).alloc (.cells cs t)) (w.heap.size + 1 + 1 + 1) t cs := by simpa using Blk.new (((w.alloc o1).alloc o2).alloc o3) t cs
theorem bel3 (w : World) (o1 o2 o3 : Obj) : Below w.heap.size w (((w.alloc o1).alloc o2).alloc o3) := (((Below.refl _ _).alloc (Nat.le_refl _) _).alloc (by simp) _).alloc (by simp; omega) _
set_option maxRecDepth 100000 in
set_option maxHeartbeats 3200000 in
theorem refHead_any (p : Pl) (hok : p.ok = true) (hi0 : Nat) (v0 v1 v2 : Value) (x : T) (v : Value) (w : World) (P : Nat → Prop) (hp : PlIn w 0 hi0 p v0 v1 v2) (hhi : hi0 ≤ w.heap.size) (hin : x.In w P v) (_hold : Old P w) :
    Calls Tryz.prog 124 #[.agg #[v0, v1, v2], .agg #[.int .i64 x.kind, .int .i64 x.num, v]] w (Found (fun lo hi => lo = 0 ∧ hi = hi0) (p.pick x.kind x.num) w) := by
  obtain ⟨_, hrk, _⟩ := Pl.ok_parts hok
  obtain ⟨i0, hi0', hz0, hz1, hz2⟩ := info_parts sort_info2
  have hmk := fun W (r : Nat) (h4 : r ≤ 4) => run_make (P := Tryz.prog) W 60 62 i0 _ Tryz.underlying60 hi0' hz0 .i64 .i64 (r : Int) (r : Int) (by omega) (by omega) (by rw [hz2]; omega) (by omega)
  simp only [hz1, Int.toNat_natCast, Nat.mul_one] at hmk
  have hmz : (Value.agg #[Value.slice none 0 0]).cells = #[.slice none 0 0] := rfl
  rw [hmz] at hmk
  have HMK := Lib.hid hmk
  clear hmk hmz hi0' hz0 hz1 hz2
  obtain ⟨g2, g1, g0⟩ := hp
  simp only [S.In] at g0 g1
  obtain ⟨A0, n0, c0, rfl, hn0, hc0, hm0, a0⟩ := g0
  obtain ⟨A1, n1, c1, rfl, hn1, hc1, hm1, a1⟩ := g1
  obtain ⟨A2, n2, c2, rfl, hn2, hc2, hm2, hrd2, hsz2⟩ := g2
  obtain ⟨A, n, c, rfl⟩ := hin.form
  obtain ⟨kd, nm, l⟩ := x
  simp only [T.kind, T.num]
  have hpick : ∀ k n, p.pick k n = pickH p.params p.funs (p.syms.map symS) k n := fun _ _ => rfl
  rw [hpick]
  generalize p.params = l0 at *
  generalize p.funs = l1 at *
  generalize p.syms = l2 at *
  clear hpick hok
  have hw3 : Below w.heap.size w (((w.alloc (.cells #[.slice A2 n2 c2, .slice A1 n1 c1, .slice A0 n0 c0] 125)).alloc (.cells #[.int .i64 kd, .int .i64 nm, .slice A n c] 34)).alloc (.cells #[.slice none 0 0] 62)) := (((Below.refl _ _).alloc (Nat.le_refl _) _).alloc (by simp) _).alloc (by simp; omega) _
  have bR : Blk (((w.alloc (.cells #[.slice A2 n2 c2, .slice A1 n1 c1, .slice A0 n0 c0] 125)).alloc (.cells #[.int .i64 kd, .int .i64 nm, .slice A n c] 34)).alloc (.cells #[.slice none 0 0] 62)) (w.heap.size + 1 + 1) 62 #[.slice none 0 0] := by
    simpa using Blk.new ((w.alloc (.cells #[.slice A2 n2 c2, .slice A1 n1 c1, .slice A0 n0 c0] 125)).alloc (.cells #[.int .i64 kd, .int .i64 nm, .slice A n c] 34)) 62 #[.slice none 0 0]
  by_cases hneg : nm < 0
  · have HF : Hid (pickH l0 l1 (l2.map symS) kd nm = none) := Lib.hid (by simp [pickH, hneg])
    clear hn0 hn1 hn2
    go_enter Tryz.func124, Tryz.ntmps124
    go_wp2_with fail
    rw [HF.out]
    exact bodyPost_ret (refHead_results rfl rfl bR) rfl ⟨_, rfl, S.At_nil, hw3⟩
  · obtain ⟨j, rfl⟩ : ∃ j : Nat, nm = (j : Int) := ⟨nm.toNat, by omega⟩
    have hj0 : (0 : Int) ≤ (j : Int) := by omega
    clear hneg
    by_cases k0 : kd = 0
    · subst k0
      by_cases hj : n0 ≤ j
      · have HF : Hid (pickH l0 l1 (l2.map symS) 0 (j : Int) = none) := Lib.hid (by simp [pickH]; omega)
        clear hn0 hn1 hn2
        go_enter Tryz.func124, Tryz.ntmps124
        go_wp2_with fail
        rw [HF.out]
        exact bodyPost_ret (refHead_results rfl rfl bR) rfl ⟨_, rfl, S.At_nil, hw3⟩
      · skip
        have hlt : j < l0.length := by omega
        have hx : l0[j]? = some l0[j] := List.getElem?_eq_getElem hlt
        have HF : Hid (pickH l0 l1 (l2.map symS) 0 (j : Int) = some l0[j]) := Lib.hid (by simp [pickH, hlt])
        obtain ⟨ad, u, rfl, _, hlt2, hcl, hinx⟩ := a0.at_ hx
        rw [Nat.zero_add] at hcl
        have hcl3 := (hw3.cell (p := ad.add j) (by rw [block_of_add]; omega)).trans hcl
        obtain ⟨A7, n7, c7, rfl⟩ := hinx.form
        have hin7 := hinx.below hw3 hhi
        generalize l0[j] = y at *
        have hjn : j < n0 := by omega
        clear hx hcl hn0 hn1 hn2
        go_enter Tryz.func124, Tryz.ntmps124
        go_wp2_with fail
        rw [HF.out]
        exact bodyPost_ret (refHead_results rfl rfl (blk3 _ _ _ _ _)) rfl ⟨_, rfl, ⟨0, hi0, hinx.below (bel3 _ _ _ _) hhi, .inl ⟨rfl, rfl⟩, by simp; omega⟩, bel3 _ _ _ _⟩
    · by_cases k1 : kd = 1
      · subst k1
        by_cases hj : n1 ≤ j
        · have HF : Hid (pickH l0 l1 (l2.map symS) 1 (j : Int) = none) := Lib.hid (by simp [pickH]; omega)
          clear hn0 hn1 hn2
          go_enter Tryz.func124, Tryz.ntmps124
          go_wp2_with fail
          rw [HF.out]
          exact bodyPost_ret (refHead_results rfl rfl bR) rfl ⟨_, rfl, S.At_nil, hw3⟩
        · skip
          have hlt : j < l1.length := by omega
          have hx : l1[j]? = some l1[j] := List.getElem?_eq_getElem hlt
          have HF : Hid (pickH l0 l1 (l2.map symS) 1 (j : Int) = some l1[j]) := Lib.hid (by simp [pickH, hlt])
          obtain ⟨ad, u, rfl, _, hlt2, hcl, hinx⟩ := a1.at_ hx
          rw [Nat.zero_add] at hcl
          have hcl3 := (hw3.cell (p := ad.add j) (by rw [block_of_add]; omega)).trans hcl
          obtain ⟨A7, n7, c7, rfl⟩ := hinx.form
          have hin7 := hinx.below hw3 hhi
          generalize l1[j] = y at *
          have hjn : j < n1 := by omega
          clear hx hcl hn0 hn1 hn2
          go_enter Tryz.func124, Tryz.ntmps124
          go_wp2_with fail
          rw [HF.out]
          exact bodyPost_ret (refHead_results rfl rfl (blk3 _ _ _ _ _)) rfl ⟨_, rfl, ⟨0, hi0, hinx.below (bel3 _ _ _ _) hhi, .inl ⟨rfl, rfl⟩, by simp; omega⟩, bel3 _ _ _ _⟩
      · by_cases k2 : kd = 2
        · subst k2
          by_cases hj : n2 ≤ j
          · have HF : Hid (pickH l0 l1 (l2.map symS) 2 (j : Int) = none) := Lib.hid (by simp [pickH]; omega)
            clear hn0 hn1 hn2
            go_enter Tryz.func124, Tryz.ntmps124
            go_wp2_with fail
            rw [HF.out]
            exact bodyPost_ret (refHead_results rfl rfl bR) rfl ⟨_, rfl, S.At_nil, hw3⟩
          · have hlt : j < l2.length := by omega
            have hx : l2[j]? = some l2[j] := List.getElem?_eq_getElem hlt
            have hrx := hrk l2[j] (List.getElem_mem hlt)
            have HF0 : pickH l0 l1 (l2.map symS) 2 (j : Int) = some (symS l2[j]) := by simp [pickH, hlt]
            obtain ⟨ad, rfl, hP2, hel⟩ := sy_el hrd2 hx
            obtain ⟨r0, r1⟩ := hel.keep (hw3.block _ (by omega))
            generalize l2[j] = y at *
            obtain ⟨name, rank⟩ := y
            simp only at *
            obtain ⟨r, rfl⟩ : ∃ r : Nat, rank = (r : Int) := ⟨rank.toNat, by omega⟩
            have h4 : r ≤ 4 := by omega
            have HF : Hid (pickH l0 l1 (l2.map symS) 2 (j : Int) = some (rankS r)) := Lib.hid (by rw [HF0]; simp [symS])
            have hmake := HMK.out (((w.alloc (.cells #[.slice (some ad) n2 c2, .slice A1 n1 c1, .slice A0 n0 c0] 125)).alloc (.cells #[.int .i64 2, .int .i64 (j : Int), .slice A n c] 34)).alloc (.cells #[.slice none 0 0] 62)) r h4
            have hjn : j < n2 := by omega
            generalize hmc : madeCells #[Value.slice none 0 0] r = mc at *
            have HMC := Lib.hid hmc
            clear hx hel hn0 hn1 hn2 HF0 hmc
            go_enter Tryz.func124, Tryz.ntmps124
            go_wp2_with fail
            rw [HF.out]
            refine bodyPost_ret (refHead_results rfl rfl ((blk3 _ _ _ _ _).alloc _)) rfl ⟨_, rfl, ⟨w.heap.size + 1 + 1 + 1, w.heap.size + 1 + 1 + 1 + 1, ?_, .inr (by omega), by simp⟩, (bel3 _ _ _ _).alloc (by simp; omega) _⟩
            refine S.In_ranks (by omega) ?_ (Nat.le_refl _) (by omega)
            rw [HMC.out]
            exact blk4 _ _ _ _ _ _
        · have HF : Hid (pickH l0 l1 (l2.map symS) kd (j : Int) = none) := Lib.hid (by simp [pickH, k0, k1, k2])
          have e0 : (kd == 0) = false := by simpa using k0
          have e1 : (kd == 1) = false := by simpa using k1
          have e2 : (kd == 2) = false := by simpa using k2
          clear hn0 hn1 hn2
          go_enter Tryz.func124, Tryz.ntmps124
          go_wp2_with fail
          rw [HF.out]
          exact bodyPost_ret (refHead_results rfl rfl bR) rfl ⟨_, rfl, S.At_nil, hw3⟩

end Go.Proofs.YtbbejhhohppdhaaGreatDoor
