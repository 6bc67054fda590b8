/-
  scheme.need: its contract.
-/
import Derived.Test.YthgkgjbjiiedaaaGreatDoorSNeedP
import Derived.Test.YthgkgjbjiiedaaaGreatDoorTNat
import Derived.Test.YthgkgjbjiiedaaaGreatDoorSVisit
namespace Go.Proofs.YthgkgjbjiiedaaaGreatDoor
open Go.RowKit Go.Maps

theorem zSet_isMap (l : List Int) : IsMap (zSet l) := by
  have h : ∀ (l : List Lit) (D : DataW Unit), IsMap D → IsMap (l.foldl (fun m x => m.put x (.lit (.bool true))) D) := by
    intro l
    induction l with
    | nil => intro D hD; exact hD
    | cons a r ih =>
      intro D hD
      refine ih _ ?_
      obtain ⟨es, rfl⟩ := hD
      exact ⟨_, rfl⟩
  exact h _ _ isMap_empty
theorem zSet_at (l : List Int) (x : Int) : (zSet l).atKey (.int .i64 x) (.lit (.bool false)) = .lit (.bool (decide (x ∈ l))) := by
  have h : ∀ r : List Int, (zSet r.reverse).atKey (.int .i64 x) (.lit (.bool false)) = .lit (.bool (decide (x ∈ r.reverse))) := by
    intro r
    induction r with
    | nil => simp [zSet, setOf, WideAt.atKey_none]
    | cons a r ih =>
      rw [List.reverse_cons]
      have e : zSet (r.reverse ++ [a]) = (zSet r.reverse).put (.int .i64 a) (.lit (.bool true)) := by
        unfold zSet
        rw [List.map_append, List.map_cons, List.map_nil, setOf_snoc]
      rw [e]
      by_cases hx : x = a
      · subst hx
        rw [atKey_put_same (zSet_isMap _) (by simp [WideAt.IsKeyLit])]
        simp
      · rw [atKey_put_other (by intro e; injection e with _ e; exact hx e), ih]
        simp [hx]
  have := h l.reverse
  rwa [List.reverse_reverse] at this
theorem plainElem_bool_inv2 {H : Type} {P : Program} {e : TypeId} (he : P.underlying e = some .bool) {v : Value} {x : Bool} {ps : List MemPlace} (h : plainElem (H := H) P e v = some (.lit (.bool x), ps)) : v = .bool x := by
  unfold plainElem at h
  rw [he] at h
  cases v <;> simp at h
  rw [h.1]
theorem MapZ.look {w : World} {b : Nat} {l : List Int} (h : MapZ w b l) {x : Int} (hx : (Lit.int .i64 x).wf = true) :
    (Instr.lookup 70 (.map (some b)) (.int .i64 x) false).run Tryz.prog w = .ok (.bool (decide (x ∈ l))) w := by
  obtain ⟨v, ps, hrun, hv⟩ := World.ownsMap.lookup h (Maps.int_keyed Tryz.underlying3) Tryz.underlying70 (Tryz.zeroValue4 w) (plainElem_bool Tryz.underlying4 false) (Maps.keyOf_int_mk Tryz.underlying3 hx)
  rw [zSet_at] at hv
  rw [hrun, plainElem_bool_inv2 Tryz.underlying4 hv]

/-- What need hands to nest.Each. -/
theorem need1_any {M : Nat → Prop} {Q : World → Prop} {sb nb mb : Nat} {v0 v1 : Value} (kd nm : Int) (A : Option Addr) (n c : Nat) (w : World)
    (hv0 : ∃ A n c, v0 = .slice A n c) (hv1 : ∃ A n c, v1 = .slice A n c)
    (hb : Blk w sb 25 #[v0, v1]) (hm : Blk w nb 70 #[.map (some mb)])
    (h : kd = 1 → Calls Tryz.prog 48 #[.agg #[v0, v1], .int .i64 nm, .map (some mb)] (w.alloc (.cells #[.int .i64 kd, .int .i64 nm, .slice A n c] 50)) fun e w' => e = .returned (.tuple #[]) ∧ Q w' ∧ Saves M w w')
    (h0 : kd ≠ 1 → Q (w.alloc (.cells #[.int .i64 kd, .int .i64 nm, .slice A n c] 50))) :
    Calls Tryz.prog 92 #[.agg #[.int .i64 kd, .int .i64 nm, .slice A n c], .pointer (some ⟨sb, 0, none⟩), .pointer (some ⟨nb, 0, none⟩)] w fun e w' => e = .returned (.tuple #[]) ∧ Q w' ∧ Saves M w w' := by
  obtain ⟨A0, n0, c0, rfl⟩ := hv0
  obtain ⟨A1, n1, c1, rfl⟩ := hv1
  have hl1 := hb.lt
  have hl2 := hm.lt
  have hw1 : Below w.heap.size w (w.alloc (.cells #[.int .i64 kd, .int .i64 nm, .slice A n c] 50)) := (Below.refl _ _).alloc (Nat.le_refl _) _
  have d0 := hb.cell 0
  have d1 := hb.cell 1
  have d2 := hm.cell 0
  by_cases hk : kd = 1
  · subst hk
    have HC := Lib.hid (h rfl)
    clear h h0 hb hm
    go_enter Tryz.func92, Tryz.ntmps92
    go_wp2_with fail
    refine HC.out.mono ?_
    rintro e w1 ⟨rfl, hq, hs⟩
    go_wp2_with fail
    go_end0
    exact ⟨rfl, hq, hs⟩
  · have hkb : (kd == 1) = false := by simpa using hk
    have HQ := Lib.hid (h0 hk)
    have HSV : Hid (Saves M w (w.alloc (.cells #[.int .i64 kd, .int .i64 nm, .slice A n c] 50))) := Lib.hid (Saves.of_below hw1)
    clear h h0 hb hm hk
    go_enter Tryz.func92, Tryz.ntmps92
    go_wp2_with fail
    go_end0
    exact ⟨rfl, HQ.out, HSV.out⟩

/-- What need's visit holds. -/
structure NeedI (s : Sc) (hi sb nb mb : Nat) (v0 v1 : Value) (st : List Int) (w : World) : Prop where
  m : MapZ w mb st
  b : Blk w sb 25 #[v0, v1]
  c : Blk w nb 70 #[.map (some mb)]
  i : ScIn w hi s v0 v1
theorem ScIn.saves {M : Nat → Prop} {w w' : World} {hi : Nat} {s : Sc} {v0 v1 : Value} (h : ScIn w hi s v0 v1) (hs : Saves M w w') (hhi : hi ≤ w.heap.size) (hM : ∀ b, b < hi → ¬ M b) : ScIn w' hi s v0 v1 := by
  have hb : ∀ b, b < hi → w'.heap[b]? = w.heap[b]? := fun b hb => hs.block b (by omega) (hM b hb)
  obtain ⟨⟨A, n, c, h1, h2, h3, h4, h5, h6⟩, A', n', c', us', g1, g2, g3, g4, g5, g6⟩ := h
  exact ⟨⟨A, n, c, h1, h2, h3, h4, h5.keep hb, h6⟩, A', n', c', us', g1, g2, g3, g4, g5.keep hb, g6.keep hb⟩

theorem T.callsL_take : ∀ (l : List T) (j : Nat) (m : Int), m ∈ T.callsL (l.take j) → m ∈ T.callsL l
  | [], j, m, h => by simpa using h
  | x :: r, 0, m, h => by simp [T.callsL] at h
  | x :: r, j + 1, m, h => by
    simp only [List.take_succ_cons, T.callsL, List.mem_append] at h ⊢
    exact h.imp id (T.callsL_take r j m)
theorem T.callsL_at : ∀ (l : List T) {j : Nat} {x : T} {m : Int}, l[j]? = some x → m ∈ x.callsIn → m ∈ T.callsL l
  | [], j, x, m, h, _ => by simp at h
  | y :: r, 0, x, m, h, hm => by
    simp at h
    subst h
    simp [T.callsL, hm]
  | y :: r, j + 1, x, m, h, hm => by
    simp at h
    simp [T.callsL, T.callsL_at r h hm]
theorem callAll_app (rec : Int → List Int → List Int) (st a b : List Int) : callAll rec st (a ++ b) = callAll rec (callAll rec st a) b := by simp [callAll, List.foldl_append]
theorem Saves.of_grown {w w' : World} {b : Nat} (hg : w.grownBy w' (some b)) : Saves (fun k => k = b) w w' :=
  ⟨hg.os, hg.tape, hg.output, hg.size, fun k hk hm => hg.block k hk (fun e => hm (by injection e))⟩
set_option maxHeartbeats 3200000 in
set_option maxRecDepth 100000 in
theorem need_any {s : Sc} {hi mb : Nat} {v0 v1 : Value} (hc : Calls_ok s) (hN : s.funs.length ≤ 64) (hd : ∀ g ∈ s.funs, g.body.deep ≤ 900000) (hmb : hi ≤ mb) : ∀ (f : Nat) (n : Int) (st : List Int) (w : World),
    Rng s st → 0 ≤ n → n < (s.funs.length : Int) → s.funs.length < f + st.length → ScIn w hi s v0 v1 → MapZ w mb st →
    Calls Tryz.prog 48 #[.agg #[v0, v1], .int .i64 n, .map (some mb)] w fun e w' => e = .returned (.tuple #[]) ∧ MapZ w' mb (needF s f n st) ∧ Saves (fun k => k = mb) w w' := by
  intro f
  induction f with
  | zero =>
    intro n st w hr _ _ hf
    have := nodup_len _ _ hr.1 hr.2
    omega
  | succ f ih =>
    intro n st w hr h0 h1 hf hin hm
    obtain ⟨⟨A0, n0, c0, rfl⟩, _⟩ := hin.form
    have hrl := nodup_len _ _ hr.1 hr.2
    have hml := hm.lt
    have hwf : (Lit.int .i64 n).wf = true := WalkArith.wf_i64 ⟨by omega, by omega⟩
    have hw2 : Below w.heap.size w ((w.alloc (.cells #[.slice A0 n0 c0, v1] 25)).alloc (.cells #[.map (some mb)] 70)) := ((Below.refl _ _).alloc (Nat.le_refl _) _).alloc (by simp) _
    have hlook := (hm.below hw2).look hwf
    by_cases hn : n ∈ st
    · have HE : Hid (needF s (f + 1) n st = st) := Lib.hid (by rw [needF_succ, if_pos hn])
      have HM := Lib.hid (hm.below hw2)
      have HSV : Hid (Saves (fun k => k = mb) w ((w.alloc (.cells #[.slice A0 n0 c0, v1] 25)).alloc (.cells #[.map (some mb)] 70))) := Lib.hid (Saves.of_below hw2)
      rw [decide_eq_true hn] at hlook
      obtain ⟨A, _, c, us0, rfl, rfl, hnc, hcc, hrd, hrow⟩ := hin.fn
      clear hm hn ih hc hd hrd hrow hin
      go_enter Tryz.func48, Tryz.ntmps48
      go_wp2_with fail
      refine bodyPost_ret (results_none rfl _ _ _) rfl ?_
      rw [HE.out]
      exact ⟨rfl, HM.out, HSV.out⟩
    · rw [decide_eq_false hn] at hlook
      obtain ⟨w3, hput, hm3, hg3⟩ := (hm.below hw2).put (by omega) hwf
      have hsv23 := Saves.of_grown hg3
      have hin3 : ScIn w3 hi s (.slice A0 n0 c0) v1 := (hin.below hw2 (by omega)).saves hsv23 (by simp; omega) (fun b hb e => by omega)
      obtain ⟨k, rfl⟩ := Int.eq_ofNat_of_zero_le h0
      have hkl : k < s.funs.length := by omega
      have hx : s.funs[k]? = some s.funs[k] := List.getElem?_eq_getElem hkl
      have hs0 : Blk w3 w.heap.size 25 #[.slice A0 n0 c0, v1] := ((Blk.new w _ _).alloc _).saves hsv23 (by omega)
      have hs1 : Blk w3 (w.heap.size + 1) 70 #[.map (some mb)] := Blk.saves (by simpa using Blk.new (w.alloc (.cells #[.slice A0 n0 c0, v1] 25)) 70 #[.map (some mb)]) hsv23 (by omega)
      have hsv3 : Saves (fun k => k = mb) w w3 := (Saves.of_below hw2).trans hsv23
      obtain ⟨A, _, c, us0, rfl, rfl, hnc, hcc, hrd, hrow⟩ := hin3.fn
      obtain ⟨ad, u, v, rfl, hPa, hel, hsu, hbv, hsx⟩ := fn_el hrd hrow hx
      obtain ⟨r0, r1, r2, r3, r4⟩ := hel
      obtain ⟨A2, n2, c2, rfl⟩ := hbv.form
      have d0 := hs0.cell 0
      have d1 := hs0.cell 1
      have d2 := hs1.cell 0
      have HEACH : Hid (Calls Tryz.prog 90 #[.agg #[.int .i64 s.funs[k].body.kind, .int .i64 s.funs[k].body.num, .slice A2 n2 c2], .func (.func 91) #[] #[], .func (.func 92) #[] #[.pointer (some ⟨w.heap.size, 0, none⟩), .pointer (some ⟨w.heap.size + 1, 0, none⟩)]] w3 fun e w' =>
        e = .returned (.tuple #[]) ∧ MapZ w' mb (needF s (f + 1) k st) ∧ Saves (fun k => k = mb) w3 w') := by
        have hz3 := hsv3.size
        have hgood := hr.snoc hn (by omega) h1
        have hcs := hc _ (List.getElem_mem hkl)
        have hdk := hd _ (List.getElem_mem hkl)
        have e : needF s (f + 1) k st = (visitT (onStep (needStep (needF s f))) (st ++ [(k : Int)]) 1 s.funs[k].body).2 := by
          rw [needF, if_neg hn, Int.toNat_natCast, hx]
        rw [e]
        refine Lib.hid ((eachS_any (step := needStep (needF s f)) (I := fun st w' => NeedI s hi w.heap.size (w.heap.size + 1) mb (.slice A0 n0 c0) (.slice (some ad) s.funs.length c) st w') (M := fun k => k = mb)
          (ok := fun st x lvl => lvl + x.deep ≤ 1000000 ∧ Rng s st ∧ s.funs.length < f + st.length ∧ ∀ m ∈ x.callsIn, 0 ≤ m ∧ m < (s.funs.length : Int)) (F := 92) (cap := #[.pointer (some ⟨w.heap.size, 0, none⟩), .pointer (some ⟨w.heap.size + 1, 0, none⟩)]) (P := fun b => b < hi)
          (fun st w w' h hb => ⟨h.m.below hb, h.b.below hb h.b.lt, h.c.below hb h.c.lt, h.i.below hb (by have := h.m.lt; omega)⟩) (fun w k st h hk => by rw [hk]; exact h.m.lt) Tryz.call92 (fun k hk e => by omega) ?_ ?_
          s.funs[k].body _ w3 (st ++ [(k : Int)]) ⟨by omega, hgood, by simp; omega, hcs⟩ ⟨hm3, hs0, hs1, hin3⟩ hbv (fun b hb => by omega)).mono (fun e w' ⟨he, hi, hs⟩ => ⟨he, hi.m, hs⟩))
        · intro st k n l lvl ⟨g1, g2, g3, g4⟩
          simp only [T.deep] at g1
          refine ⟨by omega, fun _ j x hx _ => ?_⟩
          have q1 := T.deepL_take_succ l j x hx
          have q2 := T.deepL_take_le l (j + 1)
          have hcl : ∀ m ∈ (if k = 1 then [n] else []) ++ T.callsL (l.take j), 0 ≤ m ∧ m < (s.funs.length : Int) := fun m hm => g4 m (by
            simp only [T.callsIn, List.mem_append] at hm ⊢
            exact hm.imp id (T.callsL_take l j m))
          obtain ⟨k1, u, k2⟩ := callAll_good (needF_good hc f) _ st hcl g2
          have e2 : (visitTL (onStep (needStep (needF s f))) (onStep (needStep (needF s f)) st (.mk k n l) lvl).2 (lvl + 1) (l.take j)).2 = callAll (needF s f) st ((if k = 1 then [n] else []) ++ T.callsL (l.take j)) := by
            rw [visitL_calls, callAll_app]
            by_cases hk : k = 1
            · simp [onStep, needStep, T.kind, T.num, hk, callAll]
            · simp [onStep, needStep, T.kind, hk, callAll]
          rw [e2]
          exact ⟨by omega, k1, by rw [k2, List.length_append]; omega, fun m hm => g4 m (by simp only [T.callsIn, List.mem_append]; exact .inr (T.callsL_at l hx hm))⟩
        · intro st x v lvl w5 ⟨g1, g2, g3, g4⟩ hI hinx _
          obtain ⟨A5, n5, c5, rfl⟩ := hinx.form
          have hw5 : Below w5.heap.size w5 (w5.alloc (.cells #[.int .i64 x.kind, .int .i64 x.num, .slice A5 n5 c5] 50)) := (Below.refl _ _).alloc (Nat.le_refl _) _
          have hml5 := hI.m.lt
          refine need1_any (Q := NeedI s hi w.heap.size (w.heap.size + 1) mb (.slice A0 n0 c0) (.slice (some ad) s.funs.length c) (needStep (needF s f) st x)) x.kind x.num A5 n5 c5 w5 ⟨_, _, _, rfl⟩ ⟨_, _, _, rfl⟩ hI.b hI.c (fun hk => ?_) (fun hk => ?_)
          · have hx1 : 0 ≤ x.num ∧ x.num < (s.funs.length : Int) := g4 _ (by cases x with | mk a b l => simp only [T.kind] at hk; simp [T.callsIn, T.num, hk])
            refine (ih x.num st _ g2 hx1.1 hx1.2 g3 (hI.i.below hw5 (by omega)) (hI.m.below hw5)).mono ?_
            rintro e w6 ⟨rfl, hm6, hs6⟩
            refine ⟨rfl, ?_, (Saves.of_below hw5).trans hs6⟩
            have e3 : needStep (needF s f) st x = needF s f x.num st := by simp [needStep, hk]
            rw [e3]
            exact ⟨hm6, (hI.b.below hw5 hI.b.lt).saves hs6 (by omega), (hI.c.below hw5 hI.c.lt).saves hs6 (by omega), (hI.i.below hw5 (by omega)).saves hs6 (by simp; omega) (fun b hb e => by omega)⟩
          · have e3 : needStep (needF s f) st x = st := by simp [needStep, hk]
            rw [e3]
            exact ⟨hI.m.below hw5, hI.b.below hw5 hI.b.lt, hI.c.below hw5 hI.c.lt, hI.i.below hw5 (by omega)⟩
      clear ih hc hd hm hm3 hg3 hin hin3 hs0 hs1 hrd hrow
      go_enter Tryz.func48, Tryz.ntmps48
      go_wp2_with fail
      refine HEACH.out.mono ?_
      rintro e w4 ⟨rfl, hq, hs4⟩
      go_wp2_with fail
      go_end0
      exact ⟨rfl, hq, hsv3.trans hs4⟩
end Go.Proofs.YthgkgjbjiiedaaaGreatDoor
