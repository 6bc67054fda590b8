/-
  The reference's Sort: its contract.
-/
import Derived.Test.YtmggccgjhjknpaaRefSort
import Derived.Test.YtmggccgjhjknpaaCopy
namespace Go.Proofs.Ytmggccgjhjknpaa
open Go.RowKit

theorem refSortTop_results {tmps : Array Value} {w : World} {a : Nat} {x u : Value} (h2 : tmps.getD 4 undef = .pointer (some ⟨a, 0, none⟩)) (h3 : tmps.getD 5 undef = u)
    (ha : Blk w a 40 #[x]) : (results Try.f23 tmps).run Try.prog w = .ok (.tuple #[.agg #[x], u]) w := by
  have h4 := ha.cell 0
  simp at h4
  have h2' : tmps[4]?.getD undef = .pointer (some ⟨a, 0, none⟩) := by simpa using h2
  have h3' : tmps[5]?.getD undef = u := by simpa using h3
  simp [results, Try.results23, go_sem, h2', h3', h4]

set_option maxRecDepth 100000 in
set_option maxHeartbeats 3200000 in
theorem refSortT_any (p : Pl) (v0 v1 v2 : Value) (t : T) (v : Value) (w : World) (hi : Nat) (P : Nat → Prop) (hp : PlIn w 0 hi p v0 v1 v2) (hhi : hi ≤ w.heap.size) (hin : t.In w P v) (hold : Old P w) :
    Calls Try.prog 23 #[.agg #[v0, v1, v2], .agg #[.int .i64 t.kind, .int .i64 t.num, v]] w (GaveS (p.sortS t) (p.sortE t) w) := by
  have k0 := SortCtx.start (ty := 25) hp hhi hin hold
  obtain ⟨A0, n0, c0, rfl⟩ := hp.s.form
  obtain ⟨A1, n1, c1, rfl⟩ := hp.f.form
  obtain ⟨A2, n2, c2, rfl⟩ := hp.r.form
  obtain ⟨A, n, c, rfl⟩ := hin.form
  have HC := Lib.hid (refIs_any p _ _ _ _ hi k0.iP k0.lh)
  cases hok : p.ok with
  | false =>
    have HE : Hid (p.sortE t = 2) := Lib.hid (by simp [Pl.sortE, hok])
    have HT : Hid (p.sortS t = .mk []) := Lib.hid (by simp [Pl.sortS, HE.out])
    rw [hok] at HC
    clear hok
    go_enter Try.func23, Try.ntmps23
    go_wp2_with fail
    refine HC.out.mono ?_
    rintro e w1 ⟨rfl, hb1⟩
    have k1 := k0.next hb1
    have q0 := k1.bR.cell 0
    have q1 := k1.bR.frozen 0
    clear k0 hb1
    go_wp2_with fail
    rw [HE.out, HT.out]
    exact bodyPost_ret (refSortTop_results rfl rfl (k1.bR.set_ 0 _)) rfl ⟨_, rfl, S.In_nil, k1.bel.setCell (by simp; omega) _⟩
  | true =>
    rw [hok] at HC
    cases hlg : t.large with
    | true =>
      have HE : Hid (p.sortE t = 3) := Lib.hid (by simp [Pl.sortE, hok, hlg])
      have HT : Hid (p.sortS t = .mk []) := Lib.hid (by simp [Pl.sortS, HE.out])
      have HG := Lib.hid hlg
      clear hok hlg
      go_enter Try.func23, Try.ntmps23
      go_wp2_with fail
      refine HC.out.mono ?_
      rintro e w1 ⟨rfl, hb1⟩
      have k1 := k0.next hb1
      have a0 := k1.bT.cell 0
      have a1 := k1.bT.cell 1
      have a2 := k1.bT.cell 2
      have HL := Lib.hid (large_any t _ _ P k1.iT k1.oT)
      rw [HG.out] at HL
      clear k0 hb1
      go_wp2_with fail
      refine HL.out.mono ?_
      rintro e w2 ⟨rfl, hb2⟩
      have k2 := k1.next hb2
      have q0 := k2.bR.cell 0
      have q1 := k2.bR.frozen 0
      clear k1 hb2 a0 a1 a2
      go_wp2_with fail
      rw [HE.out, HT.out]
      exact bodyPost_ret (refSortTop_results rfl rfl (k2.bR.set_ 0 _)) rfl ⟨_, rfl, S.In_nil, k2.bel.setCell (by simp; omega) _⟩
    | false =>
      have HG := Lib.hid hlg
      have HSM := Lib.hid (fun (k n : Int) (s : S) (h : p.pick k n = some s) => S.ok_count (Pl.pick_ok hok h))
      have HOF := Lib.hid (ofT_any p.pick HSM.out (.slice A0 n0 c0) (.slice A1 n1 c1) (.slice A2 n2 c2) ⟨_, _, _, rfl⟩ ⟨_, _, _, rfl⟩ ⟨_, _, _, rfl⟩
        (fun W => PlIn W 0 hi p (.slice A0 n0 c0) (.slice A1 n1 c1) (.slice A2 n2 c2) ∧ hi ≤ W.heap.size) (fun W W' h hb => ⟨h.1.below hb h.2, Nat.le_trans h.2 hb.size⟩) hi (fun W h => h.2) (fun lo h => lo = 0 ∧ h = hi) (fun lo h hh => by omega)
        (fun x v W Q h hx ho => refHead_any p hok hi _ _ _ x v W Q h.1 h.2 hx ho) t.count t)
      have hbound : ∀ s, t.ty p.pick = some s → s.count ≤ 60 := fun s h => T.ty_small HSM.out h
      cases hty : t.ty p.pick with
      | none =>
        have HE : Hid (p.sortE t = 6) := Lib.hid (by simp [Pl.sortE, hok, hlg, hty])
        have HT : Hid (p.sortS t = .mk []) := Lib.hid (by simp [Pl.sortS, HE.out])
        rw [hty] at HOF
        clear hok hlg hty hbound HSM
        go_enter Try.func23, Try.ntmps23
        go_wp2_with fail
        refine HC.out.mono ?_
        rintro e w1 ⟨rfl, hb1⟩
        have k1 := k0.next hb1
        have a0 := k1.bT.cell 0
        have a1 := k1.bT.cell 1
        have a2 := k1.bT.cell 2
        have HL := Lib.hid (large_any t _ _ P k1.iT k1.oT)
        rw [HG.out] at HL
        clear k0 hb1
        go_wp2_with fail
        refine HL.out.mono ?_
        rintro e w2 ⟨rfl, hb2⟩
        have k2 := k1.next hb2
        clear k1 hb2 a0 a1 a2
        have a0 := k2.bT.cell 0
        have a1 := k2.bT.cell 1
        have a2 := k2.bT.cell 2
        have p0 := k2.bP.cell 0
        have p1 := k2.bP.cell 1
        have p2 := k2.bP.cell 2
        simp at a0 a1 a2 p0 p1 p2
        have HF := Lib.hid (HOF.out _ _ P (Nat.le_refl _) ⟨k2.iP, k2.lh⟩ k2.iT k2.oT)
        go_wp2_with fail
        refine HF.out.mono ?_
        rintro e w3 hf
        obtain ⟨v3, rfl, hs3, hb3⟩ := hf.no
        obtain ⟨A3, n3, c3, rfl⟩ := hs3.form
        have k3 := (k2.next hb3)
        have k4 := k3.next ((Below.refl _ _).alloc (Nat.le_refl _) (.cells #[.slice A3 n3 c3] 40))
        have q0 := k4.bR.cell 0
        have q1 := k4.bR.frozen 0
        clear k2 hb3 a0 a1 a2 p0 p1 p2 hf hs3 k3
        go_wp2_with fail
        rw [HE.out, HT.out]
        exact bodyPost_ret (refSortTop_results rfl rfl (k4.bR.set_ 0 _)) rfl ⟨_, rfl, S.In_nil, k4.bel.setCell (by simp; omega) _⟩
      | some s =>
        have HE : Hid (p.sortE t = 0) := Lib.hid (by simp [Pl.sortE, hok, hlg, hty])
        have HT : Hid (p.sortS t = s) := Lib.hid (by simp [Pl.sortS, HE.out, hty])
        have HB := Lib.hid (hbound s hty)
        rw [hty] at HOF
        clear hok hlg hty hbound HSM
        go_enter Try.func23, Try.ntmps23
        go_wp2_with fail
        refine HC.out.mono ?_
        rintro e w1 ⟨rfl, hb1⟩
        have k1 := k0.next hb1
        have a0 := k1.bT.cell 0
        have a1 := k1.bT.cell 1
        have a2 := k1.bT.cell 2
        have HL := Lib.hid (large_any t _ _ P k1.iT k1.oT)
        rw [HG.out] at HL
        clear k0 hb1
        go_wp2_with fail
        refine HL.out.mono ?_
        rintro e w2 ⟨rfl, hb2⟩
        have k2 := k1.next hb2
        clear k1 hb2 a0 a1 a2
        have a0 := k2.bT.cell 0
        have a1 := k2.bT.cell 1
        have a2 := k2.bT.cell 2
        have p0 := k2.bP.cell 0
        have p1 := k2.bP.cell 1
        have p2 := k2.bP.cell 2
        simp at a0 a1 a2 p0 p1 p2
        have HF := Lib.hid (HOF.out _ _ P (Nat.le_refl _) ⟨k2.iP, k2.lh⟩ k2.iT k2.oT)
        go_wp2_with fail
        refine HF.out.mono ?_
        rintro e w3 hf
        obtain ⟨v3, rfl, hs3, hb3⟩ := hf.yes
        obtain ⟨A3, n3, c3, rfl⟩ := hs3.form
        have k3 := (k2.next hb3)
        have hw4 : Below w3.heap.size w3 (w3.alloc (.cells #[.slice A3 n3 c3] 40)) := (Below.refl _ _).alloc (Nat.le_refl _) _
        have k4 := k3.next hw4
        obtain ⟨lo3, hi3, hin3, _, hle3⟩ := hs3
        have HCP := Lib.hid (copy_any s.count s _ _ lo3 hi3 (Nat.le_refl _) (by have := HB.out; omega) (hin3.below hw4 hle3) (by simp; omega))
        unfold Cloned at HCP
        clear k2 hb3 a0 a1 a2 p0 p1 p2 hf k3 hin3 hw4 hle3
        go_wp2_with fail
        refine HCP.out.mono ?_
        rintro e w6 ⟨v6, fp, rfl, hsep6, _, hr6, hb6⟩
        have k6 := k4.next hb6
        obtain ⟨A6, n6, c6, rfl⟩ := hsep6.form
        have q0 := k6.bR.cell 0
        have q1 := k6.bR.frozen 0
        have hz5 := k4.bR.lt
        have i6 := hsep6.in_ _ hr6
        clear k4 hb6 hsep6 hr6
        go_wp2_with fail
        rw [HE.out, HT.out]
        exact bodyPost_ret (refSortTop_results rfl rfl (k6.bR.set_ 0 _)) rfl ⟨_, rfl, S.In.more (by simp at hz5 ⊢; omega) (by simp [World.setCell]) _ (S.In_set i6 (.inl (by simp at hz5 ⊢; omega))), k6.bel.setCell (by simp; omega) _⟩
end Go.Proofs.Ytmggccgjhjknpaa
