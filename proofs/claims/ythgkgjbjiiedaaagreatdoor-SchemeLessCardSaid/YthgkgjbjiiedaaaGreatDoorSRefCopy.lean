/-
  The reference's Copy of schemes.
-/
import Derived.Test.YthgkgjbjiiedaaaGreatDoorGI
import Derived.Test.YthgkgjbjiiedaaaGreatDoorGL
import Derived.Test.YthgkgjbjiiedaaaGreatDoorGA
import Derived.Test.YthgkgjbjiiedaaaGreatDoorGC
import Derived.Deep.RegionLaw
import Derived.Deep.RegionHeld3
namespace Go.Proofs.YthgkgjbjiiedaaaGreatDoor
open Go.RowKit Go.Shelf

theorem sy_info : (Tryz.prog.info? 65).map (fun i => (i.zero, i.size, i.bytes)) = some (some (.agg #[.string ⟨#[]⟩, .int .i64 0]), 2, 24) := by kernel_rfl
theorem run_append_none0 (w : World) (t ty e : TypeId) (i : TypeInfo) (ht : Tryz.prog.underlying t = some (.slice e)) (hi : Tryz.prog.info? e = some i)
    (A : Option Addr) (c : Nat) : (Builtin.append_ #[t, t] ty #[.slice none 0 0, .slice A 0 c]).run Tryz.prog w = .ok (.slice none 0 0) w := by
  have hfc : (Builtin.firstCells i.size 0 (.slice A 0 c)).run Tryz.prog w = .ok #[] w := by
    cases A with
    | none => exact run_firstCells_none w i.size 0 0 c
    | some a => simpa using run_firstCells_some w i.size 0 a 0 c [] (by simp) (by simp)
  simp [Builtin.append_, run_underlying ht, sizeOf, typeInfo, hi, Builtin.lenOf, hfc]
theorem syCells_one : ∀ (l : List Sy), ∀ u ∈ syCells l, u.oneCell' = true
  | [], u, h => by simp [syCells] at h
  | x :: r, u, h => by
    simp only [syCells, List.mem_cons] at h
    rcases h with rfl | rfl | h
    · rfl
    · rfl
    · exact syCells_one r u h
theorem syCells_length : ∀ (l : List Sy), (syCells l).length = l.length * 2
  | [] => rfl
  | x :: r => by simp only [syCells, List.length_cons, syCells_length r]; omega
/-- The symbols, appended to nothing. -/
theorem sy_append (w : World) (l : List Sy) (A : Option Addr) (n c : Nat) (P : Nat → Prop) (hn : l.length = n) (hrd : Rd w P A (syCells l)) (hl : l.length ≤ 1000) (B : Nat) (hB : B ≤ w.heap.size) :
    ∃ v' w', (∀ ty, (Builtin.append_ #[22, 22] ty #[.slice none 0 0, .slice A n c]).run Tryz.prog w = .ok v' w') ∧ w'.ownsRow B 65 2 v' l.length (syCells l) ∧ w.grownBy w' none ∧ (∃ A n c, v' = .slice A n c) := by
  obtain ⟨i0, hi0, hz0, hz1, hz2⟩ := info_parts sy_info
  subst hn
  by_cases h0 : l = []
  · subst h0
    exact ⟨_, w, fun ty => run_append_none0 w _ ty _ i0 Tryz.underlying22 hi0 A c, ⟨by simp [syCells], .inl ⟨rfl, rfl⟩⟩, World.grownBy.refl _ _, ⟨_, _, _, rfl⟩⟩
  · have hpos : 0 < l.length := by
      cases l with
      | nil => exact absurd rfl h0
      | cons a r => simp
    have hs := syCells_length l
    rcases hrd with e | ⟨ad, rfl, hPad, hcell⟩
    · rw [e] at hs; simp at hs; omega
    · have hnil : w.ownsRow B 65 2 (.slice none 0 0) 0 [] := ⟨by simp, .inl ⟨rfl, rfl⟩⟩
      obtain ⟨g, cap, w', hrun, h2, h3, _, _⟩ := run_append_lies (P := Tryz.prog) w 22 22 B 65 i0 _ 2 24 Tryz.underlying22 hi0 hz0 hz1 hz2 rfl (by omega) (.slice none 0 0) 0 [] hnil ad l.length c (syCells l) hs hcell (syCells_one l) hpos (by simp only [maxLen]; omega) (by omega) hB _ rfl
      exact ⟨_, w', fun _ => (hrun :), by simpa using h2, h3, ⟨_, _, _, rfl⟩⟩

theorem Blk_three (w : World) (o o' : Obj) (t : Nat) (xs : Array Value) : Blk (((w.alloc o).alloc o').alloc (.cells xs t)) (w.heap.size + 1 + 1) t xs := by
  simpa using Blk.new ((w.alloc o).alloc o') t xs
theorem Rdg.owned {B : Nat} {wr w1 w2 : World} {sy : List Sy} {fs : List Fn} {bs : List (List UInt8)} {v0 v1 v2 : Value} {us : List Value} {o : Obj} (h : Rdg B wr sy fs bs v0 v1 v2 us) (hb1 : Below (wr.heap.size + 1) (wr.alloc o).drew w1) (hb2 : Below w1.heap.size w1 w2) (hz : wr.heap.size ≤ w1.heap.size) :
    w2.ownsRow B 52 5 v1 fs.length us := owns_kept3 h.ofn (fun b hb => by
  have h1 := (h.ofn.lt b hb).2
  exact (hb2.block b (by omega)).trans ((hb1.block b (by omega)).trans (Below.heap_alloc wr _ b h1)))
theorem Blk.five {w : World} {g : Nat} {t : TypeId} {a b c d e : Value} (h : Blk w g t #[a, b, c, d, e]) : w.cell? ⟨g, 0, none⟩ = some a ∧ w.cell? ⟨g, 1, none⟩ = some b ∧ w.cell? ⟨g, 2, none⟩ = some c ∧ w.cell? ⟨g, 3, none⟩ = some d ∧ w.cell? ⟨g, 4, none⟩ = some e :=
  ⟨h.cell 0, h.cell 1, h.cell 2, h.cell 3, h.cell 4⟩
theorem refScCopy_results {tmps : Array Value} {w : World} {a : Nat} {x y : Value} (h2 : tmps.getD 2 undef = .pointer (some ⟨a, 0, none⟩))
    (ha : Blk w a 25 #[x, y]) : (results Tryz.f34 tmps).run Tryz.prog w = .ok (.agg #[x, y]) w := by
  have h4 := ha.cell 0
  have h5 := ha.cell 1
  simp at h4 h5
  have h2' : tmps[2]?.getD undef = .pointer (some ⟨a, 0, none⟩) := by simpa using h2
  simp [results, Tryz.results34, go_sem, h2', h4, h5]
/-- What the loop of Copy holds behind k rounds. -/
structure RoundC (s : Sc) (k : Nat) (B : Nat) (w0 : World) (v0 v1 : Value) (us : List Value) (w : World) : Prop where
  rd : Rdg (B + 3) w s.syms (s.funs.take k) [] v0 v1 (.slice none 0 0) us
  out : Blk w (B + 1 + 1) 25 #[v0, v1]
  res : Blk w (B + 1) 25 #[.slice none 0 0, .slice none 0 0]
  bel : Below B w0 w
  f0 : ∃ A n c, v0 = .slice A n c
  f1 : ∃ A n c, v1 = .slice A n c

theorem RoundC.next {s : Sc} {k : Nat} {B : Nat} {w0 wr w1 w2 w3 : World} {v0 v1 : Value} {us : List Value} {x : Fn} {u v : Value} {fp : List Nat} {us2 : List Value} {o o1 : Obj} {gg cap : Nat}
    (hr : RoundC s k B w0 v0 v1 us wr) (hx : s.funs[k]? = some x) (hn : x.name.size ≤ maxLen)
    (hs1 : x.sort.Sep w1 u fp) (hnd : fp.Nodup) (hfp : ∀ b ∈ fp, wr.heap.size + 1 ≤ b ∧ b < w1.heap.size) (hb1 : Below (wr.heap.size + 1) (wr.alloc o).drew w1) (hz1 : wr.heap.size + 1 ≤ w1.heap.size)
    (hm2 : Mk w1.heap.size w2 x.body.args v us2) (hb2 : Below w1.heap.size w1 w2)
    (hown3 : w3.ownsRow (B + 3) 52 5 (.slice (some ⟨gg, 0, none⟩) ((s.funs.take k).length + 1) cap) ((s.funs.take k).length + 1) (us ++ [.string x.name, u, .int .i64 x.body.kind, .int .i64 x.body.num, v])) (hgrow : (w2.alloc o1).grownBy w3 v1.ownBlock)
    (hat : v1.ownBlock = some gg ∨ gg = w2.heap.size + 1) (hlt : gg < w3.heap.size) :
    RoundC s (k + 1) B w0 v0 (.slice (some ⟨gg, 0, none⟩) ((s.funs.take k).length + 1) cap) (us ++ [.string x.name, u, .int .i64 x.body.kind, .int .i64 x.body.num, v]) (w3.setCell ⟨B + 1 + 1, 1, none⟩ (.slice (some ⟨gg, 0, none⟩) ((s.funs.take k).length + 1) cap)) := by
  have hB3 : B + 1 + 1 < wr.heap.size := hr.out.lt
  have hz2 := hb2.size
  have hk1 : ∀ b, b < wr.heap.size → w1.heap[b]? = wr.heap[b]? := fun b hb => (hb1.block b (by omega)).trans (Below.heap_alloc wr o b hb)
  have hk2 : ∀ b, b < wr.heap.size → w2.heap[b]? = wr.heap[b]? := fun b hb => (hb2.block b (by omega)).trans (hk1 b hb)
  have hR2 : Rdg (B + 3) w2 s.syms (s.funs.take k) [] v0 v1 (.slice none 0 0) us := hr.rd.keep (by omega) (fun b _ hb => hk2 b hb)
  have hG : Grew w2 w3 v1 (.slice (some ⟨gg, 0, none⟩) ((s.funs.take k).length + 1) cap) := Grew.of hgrow hat hlt
  have l0 : ∀ b, v0.ownBlock = some b → b < wr.heap.size := fun b hb => (hr.rd.osy.lt b hb).2
  have l1 : ∀ b, v1.ownBlock = some b → b < wr.heap.size := fun b hb => (hr.rd.ofn.lt b hb).2
  have l1' : ∀ b, v1.ownBlock = some b → B + 3 ≤ b := fun b hb => (hr.rd.ofn.lt b hb).1
  have hP : ∀ b, wr.heap.size ≤ b → b < w2.heap.size → B + 3 ≤ b ∧ b < w2.heap.size ∧ v0.ownBlock ≠ some b ∧ v1.ownBlock ≠ some b ∧ (Value.slice none 0 0).ownBlock ≠ some b := fun b h1 h2 =>
    ⟨by omega, h2, fun e => by have := l0 b e; omega, fun e => by have := l1 b e; omega, by simp [Value.ownBlock]⟩
  have hp3 := hR2.pushFn x (u := u) (v := v) (fp := fp) hG (hs1.keep _ (fun b hb => hb2.block b (hfp b hb).2)) hnd (fun b hb => hP b (by have := (hfp b hb).1; omega) (by have := (hfp b hb).2; omega))
    (hm2.nterm.more (fun b hb => hP b (by have := hb.1; omega) hb.2) _) hn hown3
  have hts : s.funs.take (k + 1) = s.funs.take k ++ [x] := by rw [List.take_add_one, hx]; rfl
  have hk3 : ∀ b, b < wr.heap.size → v1.ownBlock ≠ some b → w3.heap[b]? = wr.heap[b]? := fun b hb hne => (hG.keep b (by omega) hne).trans (hk2 b hb)
  have hz3 := hG.size
  refine ⟨?_, ?_, ?_, ?_, hr.f0, ⟨_, _, _, rfl⟩⟩
  · rw [hts]
    exact hp3.put (by omega) _
  · have h1 : Blk w3 (B + 1 + 1) 25 #[v0, v1] := (hk3 _ hB3 (fun e => by have := l1' _ e; omega)).trans hr.out
    exact (h1.set_ 1 _).eq_ rfl
  · have h1 : Blk w3 (B + 1) 25 #[.slice none 0 0, .slice none 0 0] := (hk3 _ (by omega) (fun e => by have := l1' _ e; omega)).trans hr.res
    exact h1.far (by simp) _
  · refine Below.setCell (hr.bel.trans ?_) (by simp; omega) _
    exact ⟨hG.os.trans (hb2.os.trans hb1.os), hG.tape.trans (hb2.tape.trans hb1.tape), hG.output.trans (hb2.output.trans hb1.output), by omega, fun b hb => hk3 b (by omega) (fun e => by have := l1' _ e; omega)⟩

set_option maxRecDepth 100000 in
set_option maxHeartbeats 3200000 in
theorem refScCopy_any (s : Sc) (hok : s.ok = true) (v0 v1 : Value) (w : World) (hi : Nat) (hin : ScIn w hi s v0 v1) (hhi : hi ≤ w.heap.size) :
    Calls Tryz.prog 34 #[.agg #[v0, v1]] w fun e w' => ∃ u0 u1, e = .returned (.agg #[u0, u1]) ∧ ScIn w' w'.heap.size s u0 u1 ∧ Below w.heap.size w w' := by
  obtain ⟨i0, hi0, hz0, hz1, hz2⟩ := info_parts fn_info
  have G := Sc.good hok
  obtain ⟨A0, n0, c0, rfl, hn0, hnc0, hc0, hrd0, hsz0⟩ := hin.sy
  obtain ⟨A, _, c, us0, rfl, rfl, hnc, hc, hrd, hrow⟩ := hin.fn
  have hsl := G.sy_all.1
  have hN := G.n64
  have hw3 : Below w.heap.size w (((w.alloc (.cells #[.slice A0 n0 c0, .slice A s.funs.length c] 25)).alloc (.cells #[.slice none 0 0, .slice none 0 0] 25)).alloc (.cells #[.slice none 0 0, .slice none 0 0] 25)) := (((Below.refl _ _).alloc (Nat.le_refl _) _).alloc (by simp) _).alloc (by simp; omega) _
  obtain ⟨v', w4, hrun, hown4, hg4, A4, n4, c4, rfl⟩ := sy_append _ s.syms A0 n0 c0 _ hn0 (hrd0.keep (fun b hb => hw3.block b (by omega))) (by omega) (w.heap.size + 3) (by simp)
  have bS : Blk w4 w.heap.size 25 #[.slice A0 n0 c0, .slice A s.funs.length c] := (hg4.block _ (by simp; omega) (by simp)).trans (((Blk.new w _ _).alloc _).alloc _)
  have bR : Blk w4 (w.heap.size + 1) 25 #[.slice none 0 0, .slice none 0 0] := (hg4.block _ (by simp) (by simp)).trans (Blk.alloc (by simpa using Blk.new (w.alloc (.cells #[.slice A0 n0 c0, .slice A s.funs.length c] 25)) 25 #[.slice none 0 0, .slice none 0 0]) _)
  have bO : Blk w4 (w.heap.size + 1 + 1) 25 #[.slice none 0 0, .slice none 0 0] := (hg4.block _ (by simp) (by simp)).trans (Blk_three _ _ _ _ _)
  have hb4 : Below w.heap.size w w4 := hw3.grown hg4 (by simp; omega) (by simp)
  have hb5 : Below w.heap.size w (w4.setCell ⟨w.heap.size + 1 + 1, 0, none⟩ (.slice A4 n4 c4)) := hb4.setCell (by simp; omega) _
  have hlt4 := bO.lt
  have hrc : RoundC s 0 w.heap.size w (.slice A4 n4 c4) (.slice none 0 0) [] (w4.setCell ⟨w.heap.size + 1 + 1, 0, none⟩ (.slice A4 n4 c4)) := by
    refine ⟨Rdg.put ⟨hown4, ⟨by simp, .inl ⟨rfl, rfl⟩⟩, ⟨by simp, .inl ⟨rfl, rfl⟩⟩, by simp [FnMk], by simp [Value.ownBlock], by simp [Value.ownBlock], hsz0⟩ (by omega) _, ?_, bR.far (by simp) _, hb5, ⟨_, _, _, rfl⟩, ⟨_, _, _, rfl⟩⟩
    exact (bO.set_ 0 _).eq_ rfl
  have s1 := bS.cell 1
  have s2 := bO.cell 0
  have s3 := bO.frozen 0
  simp at s1 s2
  have HRC := Lib.hid hrc
  clear hrc hb4 hown4 hg4 bO bR bS
  go_enter Tryz.func34, Tryz.ntmps34
  go_wp2_with (at_builtin; refine Lib.wpList_append_run _ rfl _ _ _ _ rfl _ _ rfl rfl _ _ (hrun _) ?_)
  generalize hgg0 : w4.setCell ⟨w.heap.size + 1 + 1, 0, none⟩ (.slice A4 n4 c4) = wS at *
  clear hgg0 hrun s1 s2 s3 hlt4 hw3
  go_loopw [15] (fun i wr => ∃ k v1 us, k ≤ s.funs.length ∧ i = .int .i64 (k : Nat) ∧ RoundC s k w.heap.size w (.slice A4 n4 c4) v1 us wr) (fun i _ => s.funs.length - (intOf i).toNat)
  case atStart => exact ⟨0, _, [], Nat.zero_le _, rfl, HRC.out⟩
  case round =>
    obtain ⟨k, v1, us, hk, rfl, hr⟩ := hrel
    have hsz := hr.bel.size
    have hsz1 := hr.out.lt
    by_cases hlt : k < s.funs.length
    · have hx : s.funs[k]? = some s.funs[k] := List.getElem?_eq_getElem hlt
      obtain ⟨ad, u, v, rfl, hPa, hel, hsu, hbv, hsx⟩ := fn_el hrd hrow hx
      obtain ⟨r0, r1, r2, r3, r4⟩ := hel.keep (hr.bel.block _ (by omega))
      obtain ⟨A2, n2, c2, rfl⟩ := hsu.form
      obtain ⟨A3, n3, c3, rfl⟩ := hbv.form
      have hcb := (G.body (List.getElem_mem hlt)).1
      have hcs := S.ok_count (G.so _ (List.getElem_mem hlt))
      have HX := Lib.hid hx
      have hkl : (s.funs.take k).length = k := by rw [List.length_take]; omega
      have HL := Lib.hid hkl
      generalize hxx : s.funs[k] = x at *
      clear hxx
      have hih1 := fun w' (h : Below (wr.heap.size + 1) (wr.alloc (.cells #[.string x.name, .slice A2 n2 c2, .int .i64 x.body.kind, .int .i64 x.body.num, .slice A3 n3 c3] 52)).drew w') =>
        copyL_any x.sort.count x.sort (.slice A2 n2 c2) w' 0 hi (Nat.le_refl _) (by omega) ((((hsu.below hr.bel hhi).below ((Below.refl wr.heap.size wr).alloc (Nat.le_refl _) _) (by omega)).below (Below.refl _ _).drew (Nat.le_refl _)).below h (by omega)) (by have h2 : (wr.alloc (.cells #[.string x.name, .slice A2 n2 c2, .int .i64 x.body.kind, .int .i64 x.body.num, .slice A3 n3 c3] 52)).heap.size ≤ w'.heap.size := h.size; simp at h2; omega)
      have hih2 := fun w' (h : Below (wr.heap.size + 1) (wr.alloc (.cells #[.string x.name, .slice A2 n2 c2, .int .i64 x.body.kind, .int .i64 x.body.num, .slice A3 n3 c3] 52)).drew w') =>
        copyT_any x.body.count x.body (.slice A3 n3 c3) w' (fun b => b < hi) (Nat.le_refl _) (by omega) ((((hbv.below hr.bel (fun b hb => by omega)).below ((Below.refl wr.heap.size wr).alloc (Nat.le_refl _) _) (fun b hb => by omega)).below (Below.refl wr.heap.size _).drew (fun b hb => by omega)).below h (fun b hb => by omega)) (fun b hb => by have h2 : (wr.alloc (.cells #[.string x.name, .slice A2 n2 c2, .int .i64 x.body.kind, .int .i64 x.body.num, .slice A3 n3 c3] 52)).heap.size ≤ w'.heap.size := h.size; simp at h2; omega)
      have HIH1 := Lib.hid hih1
      have HIH2 := Lib.hid hih2
      have hxB := Blk.new wr 52 #[.string x.name, .slice A2 n2 c2, .int .i64 x.body.kind, .int .i64 x.body.num, .slice A3 n3 c3]
      have d0 := (hr.out.alloc (.cells #[.string x.name, .slice A2 n2 c2, .int .i64 x.body.kind, .int .i64 x.body.num, .slice A3 n3 c3] 52)).cell 1
      skip
      skip
      skip
      skip
      skip
      have HXB := Lib.hid (hxB.drew)
      clear hih1 hih2 hx hkl hel hsu hbv hxB
      go_wp2_with fail
      refine wp_region_held_drew (S := (fun W : World => W.cell? ⟨wr.heap.size, 0, none⟩ = some (.string x.name) ∧ W.cell? ⟨wr.heap.size, 1, none⟩ = some (.slice A2 n2 c2) ∧ W.cell? ⟨wr.heap.size, 2, none⟩ = some (.int .i64 x.body.kind) ∧ W.cell? ⟨wr.heap.size, 3, none⟩ = some (.int .i64 x.body.num) ∧ W.cell? ⟨wr.heap.size, 4, none⟩ = some (.slice A3 n3 c3))) (by kernel_rfl) (Blk.five HXB.out) (fun hHeld => ?_)
      refine wpAnyH_take (i := 0) (oi := { dst := some 19, op := Op.fieldAddr 25 (Operand.tmp 3) 1, type := 0, pos := "ref.go:80", after := #[], guard := none }) (v := ?_) rfl (by kernel_rfl) (by kernel_rfl) (by kernel_rfl) (fun _ _ _ h => h) (Or.inl ⟨by rfl, ?_⟩) (by assumption) ?_
      rotate_left 1
      · intro w hSw
        (try dsimp only at hSw)
        go_simp <;> with_reducible rfl
      try simp only [Act.put, List.setIfInBounds_toArray, List.set_cons_zero, List.set_cons_succ]
      refine wpAnyH_take (i := 2) (oi := { dst := some 21, op := Op.fieldAddr 52 (Operand.tmp 5) 0, type := 0, pos := "ref.go:80", after := #[], guard := none }) (v := ?_) rfl (by kernel_rfl) (by kernel_rfl) (by kernel_rfl) (fun _ _ _ h => h) (Or.inl ⟨by rfl, ?_⟩) (by assumption) ?_
      rotate_left 1
      · intro w hSw
        (try dsimp only at hSw)
        go_simp <;> with_reducible rfl
      try simp only [Act.put, List.setIfInBounds_toArray, List.set_cons_zero, List.set_cons_succ]
      refine wpAnyH_take (i := 3) (oi := { dst := some 22, op := Op.load 9 (Operand.tmp 21), type := 9, pos := "ref.go:80", after := #[{ on := 2, ground := Ground.data }], guard := none }) (v := ?_) rfl (by kernel_rfl) (by kernel_rfl) (by kernel_rfl) (fun _ _ _ h => h) (Or.inl ⟨by rfl, ?_⟩) (by assumption) ?_
      rotate_left 1
      · intro w hSw
        (try dsimp only at hSw)
        go_simp <;> with_reducible rfl
      try simp only [Act.put, List.setIfInBounds_toArray, List.set_cons_zero, List.set_cons_succ]
      refine wpAnyH_take (i := 4) (oi := { dst := some 23, op := Op.fieldAddr 52 (Operand.tmp 5) 1, type := 0, pos := "ref.go:80", after := #[], guard := none }) (v := ?_) rfl (by kernel_rfl) (by kernel_rfl) (by kernel_rfl) (fun _ _ _ h => h) (Or.inl ⟨by rfl, ?_⟩) (by assumption) ?_
      rotate_left 1
      · intro w hSw
        (try dsimp only at hSw)
        go_simp <;> with_reducible rfl
      try simp only [Act.put, List.setIfInBounds_toArray, List.set_cons_zero, List.set_cons_succ]
      refine wpAnyH_take (i := 5) (oi := { dst := some 24, op := Op.load 47 (Operand.tmp 23), type := 47, pos := "ref.go:80", after := #[{ on := 4, ground := Ground.data }], guard := none }) (v := ?_) rfl (by kernel_rfl) (by kernel_rfl) (by kernel_rfl) (fun _ _ _ h => h) (Or.inl ⟨by rfl, ?_⟩) (by assumption) ?_
      rotate_left 1
      · intro w hSw
        (try dsimp only at hSw)
        go_simp <;> with_reducible rfl
      try simp only [Act.put, List.setIfInBounds_toArray, List.set_cons_zero, List.set_cons_succ]
      refine wpAnyH_take (i := 7) (oi := { dst := some 26, op := Op.fieldAddr 52 (Operand.tmp 5) 2, type := 0, pos := "ref.go:80", after := #[], guard := none }) (v := ?_) rfl (by kernel_rfl) (by kernel_rfl) (by kernel_rfl) (fun _ _ _ h => h) (Or.inl ⟨by rfl, ?_⟩) (by assumption) ?_
      rotate_left 1
      · intro w hSw
        (try dsimp only at hSw)
        go_simp <;> with_reducible rfl
      try simp only [Act.put, List.setIfInBounds_toArray, List.set_cons_zero, List.set_cons_succ]
      refine wpAnyH_take (i := 8) (oi := { dst := some 27, op := Op.load 50 (Operand.tmp 26), type := 50, pos := "ref.go:80", after := #[{ on := 7, ground := Ground.data }], guard := none }) (v := ?_) rfl (by kernel_rfl) (by kernel_rfl) (by kernel_rfl) (fun _ _ _ h => h) (Or.inl ⟨by rfl, ?_⟩) (by assumption) ?_
      rotate_left 1
      · intro w hSw
        (try dsimp only at hSw)
        go_simp <;> with_reducible rfl
      try simp only [Act.put, List.setIfInBounds_toArray, List.set_cons_zero, List.set_cons_succ]
      refine wpAnyH_ready (rs := [1, 6]) (by kernel_rfl) (by simp) ?_
      refine AllReadyH.cons (o := { dst := some 20, op := Op.load 23 (Operand.tmp 19), type := 23, pos := "ref.go:80", after := #[{ on := 0, ground := Ground.data }], guard := none }) rfl (fun K hK => ?_) ?_
      · skip
        go_simp
        refine hK.out _ _ (Blk.five HXB.out) (fun hHeld => ?_)
        clear hK K
        try simp only [Act.put, List.setIfInBounds_toArray, List.set_cons_zero, List.set_cons_succ]
        refine wpAnyH_ready (rs := [6]) (by kernel_rfl) (by simp) ?_
        refine AllReadyH.cons (o := { dst := some 25, op := Op.call { callee := Callee.value (Operand.func 77), args := #[Operand.tmp 24], argTypes := #[47] }, type := 47, pos := "ref.go:80", after := #[{ on := 5, ground := Ground.data }], guard := none }) rfl (fun K hK => ?_) ?_
        · skip
          go_simp
          go_at_call 77
          refine (HIH1.out _ (by exact Below.refl _ _)).mono ?_
          rintro e w1 ⟨y1, fp1, rfl, hsep1, hnod1, hrng1, hb1⟩
          obtain ⟨Ay, ny, cy, rfl⟩ := hsep1.form
          have hwz1 : wr.heap.size + 1 ≤ w1.heap.size := by have h : (wr.alloc (.cells #[.string x.name, .slice A2 n2 c2, .int .i64 x.body.kind, .int .i64 x.body.num, .slice A3 n3 c3] 52)).heap.size ≤ w1.heap.size := hb1.size; simpa using h
          have hbb1 : Below (wr.heap.size + 1) (wr.alloc (.cells #[.string x.name, .slice A2 n2 c2, .int .i64 x.body.kind, .int .i64 x.body.num, .slice A3 n3 c3] 52)).drew w1 := hb1.mono (by show _ ≤ (wr.alloc _).heap.size; simp)
          have hblk1 : Blk w1 (w.heap.size + 1 + 1) 25 #[.slice A4 n4 c4, v1] := ((hr.out.alloc _).drew).below hbb1 (by omega)
          have hxb1 : Blk w1 wr.heap.size 52 #[.string x.name, .slice A2 n2 c2, .int .i64 x.body.kind, .int .i64 x.body.num, .slice A3 n3 c3] := ((Blk.new wr 52 _).drew).below hbb1 (by omega)
          have p0 := hblk1.cell 1
          simp at p0
          go_wp2_with fail
          refine hK.out _ _ (Blk.five hxb1) (fun hHeld => ?_)
          clear hK K
          try simp only [Act.put, List.setIfInBounds_toArray, List.set_cons_zero, List.set_cons_succ]
          refine wpAnyH_ready (rs := [9]) (by kernel_rfl) (by simp) ?_
          refine AllReadyH.cons (o := { dst := some 28, op := Op.call { callee := Callee.value (Operand.func 78), args := #[Operand.tmp 27], argTypes := #[50] }, type := 50, pos := "ref.go:80", after := #[{ on := 8, ground := Ground.data }, { on := 6, ground := Ground.chain }], guard := none }) rfl (fun K hK => ?_) ?_
          · skip
            go_simp
            go_at_call 78
            refine (HIH2.out _ hbb1).mono ?_
            rintro e w2 ⟨z2, us2, rfl, hm2, hb2⟩
            obtain ⟨Az, cz, rfl⟩ := hm2.form
            generalize hnz : x.body.args.length = nz at *
            have hwz2 := hb2.size
            have hblk2 : Blk w2 (w.heap.size + 1 + 1) 25 #[.slice A4 n4 c4, v1] := hblk1.below hb2 (by omega)
            have hxb2 : Blk w2 wr.heap.size 52 #[.string x.name, .slice A2 n2 c2, .int .i64 x.body.kind, .int .i64 x.body.num, .slice A3 n3 c3] := hxb1.below hb2 (by omega)
            have hown2 : w2.ownsRow (w.heap.size + 3) 52 5 v1 (s.funs.take k).length us := hr.rd.owned hbb1 hb2 (by omega)
            have q0 := hblk2.cell 1
            have q5 : (w2.alloc (.cells #[.string x.name, .slice Ay ny cy, .int .i64 x.body.kind, .int .i64 x.body.num, .slice Az nz cz] 52)).cell? ⟨w.heap.size + 1 + 1, 1, none⟩ = some v1 := (hblk2.alloc _).cell 1
            simp at q0
            go_wp2_with fail
            refine hK.out _ _ (Blk.five hxb2) (fun hHeld => ?_)
            clear hK K
            try simp only [Act.put, List.setIfInBounds_toArray, List.set_cons_zero, List.set_cons_succ]
            refine wpAnyH_take (i := 10) (oi := { dst := some 29, op := Op.build 52 #[(0, Operand.tmp 22), (1, Operand.tmp 25), (2, Operand.tmp 28)], type := 52, pos := "ref.go:80", after := #[{ on := 3, ground := Ground.data }, { on := 6, ground := Ground.data }, { on := 9, ground := Ground.data }], guard := none }) (v := ?_) rfl (by kernel_rfl) (by kernel_rfl) (by kernel_rfl) (fun _ _ _ h => h) (Or.inl ⟨by rfl, ?_⟩) (by assumption) ?_
            rotate_left 1
            · intro w hSw
              (try dsimp only at hSw)
              go_simp <;> with_reducible rfl
            try simp only [Act.put, List.setIfInBounds_toArray, List.set_cons_zero, List.set_cons_succ]
            refine wpAnyH_ready (rs := [11]) (by kernel_rfl) (by simp) ?_
            refine AllReadyH.cons (o := { dst := some 30, op := Op.buildSlice 23 1 #[(0, Operand.tmp 29)], type := 23, pos := "ref.go:80", after := #[{ on := 10, ground := Ground.data }], guard := none }) rfl (fun K hK => ?_) ?_
            · skip
              go_simp
              refine hK.out _ _ (Blk.five (hxb2.alloc _)) (fun hHeld => ?_)
              clear hK K
              try simp only [Act.put, List.setIfInBounds_toArray, List.set_cons_zero, List.set_cons_succ]
              refine wpAnyH_ready (rs := [12]) (by kernel_rfl) (by simp) ?_
              refine AllReadyH.cons (o := { dst := some 31, op := Op.call { callee := Callee.builtin Builtin.append, args := #[Operand.tmp 20, Operand.tmp 30], argTypes := #[23, 23] }, type := 23, pos := "ref.go:80", after := #[{ on := 1, ground := Ground.data }, { on := 11, ground := Ground.data }, { on := 9, ground := Ground.chain }], guard := none }) rfl (fun K hK => ?_) ?_
              · skip
                refine step_append_lies _ (by rfl) _ _ _ (by rfl) (w.heap.size + 3) 52 i0 _ 5 80 Tryz.underlying23 hi0 hz0 hz1 hz2 rfl (by omega) v1 _ us (by rfl) (by exact (hown2.alloc _)) ⟨w2.heap.size, 0, none⟩ 1 1 [.string x.name, .slice Ay ny cy, .int .i64 x.body.kind, .int .i64 x.body.num, .slice Az nz cz] (by rfl) (by rfl) (by exact World.news_of_block (cs := #[.string x.name, .slice Ay ny cy, .int .i64 x.body.kind, .int .i64 x.body.num, .slice Az nz cz]) (t := 52) (fr := (0, 0)) (heap_alloc_new w2 _)) (by simp [Value.oneCell']) (by omega) (by rw [HL.out]; simp only [maxLen]; omega) (by rw [HL.out]; omega) (by simp; omega) (w2.heap.size + 1) (by simp) ?_
                intro gg cap w3 hown3 hgrow hat hlt3
                have hblk3 : Blk w3 (w.heap.size + 1 + 1) 25 #[.slice A4 n4 c4, v1] := (hgrow.block _ (by simp; omega) (fun e => by have := (hr.rd.ofn.lt _ e.symm).1; omega)).trans (hblk2.alloc _)
                have hxb3 : Blk w3 wr.heap.size 52 #[.string x.name, .slice A2 n2 c2, .int .i64 x.body.kind, .int .i64 x.body.num, .slice A3 n3 c3] := (hgrow.block _ (by simp; omega) (fun e => by have := (hr.rd.ofn.lt _ e.symm).2; omega)).trans (hxb2.alloc _)
                have g2 := hblk3.cell 1
                have g3 := hblk3.frozen 1
                simp at g2
                refine hK.out _ _ (Blk.five hxb3) (fun hHeld => ?_)
                clear hK K
                try simp only [Act.put, List.setIfInBounds_toArray, List.set_cons_zero, List.set_cons_succ]
                refine wpAnyH_take (i := 13) (oi := { dst := some 32, op := Op.fieldAddr 25 (Operand.tmp 3) 1, type := 0, pos := "ref.go:80", after := #[{ on := 0, ground := Ground.phase }, { on := 1, ground := Ground.phase }, { on := 2, ground := Ground.phase }, { on := 3, ground := Ground.phase }, { on := 4, ground := Ground.phase }, { on := 5, ground := Ground.phase }, { on := 6, ground := Ground.phase }, { on := 7, ground := Ground.phase }, { on := 8, ground := Ground.phase }, { on := 9, ground := Ground.phase }, { on := 10, ground := Ground.phase }, { on := 11, ground := Ground.phase }, { on := 12, ground := Ground.phase }], guard := none }) (v := ?_) rfl (by kernel_rfl) (by kernel_rfl) (by kernel_rfl) (fun _ _ _ h => h) (Or.inl ⟨by rfl, ?_⟩) (by assumption) ?_
                rotate_left 1
                · intro w hSw
                  (try dsimp only at hSw)
                  go_simp <;> with_reducible rfl
                try simp only [Act.put, List.setIfInBounds_toArray, List.set_cons_zero, List.set_cons_succ]
                refine wpAnyH_ready (rs := [14]) (by kernel_rfl) (by simp) ?_
                refine AllReadyH.cons (o := { dst := none, op := Op.store 23 (Operand.tmp 32) (Operand.tmp 31), type := 0, pos := "ref.go:80", after := #[{ on := 13, ground := Ground.data }, { on := 12, ground := Ground.data }, { on := 12, ground := Ground.chain }, { on := 0, ground := Ground.phase }, { on := 1, ground := Ground.phase }, { on := 2, ground := Ground.phase }, { on := 3, ground := Ground.phase }, { on := 4, ground := Ground.phase }, { on := 5, ground := Ground.phase }, { on := 6, ground := Ground.phase }, { on := 7, ground := Ground.phase }, { on := 8, ground := Ground.phase }, { on := 9, ground := Ground.phase }, { on := 10, ground := Ground.phase }, { on := 11, ground := Ground.phase }, { on := 12, ground := Ground.phase }], guard := none }) rfl (fun K hK => ?_) ?_
                · skip
                  go_simp
                  refine hK.out _ _ (Blk.five (hxb3.far (by simp; omega) _)) (fun hHeld => ?_)
                  clear hK K
                  try simp only [Act.put, List.setIfInBounds_toArray, List.set_cons_zero, List.set_cons_succ]
                  refine wpAnyH_done (by kernel_rfl) ?_ _
                  go_wp2_with fail
                  go_roundw
                  case rel =>
                    have hnx := hr.next HX.out hsx hsep1 hnod1 (fun b hb => by have h := hrng1 b hb; simp at h; exact h) hbb1 hwz1 hm2 hb2 hown3 hgrow hat hlt3
                    rw [HL.out] at hnx
                    exact ⟨k + 1, _, _, by omega, by go_num, hnx⟩
                  case measure => simp [Go.RowKit.intOf]; omega
                exact AllReadyH.nil
              exact AllReadyH.nil
            exact AllReadyH.nil
          exact AllReadyH.nil
        exact AllReadyH.nil
      refine AllReadyH.cons (o := { dst := some 25, op := Op.call { callee := Callee.value (Operand.func 77), args := #[Operand.tmp 24], argTypes := #[47] }, type := 47, pos := "ref.go:80", after := #[{ on := 5, ground := Ground.data }], guard := none }) rfl (fun K hK => ?_) ?_
      · skip
        go_simp
        go_at_call 77
        refine (HIH1.out _ (by exact Below.refl _ _)).mono ?_
        rintro e w1 ⟨y1, fp1, rfl, hsep1, hnod1, hrng1, hb1⟩
        obtain ⟨Ay, ny, cy, rfl⟩ := hsep1.form
        have hwz1 : wr.heap.size + 1 ≤ w1.heap.size := by have h : (wr.alloc (.cells #[.string x.name, .slice A2 n2 c2, .int .i64 x.body.kind, .int .i64 x.body.num, .slice A3 n3 c3] 52)).heap.size ≤ w1.heap.size := hb1.size; simpa using h
        have hbb1 : Below (wr.heap.size + 1) (wr.alloc (.cells #[.string x.name, .slice A2 n2 c2, .int .i64 x.body.kind, .int .i64 x.body.num, .slice A3 n3 c3] 52)).drew w1 := hb1.mono (by show _ ≤ (wr.alloc _).heap.size; simp)
        have hblk1 : Blk w1 (w.heap.size + 1 + 1) 25 #[.slice A4 n4 c4, v1] := ((hr.out.alloc _).drew).below hbb1 (by omega)
        have hxb1 : Blk w1 wr.heap.size 52 #[.string x.name, .slice A2 n2 c2, .int .i64 x.body.kind, .int .i64 x.body.num, .slice A3 n3 c3] := ((Blk.new wr 52 _).drew).below hbb1 (by omega)
        have p0 := hblk1.cell 1
        simp at p0
        go_wp2_with fail
        refine hK.out _ _ (Blk.five hxb1) (fun hHeld => ?_)
        clear hK K
        try simp only [Act.put, List.setIfInBounds_toArray, List.set_cons_zero, List.set_cons_succ]
        refine wpAnyH_ready (rs := [1, 9]) (by kernel_rfl) (by simp) ?_
        refine AllReadyH.cons (o := { dst := some 20, op := Op.load 23 (Operand.tmp 19), type := 23, pos := "ref.go:80", after := #[{ on := 0, ground := Ground.data }], guard := none }) rfl (fun K hK => ?_) ?_
        · skip
          go_simp
          refine hK.out _ _ (Blk.five hxb1) (fun hHeld => ?_)
          clear hK K
          try simp only [Act.put, List.setIfInBounds_toArray, List.set_cons_zero, List.set_cons_succ]
          refine wpAnyH_ready (rs := [9]) (by kernel_rfl) (by simp) ?_
          refine AllReadyH.cons (o := { dst := some 28, op := Op.call { callee := Callee.value (Operand.func 78), args := #[Operand.tmp 27], argTypes := #[50] }, type := 50, pos := "ref.go:80", after := #[{ on := 8, ground := Ground.data }, { on := 6, ground := Ground.chain }], guard := none }) rfl (fun K hK => ?_) ?_
          · skip
            go_simp
            go_at_call 78
            refine (HIH2.out _ hbb1).mono ?_
            rintro e w2 ⟨z2, us2, rfl, hm2, hb2⟩
            obtain ⟨Az, cz, rfl⟩ := hm2.form
            generalize hnz : x.body.args.length = nz at *
            have hwz2 := hb2.size
            have hblk2 : Blk w2 (w.heap.size + 1 + 1) 25 #[.slice A4 n4 c4, v1] := hblk1.below hb2 (by omega)
            have hxb2 : Blk w2 wr.heap.size 52 #[.string x.name, .slice A2 n2 c2, .int .i64 x.body.kind, .int .i64 x.body.num, .slice A3 n3 c3] := hxb1.below hb2 (by omega)
            have hown2 : w2.ownsRow (w.heap.size + 3) 52 5 v1 (s.funs.take k).length us := hr.rd.owned hbb1 hb2 (by omega)
            have q0 := hblk2.cell 1
            have q5 : (w2.alloc (.cells #[.string x.name, .slice Ay ny cy, .int .i64 x.body.kind, .int .i64 x.body.num, .slice Az nz cz] 52)).cell? ⟨w.heap.size + 1 + 1, 1, none⟩ = some v1 := (hblk2.alloc _).cell 1
            simp at q0
            go_wp2_with fail
            refine hK.out _ _ (Blk.five hxb2) (fun hHeld => ?_)
            clear hK K
            try simp only [Act.put, List.setIfInBounds_toArray, List.set_cons_zero, List.set_cons_succ]
            refine wpAnyH_take (i := 10) (oi := { dst := some 29, op := Op.build 52 #[(0, Operand.tmp 22), (1, Operand.tmp 25), (2, Operand.tmp 28)], type := 52, pos := "ref.go:80", after := #[{ on := 3, ground := Ground.data }, { on := 6, ground := Ground.data }, { on := 9, ground := Ground.data }], guard := none }) (v := ?_) rfl (by kernel_rfl) (by kernel_rfl) (by kernel_rfl) (fun _ _ _ h => h) (Or.inl ⟨by rfl, ?_⟩) (by assumption) ?_
            rotate_left 1
            · intro w hSw
              (try dsimp only at hSw)
              go_simp <;> with_reducible rfl
            try simp only [Act.put, List.setIfInBounds_toArray, List.set_cons_zero, List.set_cons_succ]
            refine wpAnyH_ready (rs := [11]) (by kernel_rfl) (by simp) ?_
            refine AllReadyH.cons (o := { dst := some 30, op := Op.buildSlice 23 1 #[(0, Operand.tmp 29)], type := 23, pos := "ref.go:80", after := #[{ on := 10, ground := Ground.data }], guard := none }) rfl (fun K hK => ?_) ?_
            · skip
              go_simp
              refine hK.out _ _ (Blk.five (hxb2.alloc _)) (fun hHeld => ?_)
              clear hK K
              try simp only [Act.put, List.setIfInBounds_toArray, List.set_cons_zero, List.set_cons_succ]
              refine wpAnyH_ready (rs := [12]) (by kernel_rfl) (by simp) ?_
              refine AllReadyH.cons (o := { dst := some 31, op := Op.call { callee := Callee.builtin Builtin.append, args := #[Operand.tmp 20, Operand.tmp 30], argTypes := #[23, 23] }, type := 23, pos := "ref.go:80", after := #[{ on := 1, ground := Ground.data }, { on := 11, ground := Ground.data }, { on := 9, ground := Ground.chain }], guard := none }) rfl (fun K hK => ?_) ?_
              · skip
                refine step_append_lies _ (by rfl) _ _ _ (by rfl) (w.heap.size + 3) 52 i0 _ 5 80 Tryz.underlying23 hi0 hz0 hz1 hz2 rfl (by omega) v1 _ us (by rfl) (by exact (hown2.alloc _)) ⟨w2.heap.size, 0, none⟩ 1 1 [.string x.name, .slice Ay ny cy, .int .i64 x.body.kind, .int .i64 x.body.num, .slice Az nz cz] (by rfl) (by rfl) (by exact World.news_of_block (cs := #[.string x.name, .slice Ay ny cy, .int .i64 x.body.kind, .int .i64 x.body.num, .slice Az nz cz]) (t := 52) (fr := (0, 0)) (heap_alloc_new w2 _)) (by simp [Value.oneCell']) (by omega) (by rw [HL.out]; simp only [maxLen]; omega) (by rw [HL.out]; omega) (by simp; omega) (w2.heap.size + 1) (by simp) ?_
                intro gg cap w3 hown3 hgrow hat hlt3
                have hblk3 : Blk w3 (w.heap.size + 1 + 1) 25 #[.slice A4 n4 c4, v1] := (hgrow.block _ (by simp; omega) (fun e => by have := (hr.rd.ofn.lt _ e.symm).1; omega)).trans (hblk2.alloc _)
                have hxb3 : Blk w3 wr.heap.size 52 #[.string x.name, .slice A2 n2 c2, .int .i64 x.body.kind, .int .i64 x.body.num, .slice A3 n3 c3] := (hgrow.block _ (by simp; omega) (fun e => by have := (hr.rd.ofn.lt _ e.symm).2; omega)).trans (hxb2.alloc _)
                have g2 := hblk3.cell 1
                have g3 := hblk3.frozen 1
                simp at g2
                refine hK.out _ _ (Blk.five hxb3) (fun hHeld => ?_)
                clear hK K
                try simp only [Act.put, List.setIfInBounds_toArray, List.set_cons_zero, List.set_cons_succ]
                refine wpAnyH_take (i := 13) (oi := { dst := some 32, op := Op.fieldAddr 25 (Operand.tmp 3) 1, type := 0, pos := "ref.go:80", after := #[{ on := 0, ground := Ground.phase }, { on := 1, ground := Ground.phase }, { on := 2, ground := Ground.phase }, { on := 3, ground := Ground.phase }, { on := 4, ground := Ground.phase }, { on := 5, ground := Ground.phase }, { on := 6, ground := Ground.phase }, { on := 7, ground := Ground.phase }, { on := 8, ground := Ground.phase }, { on := 9, ground := Ground.phase }, { on := 10, ground := Ground.phase }, { on := 11, ground := Ground.phase }, { on := 12, ground := Ground.phase }], guard := none }) (v := ?_) rfl (by kernel_rfl) (by kernel_rfl) (by kernel_rfl) (fun _ _ _ h => h) (Or.inl ⟨by rfl, ?_⟩) (by assumption) ?_
                rotate_left 1
                · intro w hSw
                  (try dsimp only at hSw)
                  go_simp <;> with_reducible rfl
                try simp only [Act.put, List.setIfInBounds_toArray, List.set_cons_zero, List.set_cons_succ]
                refine wpAnyH_ready (rs := [14]) (by kernel_rfl) (by simp) ?_
                refine AllReadyH.cons (o := { dst := none, op := Op.store 23 (Operand.tmp 32) (Operand.tmp 31), type := 0, pos := "ref.go:80", after := #[{ on := 13, ground := Ground.data }, { on := 12, ground := Ground.data }, { on := 12, ground := Ground.chain }, { on := 0, ground := Ground.phase }, { on := 1, ground := Ground.phase }, { on := 2, ground := Ground.phase }, { on := 3, ground := Ground.phase }, { on := 4, ground := Ground.phase }, { on := 5, ground := Ground.phase }, { on := 6, ground := Ground.phase }, { on := 7, ground := Ground.phase }, { on := 8, ground := Ground.phase }, { on := 9, ground := Ground.phase }, { on := 10, ground := Ground.phase }, { on := 11, ground := Ground.phase }, { on := 12, ground := Ground.phase }], guard := none }) rfl (fun K hK => ?_) ?_
                · skip
                  go_simp
                  refine hK.out _ _ (Blk.five (hxb3.far (by simp; omega) _)) (fun hHeld => ?_)
                  clear hK K
                  try simp only [Act.put, List.setIfInBounds_toArray, List.set_cons_zero, List.set_cons_succ]
                  refine wpAnyH_done (by kernel_rfl) ?_ _
                  go_wp2_with fail
                  go_roundw
                  case rel =>
                    have hnx := hr.next HX.out hsx hsep1 hnod1 (fun b hb => by have h := hrng1 b hb; simp at h; exact h) hbb1 hwz1 hm2 hb2 hown3 hgrow hat hlt3
                    rw [HL.out] at hnx
                    exact ⟨k + 1, _, _, by omega, by go_num, hnx⟩
                  case measure => simp [Go.RowKit.intOf]; omega
                exact AllReadyH.nil
              exact AllReadyH.nil
            exact AllReadyH.nil
          exact AllReadyH.nil
        refine AllReadyH.cons (o := { dst := some 28, op := Op.call { callee := Callee.value (Operand.func 78), args := #[Operand.tmp 27], argTypes := #[50] }, type := 50, pos := "ref.go:80", after := #[{ on := 8, ground := Ground.data }, { on := 6, ground := Ground.chain }], guard := none }) rfl (fun K hK => ?_) ?_
        · skip
          go_simp
          go_at_call 78
          refine (HIH2.out _ hbb1).mono ?_
          rintro e w2 ⟨z2, us2, rfl, hm2, hb2⟩
          obtain ⟨Az, cz, rfl⟩ := hm2.form
          generalize hnz : x.body.args.length = nz at *
          have hwz2 := hb2.size
          have hblk2 : Blk w2 (w.heap.size + 1 + 1) 25 #[.slice A4 n4 c4, v1] := hblk1.below hb2 (by omega)
          have hxb2 : Blk w2 wr.heap.size 52 #[.string x.name, .slice A2 n2 c2, .int .i64 x.body.kind, .int .i64 x.body.num, .slice A3 n3 c3] := hxb1.below hb2 (by omega)
          have hown2 : w2.ownsRow (w.heap.size + 3) 52 5 v1 (s.funs.take k).length us := hr.rd.owned hbb1 hb2 (by omega)
          have q0 := hblk2.cell 1
          have q5 : (w2.alloc (.cells #[.string x.name, .slice Ay ny cy, .int .i64 x.body.kind, .int .i64 x.body.num, .slice Az nz cz] 52)).cell? ⟨w.heap.size + 1 + 1, 1, none⟩ = some v1 := (hblk2.alloc _).cell 1
          simp at q0
          go_wp2_with fail
          refine hK.out _ _ (Blk.five hxb2) (fun hHeld => ?_)
          clear hK K
          try simp only [Act.put, List.setIfInBounds_toArray, List.set_cons_zero, List.set_cons_succ]
          refine wpAnyH_take (i := 10) (oi := { dst := some 29, op := Op.build 52 #[(0, Operand.tmp 22), (1, Operand.tmp 25), (2, Operand.tmp 28)], type := 52, pos := "ref.go:80", after := #[{ on := 3, ground := Ground.data }, { on := 6, ground := Ground.data }, { on := 9, ground := Ground.data }], guard := none }) (v := ?_) rfl (by kernel_rfl) (by kernel_rfl) (by kernel_rfl) (fun _ _ _ h => h) (Or.inl ⟨by rfl, ?_⟩) (by assumption) ?_
          rotate_left 1
          · intro w hSw
            (try dsimp only at hSw)
            go_simp <;> with_reducible rfl
          try simp only [Act.put, List.setIfInBounds_toArray, List.set_cons_zero, List.set_cons_succ]
          refine wpAnyH_ready (rs := [1, 11]) (by kernel_rfl) (by simp) ?_
          refine AllReadyH.cons (o := { dst := some 20, op := Op.load 23 (Operand.tmp 19), type := 23, pos := "ref.go:80", after := #[{ on := 0, ground := Ground.data }], guard := none }) rfl (fun K hK => ?_) ?_
          · skip
            go_simp
            refine hK.out _ _ (Blk.five hxb2) (fun hHeld => ?_)
            clear hK K
            try simp only [Act.put, List.setIfInBounds_toArray, List.set_cons_zero, List.set_cons_succ]
            refine wpAnyH_ready (rs := [11]) (by kernel_rfl) (by simp) ?_
            refine AllReadyH.cons (o := { dst := some 30, op := Op.buildSlice 23 1 #[(0, Operand.tmp 29)], type := 23, pos := "ref.go:80", after := #[{ on := 10, ground := Ground.data }], guard := none }) rfl (fun K hK => ?_) ?_
            · skip
              go_simp
              refine hK.out _ _ (Blk.five (hxb2.alloc _)) (fun hHeld => ?_)
              clear hK K
              try simp only [Act.put, List.setIfInBounds_toArray, List.set_cons_zero, List.set_cons_succ]
              refine wpAnyH_ready (rs := [12]) (by kernel_rfl) (by simp) ?_
              refine AllReadyH.cons (o := { dst := some 31, op := Op.call { callee := Callee.builtin Builtin.append, args := #[Operand.tmp 20, Operand.tmp 30], argTypes := #[23, 23] }, type := 23, pos := "ref.go:80", after := #[{ on := 1, ground := Ground.data }, { on := 11, ground := Ground.data }, { on := 9, ground := Ground.chain }], guard := none }) rfl (fun K hK => ?_) ?_
              · skip
                refine step_append_lies _ (by rfl) _ _ _ (by rfl) (w.heap.size + 3) 52 i0 _ 5 80 Tryz.underlying23 hi0 hz0 hz1 hz2 rfl (by omega) v1 _ us (by rfl) (by exact (hown2.alloc _)) ⟨w2.heap.size, 0, none⟩ 1 1 [.string x.name, .slice Ay ny cy, .int .i64 x.body.kind, .int .i64 x.body.num, .slice Az nz cz] (by rfl) (by rfl) (by exact World.news_of_block (cs := #[.string x.name, .slice Ay ny cy, .int .i64 x.body.kind, .int .i64 x.body.num, .slice Az nz cz]) (t := 52) (fr := (0, 0)) (heap_alloc_new w2 _)) (by simp [Value.oneCell']) (by omega) (by rw [HL.out]; simp only [maxLen]; omega) (by rw [HL.out]; omega) (by simp; omega) (w2.heap.size + 1) (by simp) ?_
                intro gg cap w3 hown3 hgrow hat hlt3
                have hblk3 : Blk w3 (w.heap.size + 1 + 1) 25 #[.slice A4 n4 c4, v1] := (hgrow.block _ (by simp; omega) (fun e => by have := (hr.rd.ofn.lt _ e.symm).1; omega)).trans (hblk2.alloc _)
                have hxb3 : Blk w3 wr.heap.size 52 #[.string x.name, .slice A2 n2 c2, .int .i64 x.body.kind, .int .i64 x.body.num, .slice A3 n3 c3] := (hgrow.block _ (by simp; omega) (fun e => by have := (hr.rd.ofn.lt _ e.symm).2; omega)).trans (hxb2.alloc _)
                have g2 := hblk3.cell 1
                have g3 := hblk3.frozen 1
                simp at g2
                refine hK.out _ _ (Blk.five hxb3) (fun hHeld => ?_)
                clear hK K
                try simp only [Act.put, List.setIfInBounds_toArray, List.set_cons_zero, List.set_cons_succ]
                refine wpAnyH_take (i := 13) (oi := { dst := some 32, op := Op.fieldAddr 25 (Operand.tmp 3) 1, type := 0, pos := "ref.go:80", after := #[{ on := 0, ground := Ground.phase }, { on := 1, ground := Ground.phase }, { on := 2, ground := Ground.phase }, { on := 3, ground := Ground.phase }, { on := 4, ground := Ground.phase }, { on := 5, ground := Ground.phase }, { on := 6, ground := Ground.phase }, { on := 7, ground := Ground.phase }, { on := 8, ground := Ground.phase }, { on := 9, ground := Ground.phase }, { on := 10, ground := Ground.phase }, { on := 11, ground := Ground.phase }, { on := 12, ground := Ground.phase }], guard := none }) (v := ?_) rfl (by kernel_rfl) (by kernel_rfl) (by kernel_rfl) (fun _ _ _ h => h) (Or.inl ⟨by rfl, ?_⟩) (by assumption) ?_
                rotate_left 1
                · intro w hSw
                  (try dsimp only at hSw)
                  go_simp <;> with_reducible rfl
                try simp only [Act.put, List.setIfInBounds_toArray, List.set_cons_zero, List.set_cons_succ]
                refine wpAnyH_ready (rs := [14]) (by kernel_rfl) (by simp) ?_
                refine AllReadyH.cons (o := { dst := none, op := Op.store 23 (Operand.tmp 32) (Operand.tmp 31), type := 0, pos := "ref.go:80", after := #[{ on := 13, ground := Ground.data }, { on := 12, ground := Ground.data }, { on := 12, ground := Ground.chain }, { on := 0, ground := Ground.phase }, { on := 1, ground := Ground.phase }, { on := 2, ground := Ground.phase }, { on := 3, ground := Ground.phase }, { on := 4, ground := Ground.phase }, { on := 5, ground := Ground.phase }, { on := 6, ground := Ground.phase }, { on := 7, ground := Ground.phase }, { on := 8, ground := Ground.phase }, { on := 9, ground := Ground.phase }, { on := 10, ground := Ground.phase }, { on := 11, ground := Ground.phase }, { on := 12, ground := Ground.phase }], guard := none }) rfl (fun K hK => ?_) ?_
                · skip
                  go_simp
                  refine hK.out _ _ (Blk.five (hxb3.far (by simp; omega) _)) (fun hHeld => ?_)
                  clear hK K
                  try simp only [Act.put, List.setIfInBounds_toArray, List.set_cons_zero, List.set_cons_succ]
                  refine wpAnyH_done (by kernel_rfl) ?_ _
                  go_wp2_with fail
                  go_roundw
                  case rel =>
                    have hnx := hr.next HX.out hsx hsep1 hnod1 (fun b hb => by have h := hrng1 b hb; simp at h; exact h) hbb1 hwz1 hm2 hb2 hown3 hgrow hat hlt3
                    rw [HL.out] at hnx
                    exact ⟨k + 1, _, _, by omega, by go_num, hnx⟩
                  case measure => simp [Go.RowKit.intOf]; omega
                exact AllReadyH.nil
              exact AllReadyH.nil
            exact AllReadyH.nil
          refine AllReadyH.cons (o := { dst := some 30, op := Op.buildSlice 23 1 #[(0, Operand.tmp 29)], type := 23, pos := "ref.go:80", after := #[{ on := 10, ground := Ground.data }], guard := none }) rfl (fun K hK => ?_) ?_
          · skip
            go_simp
            refine hK.out _ _ (Blk.five (hxb2.alloc _)) (fun hHeld => ?_)
            clear hK K
            try simp only [Act.put, List.setIfInBounds_toArray, List.set_cons_zero, List.set_cons_succ]
            refine wpAnyH_ready (rs := [1]) (by kernel_rfl) (by simp) ?_
            refine AllReadyH.cons (o := { dst := some 20, op := Op.load 23 (Operand.tmp 19), type := 23, pos := "ref.go:80", after := #[{ on := 0, ground := Ground.data }], guard := none }) rfl (fun K hK => ?_) ?_
            · skip
              go_simp
              refine hK.out _ _ (Blk.five (hxb2.alloc _)) (fun hHeld => ?_)
              clear hK K
              try simp only [Act.put, List.setIfInBounds_toArray, List.set_cons_zero, List.set_cons_succ]
              refine wpAnyH_ready (rs := [12]) (by kernel_rfl) (by simp) ?_
              refine AllReadyH.cons (o := { dst := some 31, op := Op.call { callee := Callee.builtin Builtin.append, args := #[Operand.tmp 20, Operand.tmp 30], argTypes := #[23, 23] }, type := 23, pos := "ref.go:80", after := #[{ on := 1, ground := Ground.data }, { on := 11, ground := Ground.data }, { on := 9, ground := Ground.chain }], guard := none }) rfl (fun K hK => ?_) ?_
              · skip
                refine step_append_lies _ (by rfl) _ _ _ (by rfl) (w.heap.size + 3) 52 i0 _ 5 80 Tryz.underlying23 hi0 hz0 hz1 hz2 rfl (by omega) v1 _ us (by rfl) (by exact (hown2.alloc _)) ⟨w2.heap.size, 0, none⟩ 1 1 [.string x.name, .slice Ay ny cy, .int .i64 x.body.kind, .int .i64 x.body.num, .slice Az nz cz] (by rfl) (by rfl) (by exact World.news_of_block (cs := #[.string x.name, .slice Ay ny cy, .int .i64 x.body.kind, .int .i64 x.body.num, .slice Az nz cz]) (t := 52) (fr := (0, 0)) (heap_alloc_new w2 _)) (by simp [Value.oneCell']) (by omega) (by rw [HL.out]; simp only [maxLen]; omega) (by rw [HL.out]; omega) (by simp; omega) (w2.heap.size + 1) (by simp) ?_
                intro gg cap w3 hown3 hgrow hat hlt3
                have hblk3 : Blk w3 (w.heap.size + 1 + 1) 25 #[.slice A4 n4 c4, v1] := (hgrow.block _ (by simp; omega) (fun e => by have := (hr.rd.ofn.lt _ e.symm).1; omega)).trans (hblk2.alloc _)
                have hxb3 : Blk w3 wr.heap.size 52 #[.string x.name, .slice A2 n2 c2, .int .i64 x.body.kind, .int .i64 x.body.num, .slice A3 n3 c3] := (hgrow.block _ (by simp; omega) (fun e => by have := (hr.rd.ofn.lt _ e.symm).2; omega)).trans (hxb2.alloc _)
                have g2 := hblk3.cell 1
                have g3 := hblk3.frozen 1
                simp at g2
                refine hK.out _ _ (Blk.five hxb3) (fun hHeld => ?_)
                clear hK K
                try simp only [Act.put, List.setIfInBounds_toArray, List.set_cons_zero, List.set_cons_succ]
                refine wpAnyH_take (i := 13) (oi := { dst := some 32, op := Op.fieldAddr 25 (Operand.tmp 3) 1, type := 0, pos := "ref.go:80", after := #[{ on := 0, ground := Ground.phase }, { on := 1, ground := Ground.phase }, { on := 2, ground := Ground.phase }, { on := 3, ground := Ground.phase }, { on := 4, ground := Ground.phase }, { on := 5, ground := Ground.phase }, { on := 6, ground := Ground.phase }, { on := 7, ground := Ground.phase }, { on := 8, ground := Ground.phase }, { on := 9, ground := Ground.phase }, { on := 10, ground := Ground.phase }, { on := 11, ground := Ground.phase }, { on := 12, ground := Ground.phase }], guard := none }) (v := ?_) rfl (by kernel_rfl) (by kernel_rfl) (by kernel_rfl) (fun _ _ _ h => h) (Or.inl ⟨by rfl, ?_⟩) (by assumption) ?_
                rotate_left 1
                · intro w hSw
                  (try dsimp only at hSw)
                  go_simp <;> with_reducible rfl
                try simp only [Act.put, List.setIfInBounds_toArray, List.set_cons_zero, List.set_cons_succ]
                refine wpAnyH_ready (rs := [14]) (by kernel_rfl) (by simp) ?_
                refine AllReadyH.cons (o := { dst := none, op := Op.store 23 (Operand.tmp 32) (Operand.tmp 31), type := 0, pos := "ref.go:80", after := #[{ on := 13, ground := Ground.data }, { on := 12, ground := Ground.data }, { on := 12, ground := Ground.chain }, { on := 0, ground := Ground.phase }, { on := 1, ground := Ground.phase }, { on := 2, ground := Ground.phase }, { on := 3, ground := Ground.phase }, { on := 4, ground := Ground.phase }, { on := 5, ground := Ground.phase }, { on := 6, ground := Ground.phase }, { on := 7, ground := Ground.phase }, { on := 8, ground := Ground.phase }, { on := 9, ground := Ground.phase }, { on := 10, ground := Ground.phase }, { on := 11, ground := Ground.phase }, { on := 12, ground := Ground.phase }], guard := none }) rfl (fun K hK => ?_) ?_
                · skip
                  go_simp
                  refine hK.out _ _ (Blk.five (hxb3.far (by simp; omega) _)) (fun hHeld => ?_)
                  clear hK K
                  try simp only [Act.put, List.setIfInBounds_toArray, List.set_cons_zero, List.set_cons_succ]
                  refine wpAnyH_done (by kernel_rfl) ?_ _
                  go_wp2_with fail
                  go_roundw
                  case rel =>
                    have hnx := hr.next HX.out hsx hsep1 hnod1 (fun b hb => by have h := hrng1 b hb; simp at h; exact h) hbb1 hwz1 hm2 hb2 hown3 hgrow hat hlt3
                    rw [HL.out] at hnx
                    exact ⟨k + 1, _, _, by omega, by go_num, hnx⟩
                  case measure => simp [Go.RowKit.intOf]; omega
                exact AllReadyH.nil
              exact AllReadyH.nil
            exact AllReadyH.nil
          exact AllReadyH.nil
        exact AllReadyH.nil
      exact AllReadyH.nil
    · have hke : k = s.funs.length := by omega
      subst hke
      obtain ⟨A6, n6, c6, rfl⟩ := hr.f1
      have hrd6 := hr.rd
      rw [List.take_length] at hrd6
      have c0' := hr.out.cell 0
      have c1' := hr.out.cell 1
      have e0 := hr.res.cell 0
      have e1 := hr.res.cell 1
      have e3 := hr.res.frozen 0
      have e4 := hr.res.frozen 1
      simp at c0' c1' e0 e1
      have HR := Lib.hid hr
      have HRD := Lib.hid hrd6
      clear hr hrd6 hrd hrow hin
      go_wp2_with fail
      refine bodyPost_ret (refScCopy_results rfl (((HR.out.res.set_ 0 _).set_ 1 _).eq_ rfl)) rfl ⟨_, _, rfl, ?_, ?_⟩
      · exact ((HRD.out.put (by omega) _).put (by omega) _).scheme
      · exact (HR.out.bel.setCell (by simp) _).setCell (by simp) _
end Go.Proofs.YthgkgjbjiiedaaaGreatDoor
