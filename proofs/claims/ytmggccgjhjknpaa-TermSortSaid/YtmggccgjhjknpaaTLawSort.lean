/-
  TermSort: for every place and every term that can be read, Sort answers as the reference does, and the example comes out.
-/
import Derived.Test.YtmggccgjhjknpaaTAlive
import Derived.Test.YtmggccgjhjknpaaTRefSort
import Derived.Test.YtmggccgjhjknpaaTCheck
import Derived.Deep.RegionHeld3
namespace Go.Proofs.Ytmggccgjhjknpaa
open Go.RowKit

theorem Pl.sortS_small (p : Pl) (t : T) : (p.sortS t).count ≤ 60 := by
  unfold Pl.sortS
  split
  · rename_i h
    have hok : p.ok = true := by
      unfold Pl.sortE at h
      split at h
      · assumption
      · omega
    cases hty : t.ty p.pick with
    | none => simp [S.count, S.countL]
    | some s => exact T.ty_small (fun _ _ _ hs => S.ok_count (Pl.pick_ok hok hs)) hty
  · simp [S.count, S.countL]
/-- A place and a term and their boxes, kept. -/
structure LS (p : Pl) (v0 v1 v2 : Value) (hi : Nat) (t : T) (v : Value) (P : Nat → Prop) (B : Nat) (w0 w : World) : Prop where
  bP : Blk w B 25 #[v0, v1, v2]
  bT : Blk w (B + 1) 35 #[.int .i64 t.kind, .int .i64 t.num, v]
  iP : PlIn w 0 hi p v0 v1 v2
  lh : hi ≤ w.heap.size
  iT : t.In w P v
  oT : Old P w
  bel : Below B w0 w
  pB : ∀ b, P b → b < B
  hB : hi ≤ B
theorem LS.next {p : Pl} {v0 v1 v2 : Value} {hi : Nat} {t : T} {v : Value} {P : Nat → Prop} {B : Nat} {w0 w w' : World} (h : LS p v0 v1 v2 hi t v P B w0 w) (hb : Below w.heap.size w w') : LS p v0 v1 v2 hi t v P B w0 w' :=
  ⟨h.bP.below hb h.bP.lt, h.bT.below hb h.bT.lt, h.iP.below hb h.lh, Nat.le_trans h.lh hb.size, h.iT.old h.oT hb, h.oT.bel hb, h.bel.trans (hb.mono (by have := h.bP.lt; omega)), h.pB, h.hB⟩
theorem LS.next2 {p : Pl} {v0 v1 v2 : Value} {hi : Nat} {t : T} {v : Value} {P : Nat → Prop} {B : Nat} {w0 w W w' : World} (h : LS p v0 v1 v2 hi t v P B w0 w) (hb : Below W.heap.size W w') (hX : Below w.heap.size w W) : LS p v0 v1 v2 hi t v P B w0 w' :=
  (h.next hX).next hb
theorem LS.set {p : Pl} {v0 v1 v2 : Value} {hi : Nat} {t : T} {v : Value} {P : Nat → Prop} {B : Nat} {w0 w : World} (h : LS p v0 v1 v2 hi t v P B w0 w) {b : Nat} (hb : B + 1 < b) (u : Value) : LS p v0 v1 v2 hi t v P B w0 (w.setCell ⟨b, 0, none⟩ u) := by
  have hbl : Below (B + 2) w (w.setCell ⟨b, 0, none⟩ u) := (Below.refl _ _).setCell (by simp; omega) u
  refine ⟨h.bP.below hbl (by omega), h.bT.below hbl (by omega), h.iP.below hbl (by have := h.hB; omega), by simpa [World.setCell] using h.lh, h.iT.below hbl (fun b hb' => by have := h.pB b hb'; omega), fun b hb' => by simpa [World.setCell] using h.oT b hb', h.bel.trans (hbl.mono (by omega)), h.pB, h.hB⟩
theorem LS.start {p : Pl} {v0 v1 v2 : Value} {hi : Nat} {t : T} {v : Value} {P : Nat → Prop} {w : World} (hp : PlIn w 0 hi p v0 v1 v2) (hhi : hi ≤ w.heap.size) (hin : t.In w P v) (hold : Old P w) :
    LS p v0 v1 v2 hi t v P w.heap.size w ((w.alloc (.cells #[v0, v1, v2] 25)).alloc (.cells #[.int .i64 t.kind, .int .i64 t.num, v] 35)) := by
  have hw2 : Below w.heap.size w ((w.alloc (.cells #[v0, v1, v2] 25)).alloc (.cells #[.int .i64 t.kind, .int .i64 t.num, v] 35)) := ((Below.refl _ _).alloc (Nat.le_refl _) _).alloc (by simp) _
  refine ⟨(Blk.new _ _ _).alloc _, Blk1 _ _ _ _, hp.below hw2 hhi, by simp; omega, hin.old hold hw2, hold.bel hw2, hw2, hold, hhi⟩
theorem LS.six {p : Pl} {v0 v1 v2 : Value} {hi : Nat} {t : T} {v : Value} {P : Nat → Prop} {B : Nat} {w0 w : World} (h : LS p v0 v1 v2 hi t v P B w0 w) :
    (w.cell? ⟨B, 0, none⟩ = some v0 ∧ w.cell? ⟨B, 1, none⟩ = some v1 ∧ w.cell? ⟨B, 2, none⟩ = some v2) ∧ w.cell? ⟨B + 1, 0, none⟩ = some (.int .i64 t.kind) ∧ w.cell? ⟨B + 1, 1, none⟩ = some (.int .i64 t.num) ∧ w.cell? ⟨B + 1, 2, none⟩ = some v := by
  have a0 := h.bP.cell 0
  have a1 := h.bP.cell 1
  have a2 := h.bP.cell 2
  have b0 := h.bT.cell 0
  have b1 := h.bT.cell 1
  have b2 := h.bT.cell 2
  simp at a0 a1 a2 b0 b1 b2
  exact ⟨⟨a0, a1, a2⟩, b0, b1, b2⟩
/-- .. and the sort and its box. -/
structure LEnd (p : Pl) (v0 v1 v2 : Value) (hi : Nat) (t : T) (v : Value) (P : Nat → Prop) (B : Nat) (w0 : World) (s : S) (g5 : Nat) (x : Value) (w : World) : Prop where
  k : LS p v0 v1 v2 hi t v P B w0 w
  b5 : Blk w g5 40 #[x]
  i5 : s.In w 0 w.heap.size x
theorem LEnd.next {p : Pl} {v0 v1 v2 : Value} {hi : Nat} {t : T} {v : Value} {P : Nat → Prop} {B : Nat} {w0 : World} {s : S} {g5 : Nat} {x : Value} {w w' : World} (h : LEnd p v0 v1 v2 hi t v P B w0 s g5 x w) (hb : Below w.heap.size w w') : LEnd p v0 v1 v2 hi t v P B w0 s g5 x w' :=
  ⟨h.k.next hb, h.b5.below hb h.b5.lt, S.In.more (Nat.le_refl _) hb.size _ (h.i5.below hb (Nat.le_refl _))⟩
theorem LEnd.late {p : Pl} {v0 v1 v2 : Value} {hi : Nat} {t : T} {v : Value} {P : Nat → Prop} {B : Nat} {w0 : World} {s : S} {lo : Nat} {x : Value} {w : World} (h : LS p v0 v1 v2 hi t v P B w0 w) (hs : s.In w lo w.heap.size x) :
    LEnd p v0 v1 v2 hi t v P B w0 s w.heap.size x (w.alloc (.cells #[x] 40)) := by
  have hb : Below w.heap.size w (w.alloc (.cells #[x] 40)) := (Below.refl _ _).alloc (Nat.le_refl _) _
  exact ⟨h.next hb, Blk.new _ _ _, S.In.more (Nat.zero_le _) hb.size _ (hs.below hb (Nat.le_refl _))⟩
theorem LEnd.early {p : Pl} {v0 v1 v2 : Value} {hi : Nat} {t : T} {v : Value} {P : Nat → Prop} {B : Nat} {w0 : World} {s : S} {lo g5 : Nat} {x y : Value} {w : World} (h : LS p v0 v1 v2 hi t v P B w0 w) (hs : s.In w lo w.heap.size x)
    (h5 : Blk w g5 40 #[y]) (hlo : g5 < lo) (hB : B + 1 < g5) : LEnd p v0 v1 v2 hi t v P B w0 s g5 x (w.setCell ⟨g5, 0, none⟩ x) :=
  ⟨h.set hB x, (h5.set_ 0 x).eq_ rfl, S.In.more (Nat.zero_le _) (by simp [World.setCell]) _ (S.In_set hs (.inl hlo))⟩
theorem Blk2 (w : World) (o o' : Obj) (t : Nat) (xs : Array Value) : Blk (((w.alloc o).alloc o').alloc (.cells xs t)) (w.heap.size + 1 + 1) t xs := by
  simpa using Blk.new ((w.alloc o).alloc o') t xs

set_option maxHeartbeats 3200000 in
set_option maxRecDepth 100000 in
theorem lawSortT_any (p : Pl) (v0 v1 v2 : Value) (t : T) (v : Value) (w : World) (hi : Nat) (P : Nat → Prop) (hp : PlIn w 0 hi p v0 v1 v2) (hhi : hi ≤ w.heap.size) (hin : t.In w P v) (hold : Old P w) :
    Calls Try.prog 5 #[.agg #[v0, v1, v2], .agg #[.int .i64 t.kind, .int .i64 t.num, v]] w fun e w' => e = .returned (.bool true) ∧ Below w.heap.size w w' := by
  have k0 := LS.start hp hhi hin hold
  obtain ⟨A0, n0, c0, rfl⟩ := hp.s.form
  obtain ⟨A1, n1, c1, rfl⟩ := hp.f.form
  obtain ⟨A2, n2, c2, rfl⟩ := hp.r.form
  obtain ⟨A, n, c, rfl⟩ := hin.form
  have HG := Lib.hid (given_any A0 A1 A2 n0 c0 n1 c1 n2 c2)
  have HTS := Lib.hid (fun W (h : LS p (.slice A0 n0 c0) (.slice A1 n1 c1) (.slice A2 n2 c2) hi t (.slice A n c) P w.heap.size w W) => termSort_any p _ _ _ t _ W hi P h.iP h.lh h.iT h.oT)
  have HRS := Lib.hid (fun W (h : LS p (.slice A0 n0 c0) (.slice A1 n1 c1) (.slice A2 n2 c2) hi t (.slice A n c) P w.heap.size w W) => refSortT_any p _ _ _ t _ W hi P h.iP h.lh h.iT h.oT)
  have HA := Lib.hid aliveT_any
  have hsm := p.sortS_small t
  generalize p.sortS t = s at *
  generalize p.sortE t = E at *
  have HSM : Hid ((decide (s.count ≤ 60) && (decide (s.count ≤ 60) && s.eqb s)) = true) := Lib.hid (by simp [hsm, (S.eqb_iff s s).2 rfl])
  have HSame := Lib.hid (fun (X Y : Value) (W : World) (h1 : s.In W 0 W.heap.size X) (h2 : s.In W 0 W.heap.size Y) => HSM.out ▸ refSame_any s s X Y W 0 _ 0 _ h1 (Nat.le_refl _) h2 (Nat.le_refl _))
  clear hp hin hsm HSM
  obtain ⟨⟨x0, x1, x2⟩, y0, y1, y2⟩ := k0.six
  have t5 : True := trivial
  have stage1 : True := trivial
  go_enter Try.func5, Try.ntmps5
  go_wp2_with fail
  go_region_held3 (fun w' => (w'.cell? ⟨w.heap.size, 0, none⟩ = some (.slice A0 n0 c0) ∧ w'.cell? ⟨w.heap.size, 1, none⟩ = some (.slice A1 n1 c1) ∧ w'.cell? ⟨w.heap.size, 2, none⟩ = some (.slice A2 n2 c2)) ∧ w'.cell? ⟨w.heap.size + 1, 0, none⟩ = some (.int .i64 t.kind) ∧ w'.cell? ⟨w.heap.size + 1, 1, none⟩ = some (.int .i64 t.num) ∧ w'.cell? ⟨w.heap.size + 1, 2, none⟩ = some (.slice A n c))
    (first | exact LS.six (by assumption) | exact (LS.set k2 (by first | omega | (simp; omega)) _).six | go_keep | assumption)
    (first
    | (clear stage1
       go_at_call 15
       refine (HG.out _).mono ?_
       rintro e w1 ⟨rfl, b1⟩
       have z1 := b1.size
       try simp at z1
       have k1 := k0.next2 b1 (by first | exact (Below.refl _ _).drew | exact Below.refl _ _ | exact (Below.refl _ _).alloc (Nat.le_refl _) _ | exact ((Below.refl _ _).alloc (Nat.le_refl _) _).drew)
       first
         | (have t5 : Blk w1 (w.heap.size + 1 + 1) 40 #[.slice none 0 0] := ((Blk2 _ _ _ _ _).drew).below b1 (by simp))
         | skip
       clear b1 k0
       have Q := k1.six)
    | (go_at_call 22
       refine (HTS.out _ (k1.next (by first | exact Below.refl _ _ | exact (Below.refl _ _).alloc (Nat.le_refl _) _))).mono ?_
       rintro e w2 ⟨v2, rfl, hs2, b2⟩
       obtain ⟨A5, n5, c5, rfl⟩ := hs2.form
       have k2 := k1.next2 b2 (by first | exact Below.refl _ _ | exact (Below.refl _ _).alloc (Nat.le_refl _) _)
       first
         | (have t5 := Blk_next2 t5 b2 (by first | exact Below.refl _ _ | exact (Below.refl _ _).alloc (Nat.le_refl _) _)
            have u0 := t5.cell 0
            have u1 := t5.frozen 0
            simp at u0 u1)
         | (have t5 : Blk w2 w1.heap.size 40 #[.slice none 0 0] := (Blk.new w1 _ _).below b2 (by simp)
            have u0 := t5.cell 0
            have u1 := t5.frozen 0
            simp at u0 u1)
         | skip
       clear b2 k1
       have Q := k2.six))
  all_goals
    first
      | have kE := LEnd.early k2 hs2 t5 (by first | omega | (simp; done) | (simp; omega)) (by omega)
      | have kE := LEnd.late k2 hs2
    clear k2 hs2 t5 Q x0 x1 x2 y0 y1 y2
    try clear u0 u1
    obtain ⟨⟨x0, x1, x2⟩, y0, y1, y2⟩ := kE.k.six
    have HC := Lib.hid (HRS.out _ kE.k)
    go_wp2_with fail
    refine HC.out.mono ?_
    rintro e w3 ⟨v3, rfl, hs3, b3⟩
    obtain ⟨A7, n7, c7, rfl⟩ := hs3.form
    have hw4 : Below w3.heap.size w3 (w3.alloc (.cells #[.slice A7 n7 c7] 40)) := (Below.refl _ _).alloc (Nat.le_refl _) _
    have i4 : s.In (w3.alloc (.cells #[.slice A7 n7 c7] 40)) 0 (w3.alloc (.cells #[.slice A7 n7 c7] 40)).heap.size (.slice A7 n7 c7) := S.In.more (Nat.zero_le _) hw4.size _ (hs3.below hw4 (Nat.le_refl _))
    have k4 := (kE.next b3).next hw4
    have hb7 : Blk (w3.alloc (.cells #[.slice A7 n7 c7] 40)) w3.heap.size 40 #[.slice A7 n7 c7] := Blk.new _ _ _
    clear x0 x1 x2 y0 y1 y2 HC kE hs3 hw4
    have u0 := k4.b5.cell 0
    have u1 := hb7.cell 0
    simp at u0 u1
    have HC := Lib.hid (HSame.out _ _ _ k4.i5 i4)
    go_wp2_with fail
    refine HC.out.mono ?_
    rintro e w5 ⟨rfl, b5⟩
    have k5 := k4.next b5
    clear u0 u1 HC k4
    go_wp2_with fail
    refine (HA.out _).mono ?_
    rintro e w6 ⟨rfl, b6⟩
    have k6 := k5.next b6
    go_wp2_with fail
    go_ret
    exact ⟨rfl, k6.k.bel⟩
end Go.Proofs.Ytmggccgjhjknpaa
