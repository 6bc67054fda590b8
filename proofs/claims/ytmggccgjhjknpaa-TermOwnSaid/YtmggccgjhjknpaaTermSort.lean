/-
  term.Sort: its contract.
-/
import Derived.Test.YtmggccgjhjknpaaHeads
import Derived.Test.YtmggccgjhjknpaaBehind
import Derived.Test.YtmggccgjhjknpaaTSize
namespace Go.Proofs.Ytmggccgjhjknpaa
open Go.RowKit

def symS (x : Sy) : S := rankS x.rank.toNat
/-- The sort of a head in a place. -/
def Pl.pick (p : Pl) : Int → Int → Option S := pickH p.params p.funs (p.syms.map symS)
theorem ranks_symS (l : List Sy) : (ranksOf l).map rankS = l.map symS := by simp [ranksOf, symS]
theorem Pl.ok_parts {p : Pl} (h : p.ok = true) : p.syms.length ≤ 24 ∧ (∀ x ∈ p.syms, 0 ≤ x.rank ∧ x.rank ≤ 4) ∧ p.funs.all S.ok = true ∧ p.params.all S.ok = true ∧ p.params.length ≤ 8 := by
  simp only [Pl.ok, symsB, sortsB, Bool.and_eq_true, decide_eq_true_eq] at h
  refine ⟨h.1.1, fun x hx => ?_, h.2.1.2, h.2.2.2, h.2.2.1⟩
  obtain ⟨k, hk⟩ := List.getElem?_of_mem hx
  cases h1 : syOk1 p.syms k x with
  | true =>
    simp only [syOk1, Bool.and_eq_true, rankB, decide_eq_true_eq] at h1
    exact h1.2.2
  | false =>
    have := syOk_false hk h1
    rw [h.1.2] at this; cases this
theorem S.fewL_drop : ∀ (l : List S) (k : Nat), S.fewL l = true → S.fewL (l.drop k) = true
  | [], k, h => by simpa using h
  | x :: r, 0, h => by simpa using h
  | x :: r, k + 1, h => by
    simp only [S.fewL, Bool.and_eq_true] at h
    simpa using S.fewL_drop r k h.2
theorem S.deepL_drop : ∀ (l : List S) (k : Nat), S.deepL (l.drop k) ≤ S.deepL l
  | [], k => by simp
  | x :: r, 0 => by simp
  | x :: r, k + 1 => by have := S.deepL_drop r k; simp [S.deepL]; omega
theorem S.ok_drop {l : List S} (k : Nat) (h : (S.mk l).ok = true) : (S.mk (l.drop k)).ok = true := by
  have e1 : ∀ m : List S, (S.mk m).ok = true ↔ (1 + S.countL m ≤ 60 ∧ S.deepL m + 1 ≤ 30) ∧ S.fewL m = true ∧ m.length ≤ 8 := fun m => by
    unfold S.ok
    rw [Bool.and_eq_true, Bool.and_eq_true, decide_eq_true_eq, decide_eq_true_eq, show (S.mk m).few = (S.fewL m && decide (m.length ≤ 8)) from rfl, Bool.and_eq_true, decide_eq_true_eq]
    rfl
  rw [e1] at h ⊢
  have h1 := S.countL_dropLe l k
  have h2 := S.deepL_drop l k
  obtain ⟨⟨ha, hb⟩, hc, hd⟩ := h
  refine ⟨⟨by omega, by omega⟩, S.fewL_drop l k hc, by rw [List.length_drop]; omega⟩
theorem S.ok_rank {r : Nat} (h : r ≤ 4) : (rankS r).ok = true := by
  match r, h with
  | 0, _ => decide
  | 1, _ => decide
  | 2, _ => decide
  | 3, _ => decide
  | 4, _ => decide
theorem all_at {l : List S} (h : l.all S.ok = true) {k : Nat} {x : S} (hx : l[k]? = some x) : x.ok = true := List.all_eq_true.1 h x (List.mem_of_getElem? hx)
theorem Pl.pick_ok {p : Pl} (h : p.ok = true) {k n : Int} {s : S} (hs : p.pick k n = some s) : s.ok = true := by
  obtain ⟨_, h2, h3, h4, _⟩ := Pl.ok_parts h
  simp only [Pl.pick, pickH] at hs
  split at hs
  · cases hs
  split at hs
  · exact all_at h4 hs
  split at hs
  · exact all_at h3 hs
  split at hs
  · rw [List.getElem?_map, Option.map_eq_some_iff] at hs
    obtain ⟨x, hx, rfl⟩ := hs
    have := h2 x (List.mem_of_getElem? hx)
    exact S.ok_rank (by omega)
  · cases hs
theorem T.ty_ok {pick : Int → Int → Option S} (hp : ∀ k n s, pick k n = some s → s.ok = true) : ∀ {t : T} {s : S}, t.ty pick = some s → s.ok = true
  | .mk k n l, s, h => by
    simp only [T.ty] at h
    cases hk : pick k n with
    | none => rw [hk] at h; cases h
    | some a =>
      rw [hk] at h
      have ha := hp _ _ _ hk
      obtain ⟨q⟩ := a
      simp only at h
      split at h
      · cases h
        exact S.ok_drop _ ha
      · cases h

theorem headsOf_results {tmps : Array Value} {w : World} {a : Nat} {x y z : Value} (h2 : tmps.getD 2 undef = .pointer (some ⟨a, 0, none⟩))
    (ha : Blk w a 72 #[x, y, z]) : (results Try.f52 tmps).run Try.prog w = .ok (.agg #[x, y, z]) w := by
  have h4 := ha.cell 0
  have h5 := ha.cell 1
  have h6 := ha.cell 2
  simp at h4 h5 h6
  have h2' : tmps[2]?.getD undef = .pointer (some ⟨a, 0, none⟩) := by simpa using h2
  simp [results, Try.results52, go_sem, h2', h4, h5, h6]

set_option maxRecDepth 100000 in
set_option maxHeartbeats 1600000 in
theorem headsOf_any (p : Pl) (v0 v1 v2 : Value) (w : World) (hi : Nat) (hok : p.ok = true) (hin : PlIn w 0 hi p v0 v1 v2) (hhi : hi ≤ w.heap.size) :
    Calls Try.prog 52 #[.agg #[v0, v1, v2]] w fun e w' => ∃ u, e = .returned (.agg #[v2, v1, u]) ∧ (S.mk (p.syms.map symS)).In w' w.heap.size w'.heap.size u ∧ Below w.heap.size w w' := by
  obtain ⟨h24, hrk, _⟩ := Pl.ok_parts hok
  obtain ⟨A0, n0, c0, rfl⟩ := hin.s.form
  obtain ⟨A1, n1, c1, rfl⟩ := hin.f.form
  obtain ⟨A2, n2, c2, rfl⟩ := hin.r.form
  have hw2 : Below w.heap.size w ((w.alloc (.cells #[.slice A0 n0 c0, .slice A1 n1 c1, .slice A2 n2 c2] 28)).alloc (.cells #[.slice none 0 0, .slice none 0 0, .slice none 0 0] 72)).drew := (((Below.refl _ _).alloc (Nat.le_refl _) _).alloc (by simp) _).drew
  have bA : Blk ((w.alloc (.cells #[.slice A0 n0 c0, .slice A1 n1 c1, .slice A2 n2 c2] 28)).alloc (.cells #[.slice none 0 0, .slice none 0 0, .slice none 0 0] 72)).drew w.heap.size 28 #[.slice A0 n0 c0, .slice A1 n1 c1, .slice A2 n2 c2] := ((Blk.new _ _ _).alloc _).drew
  have bB : Blk ((w.alloc (.cells #[.slice A0 n0 c0, .slice A1 n1 c1, .slice A2 n2 c2] 28)).alloc (.cells #[.slice none 0 0, .slice none 0 0, .slice none 0 0] 72)).drew (w.heap.size + 1) 72 #[.slice none 0 0, .slice none 0 0, .slice none 0 0] := by
    have := (Blk.new (w.alloc (.cells #[.slice A0 n0 c0, .slice A1 n1 c1, .slice A2 n2 c2] 28)) 72 #[.slice none 0 0, .slice none 0 0, .slice none 0 0]).drew
    simpa using this
  have HC := Lib.hid (symbolSorts_any p.syms _ _ _ (hin.below hw2 hhi).s (fun b hb => by have := hw2.size; omega) h24 hrk)
  go_enter Try.func52, Try.ntmps52
  go_wp2_with fail
  go_region_held3 (fun w' => w'.cell? ⟨w.heap.size, 0, none⟩ = some (.slice A0 n0 c0) ∧ w'.cell? ⟨w.heap.size, 1, none⟩ = some (.slice A1 n1 c1) ∧ w'.cell? ⟨w.heap.size, 2, none⟩ = some (.slice A2 n2 c2)) (first | go_keep | assumption)
    (first
      | (go_at_call 79
         refine HC.out.mono ?_
         rintro e w1 ⟨v3, us, rfl, hrr, hb1⟩
         have hz1 := hb1.size
         have k1 := bA.below hb1 bA.lt
         have k2 := bB.below hb1 bB.lt
         have q0 := k1.cell 0
         have q1 := k1.cell 1
         have q2 := k1.cell 2
         have r0 := k2.cell 0
         have r1 := k2.cell 1
         have r2 := k2.cell 2
         have f0 := k2.frozen 0
         have f1 := k2.frozen 1
         have f2 := k2.frozen 2
         simp at q0 q1 q2 r0 r1 r2
         have Q : w1.cell? ⟨w.heap.size, 0, none⟩ = some (.slice A0 n0 c0) ∧ w1.cell? ⟨w.heap.size, 1, none⟩ = some (.slice A1 n1 c1) ∧ w1.cell? ⟨w.heap.size, 2, none⟩ = some (.slice A2 n2 c2) := ⟨q0, q1, q2⟩
         obtain ⟨A3, c3, rfl⟩ := hrr.form))
  go_wp2_with fail
  refine bodyPost_ret (headsOf_results rfl ((((k2.set_ 0 _).set_ 1 _).set_ 2 _).eq_ rfl)) rfl ⟨_, rfl, ?_, ?_⟩
  · have hzz : w.heap.size + 2 ≤ w1.heap.size := by simpa [World.drew] using hz1
    have hin1 := hrr.in_ (fun r hr => by
      unfold ranksOf at hr
      obtain ⟨x, hx, rfl⟩ := List.mem_map.1 hr
      have := hrk x hx
      omega)
    rw [ranks_symS] at hin1
    have hlo : ((w.alloc (.cells #[.slice A0 n0 c0, .slice A1 n1 c1, .slice A2 n2 c2] 28)).alloc (.cells #[.slice none 0 0, .slice none 0 0, .slice none 0 0] 72)).drew.heap.size = w.heap.size + 2 := by simp [World.drew]
    rw [hlo] at hin1
    exact S.In.more (by omega) (by simp [World.setCell]) _ (S.In_set (S.In_set (S.In_set hin1 (.inl (by omega))) (.inl (by omega))) (.inl (by omega)))
  · exact (((hw2.trans (hb1.mono (by simp [World.drew]; omega))).setCell (by simp) _).setCell (by simp) _).setCell (by simp) _

/-- What Sort answers. -/
def Pl.sortE (p : Pl) (t : T) : Int := if p.ok = true then (if t.large = true then 3 else if (t.ty p.pick).isSome = true then 0 else 6) else 2
def Pl.sortS (p : Pl) (t : T) : S := if p.sortE t = 0 then (t.ty p.pick).getD (.mk []) else .mk []
/-- A sort in new memory, and an error. -/
def GaveS (s : S) (E : Int) (w : World) (e : Ending) (w' : World) : Prop :=
  ∃ v, e = .returned (.tuple #[.agg #[v], .int .i64 E]) ∧ s.In w' w.heap.size w'.heap.size v ∧ Below w.heap.size w w'
/-- The list of a sort's arguments has an array of its own, from B on. -/
def TopS (B : Nat) (w : World) (s : S) (v : Value) : Prop := ∃ us, w.ownsRow B 40 1 v s.args.length us ∧ ∀ u ∈ us, ∃ A n c, u = .slice A n c ∧ n ≤ 1000
theorem S.len_le : ∀ l : List S, l.length ≤ S.countL l
  | [] => by simp
  | a :: r => by have := S.len_le r; have := a.count_pos; simp [S.countL]; omega
theorem SepL_slices {w : World} : ∀ (l : List S) {us : List Value} {fp : List Nat}, S.SepL w l us fp → S.countL l ≤ 1000 → ∀ u ∈ us, ∃ A n c, u = .slice A n c ∧ n ≤ 1000
  | [], us, fp, h, _, u, hu => by simp only [S.SepL] at h; simp [h.1] at hu
  | s :: r, us, fp, h, hc, u, hu => by
    simp only [S.SepL] at h
    obtain ⟨u1, ut, f1, f2, rfl, h1, h2, _⟩ := h
    simp only [S.countL] at hc
    rcases List.mem_cons.1 hu with rfl | hu
    · obtain ⟨l⟩ := s
      simp only [S.Sep] at h1
      obtain ⟨us1, rest, h3, _, _⟩ := h1
      have hl := S.len_le l
      simp only [S.count] at hc
      rcases h3.2 with ⟨rfl, h0⟩ | ⟨g, cap, cur, rfl, _⟩
      · exact ⟨none, 0, 0, rfl, by omega⟩
      · exact ⟨_, _, cap, rfl, by omega⟩
    · exact SepL_slices r h2 (by omega) u hu
theorem TopS.of {B : Nat} {w : World} {s : S} {v : Value} {fp : List Nat} (h : s.Sep w v fp) (hfp : ∀ b ∈ fp, B ≤ b ∧ b < w.heap.size) (hc : s.count ≤ 1000) : TopS B w s v := by
  obtain ⟨l⟩ := s
  simp only [S.Sep] at h
  obtain ⟨us, rest, h1, h2, rfl⟩ := h
  simp only [S.count] at hc
  refine ⟨us, ⟨h1.1, ?_⟩, SepL_slices l h2 (by omega)⟩
  rcases h1.2 with h3 | ⟨g, cap, cur, rfl, _, h4⟩
  · exact .inl h3
  · exact .inr ⟨g, cap, cur, rfl, (hfp g (by simp [Value.ownBlock])).1, h4⟩
theorem TopS.set_ {B : Nat} {w : World} {s : S} {v : Value} (h : TopS B w s v) {p : Addr} (hp : p.block < B) (u : Value) : TopS B (w.setCell p u) s v := by
  obtain ⟨us, h1, h2⟩ := h
  exact ⟨us, owns_kept3 h1 (fun b hb => Below.heap_setCell w p u b (by have := (h1.lt b hb).1; omega)), h2⟩
theorem TopS.nil (B : Nat) (w : World) : TopS B w (.mk []) (.slice none 0 0) := ⟨[], ⟨by simp [S.args], .inl ⟨rfl, rfl⟩⟩, by simp⟩
theorem TopS.less {B B' : Nat} {w : World} {s : S} {v : Value} (h : TopS B w s v) (hb : B' ≤ B) : TopS B' w s v := by
  obtain ⟨us, h1, h2⟩ := h
  exact ⟨us, owns_less h1 hb, h2⟩
/-- .. and its arguments' list is an array of its own. -/
def GaveP (s : S) (E : Int) (w : World) (e : Ending) (w' : World) : Prop :=
  ∃ v, e = .returned (.tuple #[.agg #[v], .int .i64 E]) ∧ s.In w' w.heap.size w'.heap.size v ∧ Below w.heap.size w w' ∧ TopS w.heap.size w' s v
theorem sortTop_results {tmps : Array Value} {w : World} {a : Nat} {x u : Value} (h2 : tmps.getD 4 undef = .pointer (some ⟨a, 0, none⟩)) (h3 : tmps.getD 5 undef = u)
    (ha : Blk w a 40 #[x]) : (results Try.f22 tmps).run Try.prog w = .ok (.tuple #[.agg #[x], u]) w := by
  have h4 := ha.cell 0
  simp at h4
  have h2' : tmps[4]?.getD undef = .pointer (some ⟨a, 0, none⟩) := by simpa using h2
  have h3' : tmps[5]?.getD undef = u := by simpa using h3
  simp [results, Try.results22, go_sem, h2', h3', h4]
/-- A place and a term, their boxes, and a box for the result, kept. -/
structure SortCtx (ty : Nat) (p : Pl) (v0 v1 v2 : Value) (hi : Nat) (t : T) (v : Value) (P : Nat → Prop) (B : Nat) (w0 w : World) : Prop where
  bP : Blk w B ty #[v0, v1, v2]
  bT : Blk w (B + 1) 35 #[.int .i64 t.kind, .int .i64 t.num, v]
  bR : Blk w (B + 1 + 1) 40 #[.slice none 0 0]
  iP : PlIn w 0 hi p v0 v1 v2
  lh : hi ≤ w.heap.size
  iT : t.In w P v
  oT : Old P w
  bel : Below B w0 w
  pB : ∀ b, P b → b < B
  hB : hi ≤ B
theorem SortCtx.set {ty : Nat} {p : Pl} {v0 v1 v2 : Value} {hi : Nat} {t : T} {v : Value} {P : Nat → Prop} {B : Nat} {w0 w : World} (h : SortCtx ty p v0 v1 v2 hi t v P B w0 w) {b : Nat} (hb : B + 1 + 1 < b) (u : Value) : SortCtx ty p v0 v1 v2 hi t v P B w0 (w.setCell ⟨b, 0, none⟩ u) := by
  have hbl : Below (B + 3) w (w.setCell ⟨b, 0, none⟩ u) := (Below.refl _ _).setCell (by simp; omega) u
  have hz := h.bR.lt
  refine ⟨h.bP.below hbl (by omega), h.bT.below hbl (by omega), h.bR.below hbl (by omega), h.iP.below hbl (by have := h.hB; omega), by simpa [World.setCell] using h.lh, h.iT.below hbl (fun b hb' => by have := h.pB b hb'; omega), fun b hb' => by simpa [World.setCell] using h.oT b hb', h.bel.trans (hbl.mono (by omega)), h.pB, h.hB⟩
theorem SortCtx.next {ty : Nat} {p : Pl} {v0 v1 v2 : Value} {hi : Nat} {t : T} {v : Value} {P : Nat → Prop} {B : Nat} {w0 w w' : World} (h : SortCtx ty p v0 v1 v2 hi t v P B w0 w) (hb : Below w.heap.size w w') : SortCtx ty p v0 v1 v2 hi t v P B w0 w' :=
  ⟨h.bP.below hb h.bP.lt, h.bT.below hb h.bT.lt, h.bR.below hb h.bR.lt, h.iP.below hb h.lh, Nat.le_trans h.lh hb.size, h.iT.old h.oT hb, h.oT.bel hb, h.bel.trans (hb.mono (by have := h.bP.lt; omega)), h.pB, h.hB⟩
theorem SortCtx.start {ty : Nat} {p : Pl} {v0 v1 v2 : Value} {hi : Nat} {t : T} {v : Value} {P : Nat → Prop} {w : World} (hp : PlIn w 0 hi p v0 v1 v2) (hhi : hi ≤ w.heap.size) (hin : t.In w P v) (hold : Old P w) :
    SortCtx ty p v0 v1 v2 hi t v P w.heap.size w (((w.alloc (.cells #[v0, v1, v2] ty)).alloc (.cells #[.int .i64 t.kind, .int .i64 t.num, v] 35)).alloc (.cells #[.slice none 0 0] 40)) := by
  have hw3 : Below w.heap.size w (((w.alloc (.cells #[v0, v1, v2] ty)).alloc (.cells #[.int .i64 t.kind, .int .i64 t.num, v] 35)).alloc (.cells #[.slice none 0 0] 40)) := (((Below.refl _ _).alloc (Nat.le_refl _) _).alloc (by simp) _).alloc (by simp; omega) _
  refine ⟨((Blk.new _ _ _).alloc _).alloc _, ?_, ?_, hp.below hw3 hhi, by simp; omega, hin.old hold hw3, hold.bel hw3, hw3, hold, hhi⟩
  · simpa using (Blk.new (w.alloc (.cells #[v0, v1, v2] ty)) 35 #[.int .i64 t.kind, .int .i64 t.num, v]).alloc (.cells #[.slice none 0 0] 40)
  · simpa using Blk.new ((w.alloc (.cells #[v0, v1, v2] ty)).alloc (.cells #[.int .i64 t.kind, .int .i64 t.num, v] 35)) 40 #[.slice none 0 0]

set_option maxRecDepth 100000 in
set_option maxHeartbeats 3200000 in
theorem termSort_own (p : Pl) (v0 v1 v2 : Value) (t : T) (v : Value) (w : World) (hi : Nat) (P : Nat → Prop) (hp : PlIn w 0 hi p v0 v1 v2) (hhi : hi ≤ w.heap.size) (hin : t.In w P v) (hold : Old P w) :
    Calls Try.prog 22 #[.agg #[v0, v1, v2], .agg #[.int .i64 t.kind, .int .i64 t.num, v]] w (GaveP (p.sortS t) (p.sortE t) w) := by
  have k0 := SortCtx.start (ty := 28) hp hhi hin hold
  obtain ⟨A0, n0, c0, rfl⟩ := hp.s.form
  obtain ⟨A1, n1, c1, rfl⟩ := hp.f.form
  obtain ⟨A2, n2, c2, rfl⟩ := hp.r.form
  obtain ⟨A, n, c, rfl⟩ := hin.form
  have HC := Lib.hid (placeCheck_any p _ _ _ _ 0 hi k0.iP k0.lh)
  cases hok : p.ok with
  | false =>
    have HE : Hid (p.sortE t = 2) := Lib.hid (by simp [Pl.sortE, hok])
    have HT : Hid (p.sortS t = .mk []) := Lib.hid (by simp [Pl.sortS, HE.out])
    rw [hok] at HC
    have hae : argErr false = 2 := rfl
    rw [hae] at HC
    clear hok hae
    go_enter Try.func22, Try.ntmps22
    go_wp2_with fail
    refine HC.out.mono ?_
    rintro e w1 ⟨rfl, hb1⟩
    have k1 := k0.next hb1
    have q0 := k1.bR.cell 0
    have q1 := k1.bR.frozen 0
    clear k0 hb1
    go_wp2_with fail
    rw [HE.out, HT.out]
    exact bodyPost_ret (sortTop_results rfl rfl (k1.bR.set_ 0 _)) rfl ⟨_, rfl, S.In_nil, k1.bel.setCell (by simp; omega) _, TopS.nil _ _⟩
  | true =>
    have HOK := Lib.hid hok
    rw [hok] at HC
    have hae : argErr true = 0 := rfl
    rw [hae] at HC
    cases hlg : t.large with
    | true =>
      have HE : Hid (p.sortE t = 3) := Lib.hid (by simp [Pl.sortE, hok, hlg])
      have HT : Hid (p.sortS t = .mk []) := Lib.hid (by simp [Pl.sortS, HE.out])
      have HG := Lib.hid hlg
      clear hok hae hlg
      go_enter Try.func22, Try.ntmps22
      go_wp2_with fail
      refine HC.out.mono ?_
      rintro e w1 ⟨rfl, hb1⟩
      have k1 := k0.next hb1
      have a0 := k1.bT.cell 0
      have a1 := k1.bT.cell 1
      have a2 := k1.bT.cell 2
      have HL := Lib.hid (tooLarge_any t _ _ P k1.iT k1.oT)
      rw [HG.out] at HL
      clear k0 hb1
      go_wp2_with fail
      refine HL.out.mono ?_
      rintro e w2 ⟨rfl, hb2⟩
      have k2 := k1.next hb2
      have q0 := k2.bR.cell 0
      have q1 := k2.bR.frozen 0
      clear k1 hb2 a0 a1 a2
      go_wp2_with fail
      rw [HE.out, HT.out]
      exact bodyPost_ret (sortTop_results rfl rfl (k2.bR.set_ 0 _)) rfl ⟨_, rfl, S.In_nil, k2.bel.setCell (by simp; omega) _, TopS.nil _ _⟩
    | false =>
      have HG := Lib.hid hlg
      have HTOK := Lib.hid (fun (s : S) (h : t.ty p.pick = some s) => T.ty_ok (fun _ _ _ hs => Pl.pick_ok hok hs) h)
      have HSM := Lib.hid (fun (k n : Int) (s : S) (h : p.pick k n = some s) => S.ok_count (Pl.pick_ok hok h))
      cases hty : t.ty p.pick with
      | none =>
        have HE : Hid (p.sortE t = 6) := Lib.hid (by simp [Pl.sortE, hok, hlg, hty])
        have HT : Hid (p.sortS t = .mk []) := Lib.hid (by simp [Pl.sortS, HE.out])
        have HTY := Lib.hid hty
        clear hty
        clear hok hae hlg
        go_enter Try.func22, Try.ntmps22
        go_wp2_with fail
        refine HC.out.mono ?_
        rintro e w1 ⟨rfl, hb1⟩
        have k1 := k0.next hb1
        have a0 := k1.bT.cell 0
        have a1 := k1.bT.cell 1
        have a2 := k1.bT.cell 2
        have HL := Lib.hid (tooLarge_any t _ _ P k1.iT k1.oT)
        rw [HG.out] at HL
        clear k0 hb1
        go_wp2_with fail
        refine HL.out.mono ?_
        rintro e w2 ⟨rfl, hb2⟩
        have k2 := k1.next hb2
        clear k1 hb2 a0 a1 a2
        have a0 := k2.bT.cell 0
        have a1 := k2.bT.cell 1
        have a2 := k2.bT.cell 2
        have b0 := k2.bP.cell 0
        have b1 := k2.bP.cell 1
        have b2 := k2.bP.cell 2
        have k2d : SortCtx 28 p (.slice A0 n0 c0) (.slice A1 n1 c1) (.slice A2 n2 c2) hi t (.slice A n c) P w.heap.size w w2.drew := k2.next ((Below.refl _ _).drew)
        have HH := Lib.hid (fun W (hbW : Below w2.heap.size w2 W) => headsOf_any p _ _ _ W hi HOK.out (k2.next hbW).iP (k2.next hbW).lh)
        have HKK := Lib.hid k2d
        clear k2d
        go_wp2_with fail
        go_region_held3 (fun w' => w'.cell? ⟨w.heap.size, 0, none⟩ = some (.slice A0 n0 c0) ∧ w'.cell? ⟨w.heap.size, 1, none⟩ = some (.slice A1 n1 c1) ∧ w'.cell? ⟨w.heap.size, 2, none⟩ = some (.slice A2 n2 c2) ∧ w'.cell? ⟨w.heap.size + 1, 0, none⟩ = some (.int .i64 t.kind) ∧ w'.cell? ⟨w.heap.size + 1, 1, none⟩ = some (.int .i64 t.num) ∧ w'.cell? ⟨w.heap.size + 1, 2, none⟩ = some (.slice A n c)) (first | go_keep | assumption)
          (first
            | (go_at_call 52
               refine (HH.out w2.drew ((Below.refl _ _).drew)).mono ?_
               rintro e w3 ⟨u3, rfl, hi3, hb3⟩
               have k3 := (k2.next ((Below.refl _ _).drew)).next hb3
               have kb0 : True := trivial
               have s0 := k3.bP.cell 0
               have s1 := k3.bP.cell 1
               have s2 := k3.bP.cell 2
               have s3 := k3.bT.cell 0
               have s4 := k3.bT.cell 1
               have s5 := k3.bT.cell 2
               simp at s0 s1 s2 s3 s4 s5
               have hu3 := hi3.form
               have hds : Heads hi w2.drew.heap.size w3.heap.size p.params p.funs (p.syms.map symS) (.slice A2 n2 c2) (.slice A1 n1 c1) u3 w3 := ⟨k3.iP.r, k3.iP.f, hi3, k3.lh, Nat.le_refl _⟩
               have HS := Lib.hid (fun W (hbW : Below w3.heap.size w3 W) => HTY.out ▸ sortT_any p.pick HSM.out (.slice A2 n2 c2) (.slice A1 n1 c1) u3 ⟨_, _, _, rfl⟩ ⟨_, _, _, rfl⟩ hu3 (fun W => Heads hi w2.drew.heap.size w3.heap.size p.params p.funs (p.syms.map symS) (.slice A2 n2 c2) (.slice A1 n1 c1) u3 W) (fun _ _ h hb => h.below hb) w3.heap.size (fun _ h => h.hh2) (HeadsR hi w2.drew.heap.size w3.heap.size) (fun lo h' hr => by have := k3.lh; rcases hr with ⟨_, e⟩ | ⟨_, e⟩ <;> omega) (fun x v W P h hx ho => head_any hi w2.drew.heap.size w3.heap.size p.params p.funs (p.syms.map symS) _ _ _ x v W P h hx ho) _ t _ W P (Nat.le_refl _) (hds.below hbW) (k3.next hbW).iT (k3.next hbW).oT)
               have Q : w3.cell? ⟨w.heap.size, 0, none⟩ = some (.slice A0 n0 c0) ∧ w3.cell? ⟨w.heap.size, 1, none⟩ = some (.slice A1 n1 c1) ∧ w3.cell? ⟨w.heap.size, 2, none⟩ = some (.slice A2 n2 c2) ∧ w3.cell? ⟨w.heap.size + 1, 0, none⟩ = some (.int .i64 t.kind) ∧ w3.cell? ⟨w.heap.size + 1, 1, none⟩ = some (.int .i64 t.num) ∧ w3.cell? ⟨w.heap.size + 1, 2, none⟩ = some (.slice A n c) := ⟨s0, s1, s2, s3, s4, s5⟩
               obtain ⟨A8, n8, c8, rfl⟩ := hu3
               clear s0 s1 s2 s3 s4 s5)
            | (go_at_call 52
               refine (HH.out (w2.alloc (.cells #[.slice none 0 0] 40)).drew (((Below.refl _ _).alloc (Nat.le_refl _) _).drew)).mono ?_
               rintro e w3 ⟨u3, rfl, hi3, hb3⟩
               have k3 := (k2.next (((Below.refl _ _).alloc (Nat.le_refl _) _).drew)).next hb3
               have kb0 : Blk w3 w2.heap.size 40 #[.slice none 0 0] := ((Blk.new w2 _ _).drew).below hb3 (by simp [World.drew])
               have s0 := k3.bP.cell 0
               have s1 := k3.bP.cell 1
               have s2 := k3.bP.cell 2
               have s3 := k3.bT.cell 0
               have s4 := k3.bT.cell 1
               have s5 := k3.bT.cell 2
               simp at s0 s1 s2 s3 s4 s5
               have hu3 := hi3.form
               have hds : Heads hi (w2.alloc (.cells #[.slice none 0 0] 40)).drew.heap.size w3.heap.size p.params p.funs (p.syms.map symS) (.slice A2 n2 c2) (.slice A1 n1 c1) u3 w3 := ⟨k3.iP.r, k3.iP.f, hi3, k3.lh, Nat.le_refl _⟩
               have HS := Lib.hid (fun W (hbW : Below w3.heap.size w3 W) => HTY.out ▸ sortT_any p.pick HSM.out (.slice A2 n2 c2) (.slice A1 n1 c1) u3 ⟨_, _, _, rfl⟩ ⟨_, _, _, rfl⟩ hu3 (fun W => Heads hi (w2.alloc (.cells #[.slice none 0 0] 40)).drew.heap.size w3.heap.size p.params p.funs (p.syms.map symS) (.slice A2 n2 c2) (.slice A1 n1 c1) u3 W) (fun _ _ h hb => h.below hb) w3.heap.size (fun _ h => h.hh2) (HeadsR hi (w2.alloc (.cells #[.slice none 0 0] 40)).drew.heap.size w3.heap.size) (fun lo h' hr => by have := k3.lh; rcases hr with ⟨_, e⟩ | ⟨_, e⟩ <;> omega) (fun x v W P h hx ho => head_any hi (w2.alloc (.cells #[.slice none 0 0] 40)).drew.heap.size w3.heap.size p.params p.funs (p.syms.map symS) _ _ _ x v W P h hx ho) _ t _ W P (Nat.le_refl _) (hds.below hbW) (k3.next hbW).iT (k3.next hbW).oT)
               have Q : w3.cell? ⟨w.heap.size, 0, none⟩ = some (.slice A0 n0 c0) ∧ w3.cell? ⟨w.heap.size, 1, none⟩ = some (.slice A1 n1 c1) ∧ w3.cell? ⟨w.heap.size, 2, none⟩ = some (.slice A2 n2 c2) ∧ w3.cell? ⟨w.heap.size + 1, 0, none⟩ = some (.int .i64 t.kind) ∧ w3.cell? ⟨w.heap.size + 1, 1, none⟩ = some (.int .i64 t.num) ∧ w3.cell? ⟨w.heap.size + 1, 2, none⟩ = some (.slice A n c) := ⟨s0, s1, s2, s3, s4, s5⟩
               obtain ⟨A8, n8, c8, rfl⟩ := hu3
               clear s0 s1 s2 s3 s4 s5)
            | (go_at_call 53
               have kbt := kb0.lt
               refine (HS.out w3 (Below.refl _ _)).mono ?_
               intro e w4 hfd
               obtain ⟨v4, rfl, hat4, hb4⟩ := Found.no hfd
               clear hfd
               have k4 := k3.next hb4
               have kb7 : Blk w4 w2.heap.size 40 #[.slice none 0 0] := kb0.below hb4 kb0.lt
               have s6 := kb7.cell 0
               have s7 := kb7.frozen 0
               simp at s6
               have s0 := k4.bP.cell 0
               have s1 := k4.bP.cell 1
               have s2 := k4.bP.cell 2
               have s3 := k4.bT.cell 0
               have s4 := k4.bT.cell 1
               have s5 := k4.bT.cell 2
               simp at s0 s1 s2 s3 s4 s5
               have Q4 : w4.cell? ⟨w.heap.size, 0, none⟩ = some (.slice A0 n0 c0) ∧ w4.cell? ⟨w.heap.size, 1, none⟩ = some (.slice A1 n1 c1) ∧ w4.cell? ⟨w.heap.size, 2, none⟩ = some (.slice A2 n2 c2) ∧ w4.cell? ⟨w.heap.size + 1, 0, none⟩ = some (.int .i64 t.kind) ∧ w4.cell? ⟨w.heap.size + 1, 1, none⟩ = some (.int .i64 t.num) ∧ w4.cell? ⟨w.heap.size + 1, 2, none⟩ = some (.slice A n c) := ⟨s0, s1, s2, s3, s4, s5⟩
               obtain ⟨A9, n9, c9, rfl⟩ := hat4.form
               have kS := k4.set (b := w2.heap.size) (by have := k2.bR.lt; omega) (.slice A9 n9 c9)
               clear s0 s1 s2 s3 s4 s5
               have s0 := kS.bP.cell 0
               have s1 := kS.bP.cell 1
               have s2 := kS.bP.cell 2
               have s3 := kS.bT.cell 0
               have s4 := kS.bT.cell 1
               have s5 := kS.bT.cell 2
               simp at s0 s1 s2 s3 s4 s5
               have Q5 := And.intro s0 (And.intro s1 (And.intro s2 (And.intro s3 (And.intro s4 s5))))
               clear s0 s1 s2 s3 s4 s5)
            | (go_at_call 53
               refine (HS.out w3 (Below.refl _ _)).mono ?_
               intro e w4 hfd
               obtain ⟨v4, rfl, hat4, hb4⟩ := Found.no hfd
               clear hfd
               have k4 := (k3.next (Below.refl _ _)).next hb4
               have kb7 : True := trivial
               have s0 := k4.bP.cell 0
               have s1 := k4.bP.cell 1
               have s2 := k4.bP.cell 2
               have s3 := k4.bT.cell 0
               have s4 := k4.bT.cell 1
               have s5 := k4.bT.cell 2
               simp at s0 s1 s2 s3 s4 s5
               have Q4 : w4.cell? ⟨w.heap.size, 0, none⟩ = some (.slice A0 n0 c0) ∧ w4.cell? ⟨w.heap.size, 1, none⟩ = some (.slice A1 n1 c1) ∧ w4.cell? ⟨w.heap.size, 2, none⟩ = some (.slice A2 n2 c2) ∧ w4.cell? ⟨w.heap.size + 1, 0, none⟩ = some (.int .i64 t.kind) ∧ w4.cell? ⟨w.heap.size + 1, 1, none⟩ = some (.int .i64 t.num) ∧ w4.cell? ⟨w.heap.size + 1, 2, none⟩ = some (.slice A n c) := ⟨s0, s1, s2, s3, s4, s5⟩
               obtain ⟨A9, n9, c9, rfl⟩ := hat4.form
               clear s0 s1 s2 s3 s4 s5)
            | (go_at_call 53
               refine (HS.out (w3.alloc (.cells #[.slice none 0 0] 40)) ((Below.refl _ _).alloc (Nat.le_refl _) _)).mono ?_
               intro e w4 hfd
               obtain ⟨v4, rfl, hat4, hb4⟩ := Found.no hfd
               clear hfd
               have k4 := (k3.next ((Below.refl _ _).alloc (Nat.le_refl _) _)).next hb4
               have kb7 : Blk w4 w3.heap.size 40 #[.slice none 0 0] := (Blk.new w3 _ _).below hb4 (by simp)
               have s6 := kb7.cell 0
               have s7 := kb7.frozen 0
               simp at s6
               have s0 := k4.bP.cell 0
               have s1 := k4.bP.cell 1
               have s2 := k4.bP.cell 2
               have s3 := k4.bT.cell 0
               have s4 := k4.bT.cell 1
               have s5 := k4.bT.cell 2
               simp at s0 s1 s2 s3 s4 s5
               have Q4 : w4.cell? ⟨w.heap.size, 0, none⟩ = some (.slice A0 n0 c0) ∧ w4.cell? ⟨w.heap.size, 1, none⟩ = some (.slice A1 n1 c1) ∧ w4.cell? ⟨w.heap.size, 2, none⟩ = some (.slice A2 n2 c2) ∧ w4.cell? ⟨w.heap.size + 1, 0, none⟩ = some (.int .i64 t.kind) ∧ w4.cell? ⟨w.heap.size + 1, 1, none⟩ = some (.int .i64 t.num) ∧ w4.cell? ⟨w.heap.size + 1, 2, none⟩ = some (.slice A n c) := ⟨s0, s1, s2, s3, s4, s5⟩
               obtain ⟨A9, n9, c9, rfl⟩ := hat4.form
               have kS := k4.set (b := w3.heap.size) (by have := k3.bR.lt; omega) (.slice A9 n9 c9)
               clear s0 s1 s2 s3 s4 s5
               have s0 := kS.bP.cell 0
               have s1 := kS.bP.cell 1
               have s2 := kS.bP.cell 2
               have s3 := kS.bT.cell 0
               have s4 := kS.bT.cell 1
               have s5 := kS.bT.cell 2
               simp at s0 s1 s2 s3 s4 s5
               have Q5 := And.intro s0 (And.intro s1 (And.intro s2 (And.intro s3 (And.intro s4 s5))))
               clear s0 s1 s2 s3 s4 s5))
        all_goals
          first
            | (have k5 := k4.set (b := w2.heap.size) (by have := k2.bR.lt; omega) (.slice A9 n9 c9)
               have kchk := kb0.lt
               have q0 := k5.bR.cell 0
               have q1 := k5.bR.frozen 0
               go_wp2_with fail
               rw [HE.out, HT.out]
               exact bodyPost_ret (sortTop_results rfl rfl (k5.bR.set_ 0 _)) rfl ⟨_, rfl, S.In_nil, k5.bel.setCell (by simp; omega) _, TopS.nil _ _⟩)
            | (have k5 := k4.set (b := w3.heap.size) (by have := k3.bR.lt; omega) (.slice A9 n9 c9)
               have kchk := kb7.lt
               have q0 := k5.bR.cell 0
               have q1 := k5.bR.frozen 0
               go_wp2_with fail
               rw [HE.out, HT.out]
               exact bodyPost_ret (sortTop_results rfl rfl (k5.bR.set_ 0 _)) rfl ⟨_, rfl, S.In_nil, k5.bel.setCell (by simp; omega) _, TopS.nil _ _⟩)
            | (have k5 := k4.next ((Below.refl _ _).alloc (Nat.le_refl _) (.cells #[.slice A9 n9 c9] 40))
               have q0 := k5.bR.cell 0
               have q1 := k5.bR.frozen 0
               go_wp2_with fail
               rw [HE.out, HT.out]
               exact bodyPost_ret (sortTop_results rfl rfl (k5.bR.set_ 0 _)) rfl ⟨_, rfl, S.In_nil, k5.bel.setCell (by simp; omega) _, TopS.nil _ _⟩)
      | some s =>
        have HE : Hid (p.sortE t = 0) := Lib.hid (by simp [Pl.sortE, hok, hlg, hty])
        have HT : Hid (p.sortS t = s) := Lib.hid (by simp [Pl.sortS, HE.out, hty])
        have hsok := HTOK.out s hty
        have HCNT : Hid (s.count ≤ 60) := Lib.hid (S.ok_count hsok)
        have hS0 : s.behindE 0 = 0 := S.behindE_ok s hsok (by omega)
        have HS1 : Hid (s.behindS 0 = s) := Lib.hid (by have h0 := S.behindS_yes s (m := 0) hS0; simpa [S.eta] using h0)
        have HS0 := Lib.hid hS0
        have HTY := Lib.hid hty
        clear hty hsok hS0
        clear hok hae hlg
        go_enter Try.func22, Try.ntmps22
        go_wp2_with fail
        refine HC.out.mono ?_
        rintro e w1 ⟨rfl, hb1⟩
        have k1 := k0.next hb1
        have a0 := k1.bT.cell 0
        have a1 := k1.bT.cell 1
        have a2 := k1.bT.cell 2
        have HL := Lib.hid (tooLarge_any t _ _ P k1.iT k1.oT)
        rw [HG.out] at HL
        clear k0 hb1
        go_wp2_with fail
        refine HL.out.mono ?_
        rintro e w2 ⟨rfl, hb2⟩
        have k2 := k1.next hb2
        clear k1 hb2 a0 a1 a2
        have a0 := k2.bT.cell 0
        have a1 := k2.bT.cell 1
        have a2 := k2.bT.cell 2
        have b0 := k2.bP.cell 0
        have b1 := k2.bP.cell 1
        have b2 := k2.bP.cell 2
        have k2d : SortCtx 28 p (.slice A0 n0 c0) (.slice A1 n1 c1) (.slice A2 n2 c2) hi t (.slice A n c) P w.heap.size w w2.drew := k2.next ((Below.refl _ _).drew)
        have HH := Lib.hid (fun W (hbW : Below w2.heap.size w2 W) => headsOf_any p _ _ _ W hi HOK.out (k2.next hbW).iP (k2.next hbW).lh)
        have HKK := Lib.hid k2d
        clear k2d
        go_wp2_with fail
        go_region_held3 (fun w' => w'.cell? ⟨w.heap.size, 0, none⟩ = some (.slice A0 n0 c0) ∧ w'.cell? ⟨w.heap.size, 1, none⟩ = some (.slice A1 n1 c1) ∧ w'.cell? ⟨w.heap.size, 2, none⟩ = some (.slice A2 n2 c2) ∧ w'.cell? ⟨w.heap.size + 1, 0, none⟩ = some (.int .i64 t.kind) ∧ w'.cell? ⟨w.heap.size + 1, 1, none⟩ = some (.int .i64 t.num) ∧ w'.cell? ⟨w.heap.size + 1, 2, none⟩ = some (.slice A n c)) (first | go_keep | assumption)
          (first
            | (go_at_call 52
               refine (HH.out w2.drew ((Below.refl _ _).drew)).mono ?_
               rintro e w3 ⟨u3, rfl, hi3, hb3⟩
               have k3 := (k2.next ((Below.refl _ _).drew)).next hb3
               have kb0 : True := trivial
               have s0 := k3.bP.cell 0
               have s1 := k3.bP.cell 1
               have s2 := k3.bP.cell 2
               have s3 := k3.bT.cell 0
               have s4 := k3.bT.cell 1
               have s5 := k3.bT.cell 2
               simp at s0 s1 s2 s3 s4 s5
               have hu3 := hi3.form
               have hds : Heads hi w2.drew.heap.size w3.heap.size p.params p.funs (p.syms.map symS) (.slice A2 n2 c2) (.slice A1 n1 c1) u3 w3 := ⟨k3.iP.r, k3.iP.f, hi3, k3.lh, Nat.le_refl _⟩
               have HS := Lib.hid (fun W (hbW : Below w3.heap.size w3 W) => HTY.out ▸ sortT_any p.pick HSM.out (.slice A2 n2 c2) (.slice A1 n1 c1) u3 ⟨_, _, _, rfl⟩ ⟨_, _, _, rfl⟩ hu3 (fun W => Heads hi w2.drew.heap.size w3.heap.size p.params p.funs (p.syms.map symS) (.slice A2 n2 c2) (.slice A1 n1 c1) u3 W) (fun _ _ h hb => h.below hb) w3.heap.size (fun _ h => h.hh2) (HeadsR hi w2.drew.heap.size w3.heap.size) (fun lo h' hr => by have := k3.lh; rcases hr with ⟨_, e⟩ | ⟨_, e⟩ <;> omega) (fun x v W P h hx ho => head_any hi w2.drew.heap.size w3.heap.size p.params p.funs (p.syms.map symS) _ _ _ x v W P h hx ho) _ t _ W P (Nat.le_refl _) (hds.below hbW) (k3.next hbW).iT (k3.next hbW).oT)
               have Q : w3.cell? ⟨w.heap.size, 0, none⟩ = some (.slice A0 n0 c0) ∧ w3.cell? ⟨w.heap.size, 1, none⟩ = some (.slice A1 n1 c1) ∧ w3.cell? ⟨w.heap.size, 2, none⟩ = some (.slice A2 n2 c2) ∧ w3.cell? ⟨w.heap.size + 1, 0, none⟩ = some (.int .i64 t.kind) ∧ w3.cell? ⟨w.heap.size + 1, 1, none⟩ = some (.int .i64 t.num) ∧ w3.cell? ⟨w.heap.size + 1, 2, none⟩ = some (.slice A n c) := ⟨s0, s1, s2, s3, s4, s5⟩
               obtain ⟨A8, n8, c8, rfl⟩ := hu3
               clear s0 s1 s2 s3 s4 s5)
            | (go_at_call 52
               refine (HH.out (w2.alloc (.cells #[.slice none 0 0] 40)).drew (((Below.refl _ _).alloc (Nat.le_refl _) _).drew)).mono ?_
               rintro e w3 ⟨u3, rfl, hi3, hb3⟩
               have k3 := (k2.next (((Below.refl _ _).alloc (Nat.le_refl _) _).drew)).next hb3
               have kb0 : Blk w3 w2.heap.size 40 #[.slice none 0 0] := ((Blk.new w2 _ _).drew).below hb3 (by simp [World.drew])
               have s0 := k3.bP.cell 0
               have s1 := k3.bP.cell 1
               have s2 := k3.bP.cell 2
               have s3 := k3.bT.cell 0
               have s4 := k3.bT.cell 1
               have s5 := k3.bT.cell 2
               simp at s0 s1 s2 s3 s4 s5
               have hu3 := hi3.form
               have hds : Heads hi (w2.alloc (.cells #[.slice none 0 0] 40)).drew.heap.size w3.heap.size p.params p.funs (p.syms.map symS) (.slice A2 n2 c2) (.slice A1 n1 c1) u3 w3 := ⟨k3.iP.r, k3.iP.f, hi3, k3.lh, Nat.le_refl _⟩
               have HS := Lib.hid (fun W (hbW : Below w3.heap.size w3 W) => HTY.out ▸ sortT_any p.pick HSM.out (.slice A2 n2 c2) (.slice A1 n1 c1) u3 ⟨_, _, _, rfl⟩ ⟨_, _, _, rfl⟩ hu3 (fun W => Heads hi (w2.alloc (.cells #[.slice none 0 0] 40)).drew.heap.size w3.heap.size p.params p.funs (p.syms.map symS) (.slice A2 n2 c2) (.slice A1 n1 c1) u3 W) (fun _ _ h hb => h.below hb) w3.heap.size (fun _ h => h.hh2) (HeadsR hi (w2.alloc (.cells #[.slice none 0 0] 40)).drew.heap.size w3.heap.size) (fun lo h' hr => by have := k3.lh; rcases hr with ⟨_, e⟩ | ⟨_, e⟩ <;> omega) (fun x v W P h hx ho => head_any hi (w2.alloc (.cells #[.slice none 0 0] 40)).drew.heap.size w3.heap.size p.params p.funs (p.syms.map symS) _ _ _ x v W P h hx ho) _ t _ W P (Nat.le_refl _) (hds.below hbW) (k3.next hbW).iT (k3.next hbW).oT)
               have Q : w3.cell? ⟨w.heap.size, 0, none⟩ = some (.slice A0 n0 c0) ∧ w3.cell? ⟨w.heap.size, 1, none⟩ = some (.slice A1 n1 c1) ∧ w3.cell? ⟨w.heap.size, 2, none⟩ = some (.slice A2 n2 c2) ∧ w3.cell? ⟨w.heap.size + 1, 0, none⟩ = some (.int .i64 t.kind) ∧ w3.cell? ⟨w.heap.size + 1, 1, none⟩ = some (.int .i64 t.num) ∧ w3.cell? ⟨w.heap.size + 1, 2, none⟩ = some (.slice A n c) := ⟨s0, s1, s2, s3, s4, s5⟩
               obtain ⟨A8, n8, c8, rfl⟩ := hu3
               clear s0 s1 s2 s3 s4 s5)
            | (go_at_call 53
               have kbt := kb0.lt
               refine (HS.out w3 (Below.refl _ _)).mono ?_
               intro e w4 hfd
               obtain ⟨v4, rfl, hat4, hb4⟩ := Found.yes hfd
               clear hfd
               have k4 := k3.next hb4
               have kb7 : Blk w4 w2.heap.size 40 #[.slice none 0 0] := kb0.below hb4 kb0.lt
               have s6 := kb7.cell 0
               have s7 := kb7.frozen 0
               simp at s6
               have s0 := k4.bP.cell 0
               have s1 := k4.bP.cell 1
               have s2 := k4.bP.cell 2
               have s3 := k4.bT.cell 0
               have s4 := k4.bT.cell 1
               have s5 := k4.bT.cell 2
               simp at s0 s1 s2 s3 s4 s5
               have Q4 : w4.cell? ⟨w.heap.size, 0, none⟩ = some (.slice A0 n0 c0) ∧ w4.cell? ⟨w.heap.size, 1, none⟩ = some (.slice A1 n1 c1) ∧ w4.cell? ⟨w.heap.size, 2, none⟩ = some (.slice A2 n2 c2) ∧ w4.cell? ⟨w.heap.size + 1, 0, none⟩ = some (.int .i64 t.kind) ∧ w4.cell? ⟨w.heap.size + 1, 1, none⟩ = some (.int .i64 t.num) ∧ w4.cell? ⟨w.heap.size + 1, 2, none⟩ = some (.slice A n c) := ⟨s0, s1, s2, s3, s4, s5⟩
               obtain ⟨A9, n9, c9, rfl⟩ := hat4.form
               have kS := k4.set (b := w2.heap.size) (by have := k2.bR.lt; omega) (.slice A9 n9 c9)
               clear s0 s1 s2 s3 s4 s5
               have s0 := kS.bP.cell 0
               have s1 := kS.bP.cell 1
               have s2 := kS.bP.cell 2
               have s3 := kS.bT.cell 0
               have s4 := kS.bT.cell 1
               have s5 := kS.bT.cell 2
               simp at s0 s1 s2 s3 s4 s5
               have Q5 := And.intro s0 (And.intro s1 (And.intro s2 (And.intro s3 (And.intro s4 s5))))
               clear s0 s1 s2 s3 s4 s5)
            | (go_at_call 53
               refine (HS.out w3 (Below.refl _ _)).mono ?_
               intro e w4 hfd
               obtain ⟨v4, rfl, hat4, hb4⟩ := Found.yes hfd
               clear hfd
               have k4 := (k3.next (Below.refl _ _)).next hb4
               have kb7 : True := trivial
               have s0 := k4.bP.cell 0
               have s1 := k4.bP.cell 1
               have s2 := k4.bP.cell 2
               have s3 := k4.bT.cell 0
               have s4 := k4.bT.cell 1
               have s5 := k4.bT.cell 2
               simp at s0 s1 s2 s3 s4 s5
               have Q4 : w4.cell? ⟨w.heap.size, 0, none⟩ = some (.slice A0 n0 c0) ∧ w4.cell? ⟨w.heap.size, 1, none⟩ = some (.slice A1 n1 c1) ∧ w4.cell? ⟨w.heap.size, 2, none⟩ = some (.slice A2 n2 c2) ∧ w4.cell? ⟨w.heap.size + 1, 0, none⟩ = some (.int .i64 t.kind) ∧ w4.cell? ⟨w.heap.size + 1, 1, none⟩ = some (.int .i64 t.num) ∧ w4.cell? ⟨w.heap.size + 1, 2, none⟩ = some (.slice A n c) := ⟨s0, s1, s2, s3, s4, s5⟩
               obtain ⟨A9, n9, c9, rfl⟩ := hat4.form
               clear s0 s1 s2 s3 s4 s5)
            | (go_at_call 53
               refine (HS.out (w3.alloc (.cells #[.slice none 0 0] 40)) ((Below.refl _ _).alloc (Nat.le_refl _) _)).mono ?_
               intro e w4 hfd
               obtain ⟨v4, rfl, hat4, hb4⟩ := Found.yes hfd
               clear hfd
               have k4 := (k3.next ((Below.refl _ _).alloc (Nat.le_refl _) _)).next hb4
               have kb7 : Blk w4 w3.heap.size 40 #[.slice none 0 0] := (Blk.new w3 _ _).below hb4 (by simp)
               have s6 := kb7.cell 0
               have s7 := kb7.frozen 0
               simp at s6
               have s0 := k4.bP.cell 0
               have s1 := k4.bP.cell 1
               have s2 := k4.bP.cell 2
               have s3 := k4.bT.cell 0
               have s4 := k4.bT.cell 1
               have s5 := k4.bT.cell 2
               simp at s0 s1 s2 s3 s4 s5
               have Q4 : w4.cell? ⟨w.heap.size, 0, none⟩ = some (.slice A0 n0 c0) ∧ w4.cell? ⟨w.heap.size, 1, none⟩ = some (.slice A1 n1 c1) ∧ w4.cell? ⟨w.heap.size, 2, none⟩ = some (.slice A2 n2 c2) ∧ w4.cell? ⟨w.heap.size + 1, 0, none⟩ = some (.int .i64 t.kind) ∧ w4.cell? ⟨w.heap.size + 1, 1, none⟩ = some (.int .i64 t.num) ∧ w4.cell? ⟨w.heap.size + 1, 2, none⟩ = some (.slice A n c) := ⟨s0, s1, s2, s3, s4, s5⟩
               obtain ⟨A9, n9, c9, rfl⟩ := hat4.form
               have kS := k4.set (b := w3.heap.size) (by have := k3.bR.lt; omega) (.slice A9 n9 c9)
               clear s0 s1 s2 s3 s4 s5
               have s0 := kS.bP.cell 0
               have s1 := kS.bP.cell 1
               have s2 := kS.bP.cell 2
               have s3 := kS.bT.cell 0
               have s4 := kS.bT.cell 1
               have s5 := kS.bT.cell 2
               simp at s0 s1 s2 s3 s4 s5
               have Q5 := And.intro s0 (And.intro s1 (And.intro s2 (And.intro s3 (And.intro s4 s5))))
               clear s0 s1 s2 s3 s4 s5))
        all_goals
          obtain ⟨lo4, h4, hin4, hor4, hle4⟩ := hat4
          first
            | (have k5 := k4.set (b := w2.heap.size) (by have := k2.bR.lt; omega) (.slice A9 n9 c9)
               have kb := kb7.set_ 0 (.slice A9 n9 c9)
               have hin5 : s.In (w4.setCell ⟨w2.heap.size, 0, none⟩ (.slice A9 n9 c9)) lo4 h4 (.slice A9 n9 c9) := S.In_set hin4 (by have := k2.lh; have := kb0.lt; simp [HeadsR, World.drew] at hor4; omega)
               have hle5 : h4 ≤ (w4.setCell ⟨w2.heap.size, 0, none⟩ (.slice A9 n9 c9)).heap.size := by simpa [World.setCell] using hle4
               have y0 := kb.cell 0
               have HB := Lib.hid (behind_any s _ 0 _ lo4 h4 hin5 hle5)
               unfold Behinds at HB
               rw [HS0.out, HS1.out] at HB
               go_wp2_with fail
               refine HB.out.mono ?_
               rintro e w6 ⟨v6, fp, rfl, hsep6, _, hr6, hb6⟩
               have k6 := k5.next hb6
               obtain ⟨A6, n6, c6, rfl⟩ := hsep6.form
               have q0 := k6.bR.cell 0
               have q1 := k6.bR.frozen 0
               have hz5 := k5.bR.lt
               have i6 := hsep6.in_ _ hr6
               go_wp2_with fail
               rw [HE.out, HT.out]
               exact bodyPost_ret (sortTop_results rfl rfl (k6.bR.set_ 0 _)) rfl ⟨_, rfl, S.In.more (by simp [World.setCell] at hz5 ⊢; omega) (by simp [World.setCell]) _ (S.In_set i6 (.inl (by simp [World.setCell] at hz5 ⊢; omega))), k6.bel.setCell (by simp; omega) _, ((TopS.of hsep6 hr6 (by have := HCNT.out; omega)).set_ (by simp [World.setCell] at hz5 ⊢; omega) _).less (by simp [World.setCell] at hz5 ⊢; omega)⟩)
            | (have k5 := k4.set (b := w3.heap.size) (by have := k3.bR.lt; omega) (.slice A9 n9 c9)
               have kb := kb7.set_ 0 (.slice A9 n9 c9)
               have hin5 : s.In (w4.setCell ⟨w3.heap.size, 0, none⟩ (.slice A9 n9 c9)) lo4 h4 (.slice A9 n9 c9) := S.In_set hin4 (by have := k3.lh; have := k3.bR.lt; simp [HeadsR] at hor4; omega)
               have hle5 : h4 ≤ (w4.setCell ⟨w3.heap.size, 0, none⟩ (.slice A9 n9 c9)).heap.size := by simpa [World.setCell] using hle4
               have y0 := kb.cell 0
               have HB := Lib.hid (behind_any s _ 0 _ lo4 h4 hin5 hle5)
               unfold Behinds at HB
               rw [HS0.out, HS1.out] at HB
               go_wp2_with fail
               refine HB.out.mono ?_
               rintro e w6 ⟨v6, fp, rfl, hsep6, _, hr6, hb6⟩
               have k6 := k5.next hb6
               obtain ⟨A6, n6, c6, rfl⟩ := hsep6.form
               have q0 := k6.bR.cell 0
               have q1 := k6.bR.frozen 0
               have hz5 := k5.bR.lt
               have i6 := hsep6.in_ _ hr6
               go_wp2_with fail
               rw [HE.out, HT.out]
               exact bodyPost_ret (sortTop_results rfl rfl (k6.bR.set_ 0 _)) rfl ⟨_, rfl, S.In.more (by simp [World.setCell] at hz5 ⊢; omega) (by simp [World.setCell]) _ (S.In_set i6 (.inl (by simp [World.setCell] at hz5 ⊢; omega))), k6.bel.setCell (by simp; omega) _, ((TopS.of hsep6 hr6 (by have := HCNT.out; omega)).set_ (by simp [World.setCell] at hz5 ⊢; omega) _).less (by simp [World.setCell] at hz5 ⊢; omega)⟩)
            | (have k5 := k4.next ((Below.refl _ _).alloc (Nat.le_refl _) (.cells #[.slice A9 n9 c9] 40))
               have hin5 : s.In (w4.alloc (.cells #[.slice A9 n9 c9] 40)) lo4 h4 (.slice A9 n9 c9) := hin4.below ((Below.refl _ _).alloc (Nat.le_refl _) _) hle4
               have hle5 : h4 ≤ (w4.alloc (.cells #[.slice A9 n9 c9] 40)).heap.size := by simp; omega
               have HB := Lib.hid (behind_any s _ 0 _ lo4 h4 hin5 hle5)
               unfold Behinds at HB
               rw [HS0.out, HS1.out] at HB
               go_wp2_with fail
               refine HB.out.mono ?_
               rintro e w6 ⟨v6, fp, rfl, hsep6, _, hr6, hb6⟩
               have k6 := k5.next hb6
               obtain ⟨A6, n6, c6, rfl⟩ := hsep6.form
               have q0 := k6.bR.cell 0
               have q1 := k6.bR.frozen 0
               have hz5 := k5.bR.lt
               have i6 := hsep6.in_ _ hr6
               go_wp2_with fail
               rw [HE.out, HT.out]
               exact bodyPost_ret (sortTop_results rfl rfl (k6.bR.set_ 0 _)) rfl ⟨_, rfl, S.In.more (by simp at hz5 ⊢; omega) (by simp [World.setCell]) _ (S.In_set i6 (.inl (by simp at hz5 ⊢; omega))), k6.bel.setCell (by simp; omega) _, ((TopS.of hsep6 hr6 (by have := HCNT.out; omega)).set_ (by simp at hz5 ⊢; omega) _).less (by simp at hz5 ⊢; omega)⟩)
theorem termSort_any (p : Pl) (v0 v1 v2 : Value) (t : T) (v : Value) (w : World) (hi : Nat) (P : Nat → Prop) (hp : PlIn w 0 hi p v0 v1 v2) (hhi : hi ≤ w.heap.size) (hin : t.In w P v) (hold : Old P w) :
    Calls Try.prog 22 #[.agg #[v0, v1, v2], .agg #[.int .i64 t.kind, .int .i64 t.num, v]] w (GaveS (p.sortS t) (p.sortE t) w) :=
  (termSort_own p v0 v1 v2 t v w hi P hp hhi hin hold).mono fun _ _ ⟨u, he, hi, hb, _⟩ => ⟨u, he, hi, hb⟩
end Go.Proofs.Ytmggccgjhjknpaa
