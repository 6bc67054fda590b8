/-
  The guess of a function: a contract.
  The guess of a term's sort: (infer.heads).sort, a contract.
  Functions without sorts in memory; the law's conversion of a list of them.
  names.Different at loose functions: a contract.
  nest.visit, nest.All and nest.Each at terms, by scheme.args.
  infer.isBody: a contract.
  infer.Check: a contract.
-/
import Derived.Test.YtkkfdiidneoelaaGreatDoorGM
import Derived.Test.YtkkfdiidneoelaaGreatDoorGP
import Derived.Test.YtkkfdiidneoelaaGreatDoorGH
import Derived.Test.YtkkfdiidneoelaaGreatDoorGD
import Derived.Test.YtkkfdiidneoelaaGreatDoorGC
import Derived.Maps.OwnSet
import Derived.Maps.OwnOps
namespace Go.Proofs.YtkkfdiidneoelaaGreatDoor
open Go.RowKit

/-- New nodes lie in new blocks. -/
structure Grown (ps ps' : List Nat) (w w' : World) : Prop where
  more : ∃ m, ps' = ps ++ m
  sav : Saves (· ∈ ps) w w'
theorem Grown.refl (ps : List Nat) (w : World) : Grown ps ps w w := ⟨⟨[], by simp⟩, Saves.refl _ _⟩
/-- What function answers. -/
def FunPostI (ps : List Nat) (G : Gr) (vis : Nat → Int) (free : Bool) (n : Nat) (w : World) (e : Ending) (w' : World) : Prop :=
  ∃ G' m top p, FnExt G G' free n top ∧ G'.length = G.length + 1 + 2 * n ∧ (ps ++ m)[top]? = some p ∧ e = .returned (pv p) ∧ Gs w' (ps ++ m) G' vis ∧ (∀ b ∈ m, w.heap.size ≤ b) ∧ Below w.heap.size w w'
def FunAt (ps : List Nat) (G : Gr) (vis : Nat → Int) (free : Bool) (n : Nat) (w : World) (g i : Value) (wr : World) : Prop :=
  ∃ (k : Nat) (G' : Gr) (m : List Nat) (top p : Nat), k ≤ n ∧ i = .int .i64 (k : Int) ∧ g = pv p ∧ FnExt G G' free k top ∧ G'.length = G.length + 1 + 2 * k ∧ (ps ++ m)[top]? = some p ∧ Gs wr (ps ++ m) G' vis ∧ (∀ b ∈ m, w.heap.size ≤ b) ∧ Below w.heap.size w wr

def kindOf (free : Bool) : Int := if free = true then 0 else 1
set_option maxHeartbeats 800000 in
theorem function_any (ps : List Nat) (G : Gr) (vis : Nat → Int) (free : Bool) (n : Nat) (w : World) (hG : Good G) (hgs : Gs w ps G vis) (hvis : ∀ x, G.length ≤ x → vis x = 0) (hn : n ≤ 1000) :
    Calls Tryz.prog 113 #[.int .i64 (n : Int), .int .i64 (kindOf free)] w (FunPostI ps G vis free n w) := by
  have HVIS := Lib.hid hvis
  have H0 : Hid (FunAt ps G vis free n w (pv w.heap.size) (.int .i64 0) (w.alloc (.cells (gcells none 1 none none 0) 190))) := by
    refine Lib.hid ⟨0, G ++ [.tree], [w.heap.size], G.length, w.heap.size, Nat.zero_le _, rfl, rfl, .start hG free, by simp, ?_, hgs.new (d := .tree) ⟨rfl, rfl⟩ (hvis _ (Nat.le_refl _)), (fun b hb => by simp at hb; omega), (Below.refl _ _).alloc (Nat.le_refl _) _⟩
    rw [← hgs.len]; simp
  generalize hkd : kindOf free = kd at *
  have HKD := Lib.hid hkd
  clear hG hgs hvis hkd
  go_enter Tryz.func113, Tryz.ntmps113
  go_wp2_with fail
  go_loopw [5, 9] (fun g i wr => FunAt ps G vis free n w g i wr) (fun _ i _ => n - (intOf i).toNat)
  case atStart => exact H0.out
  case round =>
    obtain ⟨k, G', m, top, p, hk, rfl, rfl, he, hl, hp, hg, hmn, hb⟩ := hrel
    by_cases hlt : k < n
    · have HR : Hid (FunAt ps G vis free n w (pv (wr.heap.size + 1)) (.int .i64 ((k + 1 : Nat) : Int)) ((wr.alloc (.cells (gcells none kd none none 0) 190)).alloc (.cells (gcells none 2 (some (at0 wr.heap.size)) (some (at0 p)) 0) 190))) := by
        have h1 := hg.new (d := argNd free) (sm := none) (fr := none) (to_ := none) (kd := kd) (by rw [← HKD.out]; cases free <;> exact ⟨rfl, rfl⟩) (HVIS.out _ (by have := he.len; omega))
        have hpl := hg.len
        have h2 := h1.new (d := .arrow G'.length top) (sm := none) (fr := some (at0 wr.heap.size)) (to_ := some (at0 p)) (kd := 2) ⟨rfl, rfl, ⟨wr.heap.size, by rw [← hpl]; simp, rfl⟩, p, get_more hp _, rfl⟩ (HVIS.out _ (by have := he.len; simp; omega))
        refine Lib.hid ⟨k + 1, _, m ++ [wr.heap.size] ++ [wr.heap.size + 1], _, wr.heap.size + 1, by omega, rfl, rfl, he.step, by simp; omega, ?_, ?_, (fun b hb' => by
          have := hb.size
          simp only [List.mem_append, List.mem_singleton] at hb'
          rcases hb' with (hb' | rfl) | rfl
          · exact hmn b hb'
          · omega
          · omega), (hb.alloc hb.size _).alloc (by have := hb.size; simp; omega) _⟩
        · have e : ps ++ (m ++ [wr.heap.size] ++ [wr.heap.size + 1]) = ps ++ m ++ [wr.heap.size] ++ [wr.heap.size + 1] := by simp
          have e2 : G'.length + 1 = (ps ++ m ++ [wr.heap.size]).length := by rw [List.length_append, hpl]; rfl
          rw [e, e2, List.getElem?_concat_length]
        · have e : ps ++ (m ++ [wr.heap.size] ++ [wr.heap.size + 1]) = ps ++ m ++ [wr.heap.size] ++ [wr.heap.size + 1] := by simp
          rw [e]
          simpa using h2
      clear he hl hp hg hmn hb
      go_wp2_with fail
      go_roundw
      case rel => simpa using HR.out
      case measure => simp [intOf]; omega
    · have hkn : k = n := by omega
      have HF : Hid (FunPostI ps G vis free n w (.returned (pv p)) wr) := Lib.hid ⟨G', m, top, p, hkn ▸ he, by omega, hp, rfl, hg, hmn, hb⟩
      clear he hl hp hg hmn hb hkn
      go_wp2_with fail
      go_ret
      exact HF.out
end Go.Proofs.YtkkfdiidneoelaaGreatDoor

namespace Go.Proofs.YtkkfdiidneoelaaGreatDoor
open Go.RowKit

/-- A head that exists, of one of a variables, b functions, c symbols. -/
def headIn (a b c : Nat) (k n : Int) : Bool := decide (0 ≤ n) && decide (n < ((if k = 0 then a else if k = 1 then b else if k = 2 then c else 0 : Nat) : Int))
mutual
def T.exist (a b c : Nat) : T → Bool
  | .mk k n l => headIn a b c k n && T.existL a b c l
def T.existL (a b c : Nat) : List T → Bool
  | [] => true
  | s :: r => s.exist a b c && T.existL a b c r
end
theorem T.existL_at {a b c : Nat} : ∀ {l : List T}, T.existL a b c l = true → ∀ {k : Nat} {x : T}, l[k]? = some x → x.exist a b c = true
  | [], _, k, x, h => by simp at h
  | s :: r, hl, k, x, h => by
    simp only [T.existL, Bool.and_eq_true] at hl
    cases k with
    | zero => simp at h; subst h; exact hl.1
    | succ k => simp at h; exact T.existL_at hl.2 h

/-- A slice of guesses that are read: in blocks of which P holds. -/
def PRd (w : World) (P : Nat → Prop) (us : List Nat) (v : Value) : Prop :=
  ∃ A c, v = .slice A us.length c ∧ ∀ i p : Nat, us[i]? = some p → ∃ ad, A = some ad ∧ P ad.block ∧ w.cell? (ad.add i) = some (pv p)
theorem PRd.keep {w w' : World} {P Q : Nat → Prop} {us : List Nat} {v : Value} (h : PRd w P us v) (hb : ∀ b, P b → w'.heap[b]? = w.heap[b]? ∧ Q b) : PRd w' Q us v := by
  obtain ⟨A, c, rfl, h2⟩ := h
  refine ⟨A, c, rfl, fun i p hi => ?_⟩
  obtain ⟨ad, e, h3, h4⟩ := h2 i p hi
  exact ⟨ad, e, (hb _ h3).2, (World.cell?_of_block (by rw [block_of_add]; exact (hb _ h3).1)).trans h4⟩
theorem Ps.prd {B : Nat} {w : World} {us : List Nat} {v : Value} (h : Ps B w us v) : PRd w (fun b => B ≤ b ∧ b < w.heap.size) us v := by
  obtain ⟨A, c, rfl⟩ := h.form
  refine ⟨A, c, rfl, fun i p hi => ?_⟩
  obtain ⟨ad, e, h1, h2, h3⟩ := h.cell hi
  exact ⟨ad, e, ⟨h1, h2⟩, h3⟩

/-- The slices of heads, and the nodes that they hold; terms lie below B, guesses from B on. -/
structure HCtx (B : Nat) (ps : List Nat) (l0 l1 l2 u0 u1 u2 : List Nat) (p0 p1 p2 : Value) (w : World) : Prop where
  r0 : PRd w (fun b => b < w.heap.size ∧ b ∉ ps) u0 p0
  r1 : PRd w (fun b => b < w.heap.size ∧ b ∉ ps) u1 p1
  r2 : PRd w (fun b => b < w.heap.size ∧ b ∉ ps) u2 p2
  n0 : Nodes ps l0 u0
  n1 : Nodes ps l1 u1
  n2 : Nodes ps l2 u2
  base : ∀ b ∈ ps, B ≤ b
  le : B ≤ w.heap.size
theorem HCtx.next {B : Nat} {ps m : List Nat} {l0 l1 l2 u0 u1 u2 : List Nat} {p0 p1 p2 : Value} {w w' : World} (h : HCtx B ps l0 l1 l2 u0 u1 u2 p0 p1 p2 w) (hs : Saves (· ∈ ps) w w') (hm : ∀ b ∈ m, w.heap.size ≤ b) :
    HCtx B (ps ++ m) l0 l1 l2 u0 u1 u2 p0 p1 p2 w' := by
  have q : ∀ b, b < w.heap.size ∧ b ∉ ps → w'.heap[b]? = w.heap[b]? ∧ b < w'.heap.size ∧ b ∉ ps ++ m := fun b hb =>
    ⟨hs.block b hb.1 hb.2, Nat.lt_of_lt_of_le hb.1 hs.size, fun hh => by
      rcases List.mem_append.1 hh with hh | hh
      · exact hb.2 hh
      · have := hm b hh; omega⟩
  refine ⟨h.r0.keep q, h.r1.keep q, h.r2.keep q, h.n0.more m, h.n1.more m, h.n2.more m, fun b hb => ?_, Nat.le_trans h.le hs.size⟩
  rcases List.mem_append.1 hb with hb | hb
  · exact h.base b hb
  · have := hm b hb; have := h.le; omega
/-- The nodes of heads. -/
abbrev hsOf (l0 l1 l2 : List Nat) : Int → Int → Option Nat := pickA l0 l1 l2
/-- What sort answers. -/
def SortPostI (ps : List Nat) (G : Gr) (vis : Nat → Int) (hs : Int → Int → Option Nat) (t : T) (w : World) (e : Ending) (w' : World) : Prop :=
  ∃ (G' : Gr) (m : List Nat) (res : Option Nat), Gs w' (ps ++ m) G' vis ∧ Good G' ∧ Saves (· ∈ ps) w w' ∧ (∀ b ∈ m, w.heap.size ≤ b) ∧ G.length ≤ G'.length ∧ G'.length + 2 ≤ G.length + 2 * t.count ∧
    match res with
    | some r => ∃ p, (ps ++ m)[r]? = some p ∧ e = .returned (.tuple #[pv p, .bool true]) ∧ Typed G G' hs t r
    | none => e = .returned (.tuple #[.pointer none, .bool false]) ∧ NoTy G hs t

theorem Saves.more_ {ps m : List Nat} {w w1 w2 : World} (h : Saves (· ∈ ps) w w1) (k : Saves (· ∈ ps ++ m) w1 w2) (hm : ∀ b ∈ m, w.heap.size ≤ b) : Saves (· ∈ ps) w w2 :=
  ⟨k.os.trans h.os, k.tape.trans h.tape, k.output.trans h.output, Nat.le_trans h.size k.size, fun b hb hn => (k.block b (Nat.lt_of_lt_of_le hb h.size) (fun hh => by
    rcases List.mem_append.1 hh with hh | hh
    · exact hn hh
    · have := hm b hh; omega)).trans (h.block b hb hn)⟩
/-- So many arguments are done. -/
structure SAt (B : Nat) (ps : List Nat) (G : Gr) (vis : Nat → Int) (hs : Int → Int → Option Nat) (l : List T) (g0 : Nat) (bh bt : Array Value) (w : World) (k : Nat) (G1 : Gr) (m : List Nat) (r p : Nat) (wr : World) : Prop where
  ptr : (ps ++ m)[r]? = some p
  ty : TypedL G G1 hs (l.take k) g0 r
  gs : Gs wr (ps ++ m) G1 vis
  sav : Saves (· ∈ ps) w wr
  new : ∀ b ∈ m, w.heap.size + 2 ≤ b
  bh : Blk wr w.heap.size 183 bh
  bt : Blk wr (w.heap.size + 1) 53 bt
  len : G1.length ≤ G.length + 2 * T.countL (l.take k)
def SAtV (B : Nat) (ps : List Nat) (G : Gr) (vis : Nat → Int) (hs : Int → Int → Option Nat) (l : List T) (g0 : Nat) (bh bt : Array Value) (w : World) (g i : Value) (wr : World) : Prop :=
  ∃ (k : Nat) (G1 : Gr) (m : List Nat) (r p : Nat), k ≤ l.length ∧ i = .int .i64 (k : Int) ∧ g = pv p ∧ SAt B ps G vis hs l g0 bh bt w k G1 m r p wr

set_option maxRecDepth 100000 in
set_option maxHeartbeats 3200000 in
theorem sortI_any (vis : Nat → Int) (B n0 : Nat) (hvis : ∀ x, n0 ≤ x → vis x = 0) (l0 l1 l2 u0 u1 u2 : List Nat) (p0 p1 p2 : Value) (K : Nat) : ∀ (t : T) (v : Value) (w : World) (ps : List Nat) (G : Gr), t.count ≤ K → Good G → n0 ≤ G.length → Gs w ps G vis →
    HCtx B ps l0 l1 l2 u0 u1 u2 p0 p1 p2 w → t.In w (· < B) v → t.exist l0.length l1.length l2.length = true →
    Calls Tryz.prog 115 #[.agg #[p0, p1, p2], .agg #[.int .i64 t.kind, .int .i64 t.num, v]] w (SortPostI ps G vis (hsOf l0 l1 l2) t w) := by
  induction K with
  | zero => intro t; have := t.count_pos; omega
  | succ K ih =>
    intro t v w ps G hK hG hnG hgs hctx hin hex
    obtain ⟨kd, nm, l⟩ := t
    have hin0 := hin
    simp only [T.In] at hin
    obtain ⟨A, _, c, us, rfl, rfl, hnc, hc, hrd, hrow⟩ := hin
    simp only [T.exist, Bool.and_eq_true] at hex
    obtain ⟨hhd, hexl⟩ := hex
    simp only [T.kind, T.num]
    obtain ⟨A0, c0, rfl, a0⟩ := hctx.r0
    obtain ⟨A1, c1, rfl, a1⟩ := hctx.r1
    obtain ⟨A2, c2, rfl, a2⟩ := hctx.r2
    have HIH := Lib.hid ih
    clear ih
    -- the head
    have hhead : ∃ (κ j : Nat) (Ak : Option Addr) (nk ck g0 q0 : Nat) (ad : Addr), κ < 3 ∧ kd = (κ : Int) ∧ nm = (j : Int) ∧ j < nk ∧ (#[Value.slice A0 u0.length c0, .slice A1 u1.length c1, .slice A2 u2.length c2] : Array Value)[κ]? = some (.slice Ak nk ck) ∧
        Ak = some ad ∧ ad.block < w.heap.size ∧ ad.block ∉ ps ∧ w.cell? (ad.add j) = some (pv q0) ∧ hsOf l0 l1 l2 kd nm = some g0 ∧ ps[g0]? = some q0 := by
      simp only [headIn, Bool.and_eq_true, decide_eq_true_eq] at hhd
      obtain ⟨h1, h2⟩ := hhd
      obtain ⟨j, rfl⟩ : ∃ j : Nat, nm = (j : Int) := ⟨nm.toNat, by omega⟩
      by_cases k0 : kd = 0
      · subst k0
        rw [if_pos rfl] at h2
        have hj : l0[j]? = some (l0[j]'(by omega)) := List.getElem?_eq_getElem _
        obtain ⟨q, e1, e2⟩ := hctx.n0.2 j _ hj
        obtain ⟨ad, e3, e4, e5⟩ := a0 j q e1
        exact ⟨0, j, A0, u0.length, c0, _, q, ad, by omega, rfl, rfl, (List.getElem?_eq_some_iff.1 e1).1, rfl, e3, e4.1, e4.2, e5, by simp [hsOf, pickA, hj], e2⟩
      · by_cases k1 : kd = 1
        · subst k1
          rw [if_neg (by decide), if_pos rfl] at h2
          have hj : l1[j]? = some (l1[j]'(by omega)) := List.getElem?_eq_getElem _
          obtain ⟨q, e1, e2⟩ := hctx.n1.2 j _ hj
          obtain ⟨ad, e3, e4, e5⟩ := a1 j q e1
          exact ⟨1, j, A1, u1.length, c1, _, q, ad, by omega, rfl, rfl, (List.getElem?_eq_some_iff.1 e1).1, rfl, e3, e4.1, e4.2, e5, by simp [hsOf, pickA, hj], e2⟩
        · by_cases k2 : kd = 2
          · subst k2
            rw [if_neg (by decide), if_neg (by decide), if_pos rfl] at h2
            have hj : l2[j]? = some (l2[j]'(by omega)) := List.getElem?_eq_getElem _
            obtain ⟨q, e1, e2⟩ := hctx.n2.2 j _ hj
            obtain ⟨ad, e3, e4, e5⟩ := a2 j q e1
            exact ⟨2, j, A2, u2.length, c2, _, q, ad, by omega, rfl, rfl, (List.getElem?_eq_some_iff.1 e1).1, rfl, e3, e4.1, e4.2, e5, by simp [hsOf, pickA, hj], e2⟩
          · rw [if_neg k0, if_neg k1, if_neg k2] at h2
            omega
    obtain ⟨κ, j, Ak, nk, ck, g0, q0, ad, hκ, rfl, rfl, hj, hbx, rfl, had, hadp, hcell, hhs, hg0⟩ := hhead
    have hw2 : Below w.heap.size w ((w.alloc (.cells #[.slice A0 u0.length c0, .slice A1 u1.length c1, .slice A2 u2.length c2] 183)).alloc (.cells #[.int .i64 (κ : Int), .int .i64 (j : Int), .slice A l.length c] 53)) := ((Below.refl _ _).alloc (Nat.le_refl _) _).alloc (by simp) _
    have bH : Blk ((w.alloc (.cells #[.slice A0 u0.length c0, .slice A1 u1.length c1, .slice A2 u2.length c2] 183)).alloc (.cells #[.int .i64 (κ : Int), .int .i64 (j : Int), .slice A l.length c] 53)) w.heap.size 183 #[.slice A0 u0.length c0, .slice A1 u1.length c1, .slice A2 u2.length c2] := (Blk.new _ _ _).alloc _
    have bT : Blk ((w.alloc (.cells #[.slice A0 u0.length c0, .slice A1 u1.length c1, .slice A2 u2.length c2] 183)).alloc (.cells #[.int .i64 (κ : Int), .int .i64 (j : Int), .slice A l.length c] 53)) (w.heap.size + 1) 53 #[.int .i64 (κ : Int), .int .i64 (j : Int), .slice A l.length c] := by
      simpa using Blk.new (w.alloc (.cells #[.slice A0 u0.length c0, .slice A1 u1.length c1, .slice A2 u2.length c2] 183)) 53 #[.int .i64 (κ : Int), .int .i64 (j : Int), .slice A l.length c]
    have y0 := bT.cell 0
    have y1 := bT.cell 1
    have y2 := bT.cell 2
    have x0 := (bH.cell κ).trans hbx
    have xj := (hw2.cell (p := ad.add j) (by rw [block_of_add]; omega)).trans hcell
    simp at y0 y1 y2
    have hk0 : (0 : Int) ≤ (κ : Int) := by omega
    have hk3 : (κ : Int) < 3 := by omega
    have hj0 : (0 : Int) ≤ (j : Int) := by omega
    have hjn : (j : Int) < (nk : Int) := by omega
    clear hbx a0 a1 a2
    have H0 : Hid (∀ n, SAtV B ps G vis (hsOf l0 l1 l2) l g0 #[.slice A0 u0.length c0, .slice A1 u1.length c1, .slice A2 u2.length c2] #[.int .i64 (κ : Int), .int .i64 (j : Int), .slice A l.length c] w (pv q0) (.int .i64 0)
        (((w.alloc (.cells #[.slice A0 u0.length c0, .slice A1 u1.length c1, .slice A2 u2.length c2] 183)).alloc (.cells #[.int .i64 (κ : Int), .int .i64 (j : Int), .slice A l.length c] 53)).drewN n)) := by
      refine Lib.hid fun n => ⟨0, G, [], g0, q0, Nat.zero_le _, rfl, rfl, by simpa using hg0, ?_, ?_, ?_, fun b hb => by simp at hb, bH.drewN n, bT.drewN n, by simp [T.countL]⟩
      · exact .nil hG (by have := hgs.len; have := (List.getElem?_eq_some_iff.1 hg0).1; omega)
      · simpa using (hgs.below hw2).drewN n
      · exact Saves.of_below (below_drewN hw2 n)
    have HM : Hid (∀ (k n : Int) (x : Nat), hsOf l0 l1 l2 k n = some x → x < G.length) := by
      have q : ∀ {ls us : List Nat}, Nodes ps ls us → ∀ x ∈ ls, x < G.length := fun hn x hx => by
        obtain ⟨i, hi, rfl⟩ := List.mem_iff_getElem.1 hx
        obtain ⟨p, _, h2⟩ := hn.2 i _ (List.getElem?_eq_getElem hi)
        have := hgs.len
        have := (List.getElem?_eq_some_iff.1 h2).1
        omega
      exact Lib.hid fun k n x h => pickA_mem (P := fun x => x < G.length) (q hctx.n0) (q hctx.n1) (q hctx.n2) h
    have HHS := Lib.hid hhs
    have HG0 : Hid (g0 < G.length) := Lib.hid (HM.out _ _ _ hhs)
    have HCX := Lib.hid hctx
    have HGS := Lib.hid hgs
    have HEX := Lib.hid hexl
    have HHV := Lib.hid hvis
    have HKB : Hid (1 + T.countL l ≤ K + 1) := Lib.hid (by simpa only [T.count] using hK)
    have HNG := Lib.hid hnG
    have hBw := hctx.le
    clear hcell had hadp hhs hg0 hhd hexl hin0 hctx hgs hG bH bT hw2 hK hnG hvis
    go_enter Tryz.func115, Tryz.ntmps115
    go_wp2_with fail
    go_quiet (fail)
    go_wp2_with fail
    clear x0 xj y0 y1 y2
    go_loopw [6, 23] (fun g i wr => SAtV B ps G vis (hsOf l0 l1 l2) l g0 #[.slice A0 u0.length c0, .slice A1 u1.length c1, .slice A2 u2.length c2] #[.int .i64 (κ : Int), .int .i64 (j : Int), .slice A l.length c] w g i wr) (fun _ i _ => l.length - (intOf i).toNat)
    case atStart => exact H0.out _
    case round =>
      clear H0
      obtain ⟨k, G1, m, r, p, hk, rfl, rfl, hr⟩ := hrel
      have hzr := hr.sav.size
      have hPr := hr.ptr
      by_cases hlt : k < l.length
      · have hx : l[k]? = some l[k] := List.getElem?_eq_getElem hlt
        obtain ⟨ad2, u, rfl, hP, hel, hinx⟩ := T.In.el hrd hrow hx
        have hold : ∀ b, b < B → wr.heap[b]? = w.heap[b]? := fun b hb => hr.sav.block b (by omega) (fun hm => by have := HCX.out.base b hm; omega)
        obtain ⟨r0, r1, r2⟩ := hel.keep (hold _ hP)
        have hcnt : T.countL (l.take (k + 1)) = T.countL (l.take k) + l[k].count := T.countL_take_succ l k _ hx
        have hcle := T.countL_take_le l (k + 1)
        have hpos := l[k].count_pos
        have hexx := T.existL_at HEX.out hx
        have hinw : l[k].In wr (· < B) u := T.In.keep (fun b hb => hold b hb) _ hinx
        have htk : l.take (k + 1) = l.take k ++ [l[k]] := by rw [List.take_add_one, hx]; rfl
        have hsplit : l = l.take k ++ l[k] :: l.drop (k + 1) := by
          rw [← List.drop_eq_getElem_cons hlt, List.take_append_drop]
        have HTY := Lib.hid hr.ty
        generalize l[k] = x at *
        obtain ⟨A', n', c', rfl⟩ := hinx.form
        have hbx : Below wr.heap.size wr (wr.alloc (.cells #[.int .i64 x.kind, .int .i64 x.num, .slice A' n' c'] 53)) := (Below.refl _ _).alloc (Nat.le_refl _) _
        have hcx1 : HCtx B (ps ++ m) l0 l1 l2 u0 u1 u2 (.slice A0 u0.length c0) (.slice A1 u1.length c1) (.slice A2 u2.length c2) (wr.alloc (.cells #[.int .i64 x.kind, .int .i64 x.num, .slice A' n' c'] 53)) :=
          HCX.out.next (hr.sav.trans (Saves.of_below hbx)) (fun b hb => by have := hr.new b hb; omega)
        have hc2 := HIH.out x (.slice A' n' c') (wr.alloc (.cells #[.int .i64 x.kind, .int .i64 x.num, .slice A' n' c'] 53)) (ps ++ m) G1 (by have := HKB.out; omega) hr.ty.good (by have := HNG.out; have := hr.ty.len; omega) (hr.gs.below hbx) hcx1 (hinw.below hbx (fun b hb => by omega)) hexx
        have HC2 := Lib.hid hc2
        have HR := Lib.hid hr
        have HEQ : Hid (T.countL (l.take (k + 1)) = T.countL (l.take k) + x.count ∧ l.take (k + 1) = l.take k ++ [x] ∧ l = l.take k ++ x :: l.drop (k + 1)) := Lib.hid ⟨hcnt, htk, hsplit⟩
        have z0 := (hr.bh.alloc (.cells #[.int .i64 x.kind, .int .i64 x.num, .slice A' n' c'] 53)).cell 0
        have z1 := (hr.bh.alloc (.cells #[.int .i64 x.kind, .int .i64 x.num, .slice A' n' c'] 53)).cell 1
        have z2 := (hr.bh.alloc (.cells #[.int .i64 x.kind, .int .i64 x.num, .slice A' n' c'] 53)).cell 2
        simp at z0 z1 z2
        clear hc2 hcx1 hx hel hinx hinw hexx hcnt htk hsplit hr hcle hbx hPr
        go_wp2_with fail
        refine HC2.out.mono ?_
        rintro e w2 ⟨G2, m2, res, hg2, hgd2, hs2, hn2, hle2, hlen2, hres⟩
        have hz2 := hs2.size
        simp only [World.size_alloc] at hz2
        have HSV : Hid (Saves (· ∈ ps) w w2) := Lib.hid ((HR.out.sav.trans (Saves.of_below ((Below.refl _ _).alloc (Nat.le_refl _) _))).more_ hs2 (fun b hb => by have := HR.out.new b hb; omega))
        have HNW : Hid (∀ b ∈ m ++ m2, w.heap.size + 2 ≤ b) := Lib.hid fun b hb => by
          rcases List.mem_append.1 hb with hb | hb
          · exact HR.out.new b hb
          · have h1 := hn2 b hb
            have h2 := HR.out.bt.lt
            simp only [World.size_alloc] at h1
            omega
        have HNP : Hid (w.heap.size ∉ ps ++ m ∧ w.heap.size + 1 ∉ ps ++ m) := by
          have q : ∀ b, w.heap.size ≤ b → b < w.heap.size + 2 → b ∉ ps ++ m := fun b h1 h2 hh => by
            rcases List.mem_append.1 hh with hh | hh
            · have := HGS.out.lt hh; omega
            · have := HR.out.new b hh; omega
          exact Lib.hid ⟨q _ (by omega) (by omega), q _ (by omega) (by omega)⟩
        have HB2 : Hid (Blk w2 w.heap.size 183 #[.slice A0 u0.length c0, .slice A1 u1.length c1, .slice A2 u2.length c2] ∧ Blk w2 (w.heap.size + 1) 53 #[.int .i64 (κ : Int), .int .i64 (j : Int), .slice (some ad2) l.length c]) :=
          Lib.hid ⟨(HR.out.bh.alloc _).saves hs2 HNP.out.1, (HR.out.bt.alloc _).saves hs2 HNP.out.2⟩
        have HL2 : Hid (G.length ≤ G2.length ∧ G2.length + 2 ≤ G.length + 2 * T.countL (l.take (k + 1)) ∧ T.countL (l.take (k + 1)) ≤ T.countL l) := by
          obtain ⟨e1, _, _⟩ := HEQ.out
          have h1 := HR.out.len
          have h2 := HR.out.ty.len
          exact Lib.hid ⟨by omega, by rw [e1]; omega, T.countL_take_le l _⟩
        have HG2 : Hid (Gs w2 (ps ++ (m ++ m2)) G2 vis ∧ Good G2) := Lib.hid ⟨by rw [← List.append_assoc]; exact hg2, hgd2⟩
        clear hg2 hgd2 hs2 hn2 hle2 hlen2 z0 z1 z2
        cases res with
        | none =>
          obtain ⟨rfl, hno⟩ := hres
          have HF : Hid (∀ o, SortPostI ps G vis (hsOf l0 l1 l2) (.mk (κ : Int) (j : Int) l) w (.returned (.tuple #[.pointer none, .bool false])) (w2.alloc o)) := by
            obtain ⟨_, _, e3⟩ := HEQ.out
            obtain ⟨h1, h2, h3⟩ := HL2.out
            refine Lib.hid fun o => ⟨G2, m ++ m2, none, HG2.out.1.alloc o, HG2.out.2, HSV.out.alloc o, fun b hb => by have := HNW.out b hb; omega, h1, by simp only [T.count]; omega, rfl, ?_⟩
            have := NoTyL.arg HM.out HTY.out hno (l.drop (k + 1))
            rw [← e3] at this
            exact this.no HHS.out
          clear hno
          go_wp2_with fail
          go_ret2
          exact HF.out _
        | some a =>
          obtain ⟨pa, hpa, rfl, hty⟩ := hres
          obtain ⟨ok, hok⟩ := Unifies.bool (withArg G2 a) r (G2.length + 1)
          have hl2 := HG2.out.1.len
          have hpa' : (ps ++ (m ++ m2))[a]? = some pa := by rw [← List.append_assoc]; exact hpa
          have hpr' : (ps ++ (m ++ m2))[r]? = some p := by rw [← List.append_assoc]; exact get_more HR.out.ptr _
          have hv0 : ∀ x, G2.length ≤ x → vis x = 0 := fun x hx => HHV.out x (by have := HNG.out; have := HL2.out.1; omega)
          have hg3 := HG2.out.1.new (d := .open_) (sm := none) (fr := none) (to_ := none) (kd := 0) ⟨rfl, rfl⟩ (hv0 _ (Nat.le_refl _))
          have hg4 := hg3.new (d := .arrow a G2.length) (sm := none) (fr := some (at0 pa)) (to_ := some (at0 w2.heap.size)) (kd := 2) ⟨rfl, rfl, ⟨pa, get_more hpa' _, rfl⟩, w2.heap.size, by rw [← hl2, List.getElem?_concat_length], rfl⟩ (hv0 _ (by simp))
          simp only [World.size_alloc] at hg4
          have hp4 : (ps ++ (m ++ m2) ++ [w2.heap.size] ++ [w2.heap.size + 1])[G2.length + 1]? = some (w2.heap.size + 1) := by
            have e2 : G2.length + 1 = (ps ++ (m ++ m2) ++ [w2.heap.size]).length := by rw [List.length_append, hl2]; rfl
            rw [e2, List.getElem?_concat_length]
          have hj := join_any _ _ (withArg G2 a) vis r (G2.length + 1) p (w2.heap.size + 1) ok _ (Nat.le_refl _) (withArg_good HG2.out.2 hty.lt) hg4 (get_more (get_more hpr' _) _) hp4 hok
          have HJ := Lib.hid hj
          have HTX := Lib.hid hty
          have HPS : Hid (ps ++ (m ++ m2) ++ [w2.heap.size] ++ [w2.heap.size + 1] = ps ++ (m ++ m2 ++ [w2.heap.size] ++ [w2.heap.size + 1])) := Lib.hid (by simp)
          have HP4 := Lib.hid hp4
          clear hj hty hpa hpa' hpr' hv0 hg3 hg4 hp4 hok hl2
          have HNW4 : Hid (∀ b ∈ m ++ m2 ++ [w2.heap.size] ++ [w2.heap.size + 1], w.heap.size + 2 ≤ b) := Lib.hid fun b hb => by
            have hw2 := HSV.out.size
            have h3 := HB2.out.2.lt
            simp only [List.mem_append, List.mem_singleton] at hb
            rcases hb with ((hb | hb) | rfl) | rfl
            · exact HNW.out b (by simp [hb])
            · exact HNW.out b (by simp [hb])
            · omega
            · omega
          cases ok with
          | false =>
            go_wp2_with fail
            refine HJ.out.mono ?_
            rintro e w5 ⟨rfl, G5, hj5, hg5, ht5⟩
            have HF : Hid (SortPostI ps G vis (hsOf l0 l1 l2) (.mk (κ : Int) (j : Int) l) w (.returned (.tuple #[.pointer none, .bool false])) w5) := by
              obtain ⟨_, _, e3⟩ := HEQ.out
              obtain ⟨h1, h2, h3⟩ := HL2.out
              have h4 := hj5.len
              rw [withArg_len] at h4
              have h5 := ht5.sav
              rw [HPS.out] at hg5 h5
              refine Lib.hid ⟨G5, _, none, hg5, hj5.good, ((HSV.out.alloc _).alloc _).more_ h5 (fun b hb => by have := HNW4.out b hb; omega), fun b hb => by have := HNW4.out b hb; omega, by omega, by simp only [T.count]; omega, rfl, ?_⟩
              have := NoTyL.join HM.out HTY.out HTX.out hj5 (l.drop (k + 1))
              rw [← e3] at this
              exact this.no HHS.out
            clear hj5 hg5 ht5
            go_wp2_with fail
            go_ret2
            exact HF.out
          | true =>
            go_wp2_with fail
            refine HJ.out.mono ?_
            rintro e w5 ⟨rfl, G5, hj5, hg5, ht5⟩
            have HF : Hid (SAtV B ps G vis (hsOf l0 l1 l2) l g0 #[.slice A0 u0.length c0, .slice A1 u1.length c1, .slice A2 u2.length c2] #[.int .i64 (κ : Int), .int .i64 (j : Int), .slice (some ad2) l.length c] w (pv w2.heap.size) (.int .i64 ((k + 1 : Nat) : Int)) w5) := by
              obtain ⟨_, e2, _⟩ := HEQ.out
              obtain ⟨h1, h2, h3⟩ := HL2.out
              have h4 := hj5.len
              rw [withArg_len] at h4
              have h5 := ht5.sav
              have hl2 := HG2.out.1.len
              have hnp : ∀ b, w.heap.size ≤ b → b < w.heap.size + 2 → b ∉ ps ++ (m ++ m2 ++ [w2.heap.size] ++ [w2.heap.size + 1]) := fun b h1 h2 hh => by
                rcases List.mem_append.1 hh with hh | hh
                · have := HGS.out.lt hh; omega
                · have := HNW4.out b hh; omega
              rw [HPS.out] at hg5 h5
              refine Lib.hid ⟨k + 1, G5, _, G2.length, w2.heap.size, by omega, rfl, rfl, ?_, ?_, hg5, ((HSV.out.alloc _).alloc _).more_ h5 (fun b hb => by have := HNW4.out b hb; omega), HNW4.out, ?_, ?_, by omega⟩
              · rw [← HPS.out, ← hl2]
                exact get_more (by rw [List.getElem?_concat_length]) _
              · rw [e2]
                exact TypedL.snoc HM.out HTY.out HTX.out hj5
              · exact ((HB2.out.1.alloc _).alloc _).saves h5 (hnp _ (by omega) (by omega))
              · exact ((HB2.out.2.alloc _).alloc _).saves h5 (hnp _ (by omega) (by omega))
            clear hj5 hg5 ht5
            go_wp2_with fail
            go_roundw
            case rel => simpa using HF.out
            case measure => simp [intOf]; omega
      · have htk : l.take k = l := List.take_of_length_le (by omega)
        have HF : Hid (SortPostI ps G vis (hsOf l0 l1 l2) (.mk (κ : Int) (j : Int) l) w (.returned (.tuple #[pv p, .bool true])) wr) := by
          have h1 := hr.ty
          have h2 := hr.len
          rw [htk] at h1 h2
          exact Lib.hid ⟨G1, m, some r, hr.gs, h1.good, hr.sav, fun b hb => by have := hr.new b hb; omega, h1.len, by simp only [T.count]; omega, p, hr.ptr, rfl, h1.typed HHS.out⟩
        clear htk hr hPr
        go_wp2_with fail
        go_ret2
        exact HF.out
end Go.Proofs.YtkkfdiidneoelaaGreatDoor

namespace Go.Proofs.YtkkfdiidneoelaaGreatDoor
open Go.RowKit

/-- A function without a sort. -/
structure Lz where
  name : ByteArray
  params : Int
  body : T
/-- Its value, by the slice of its body. -/
def Lz.val (f : Lz) (v : Value) : Value := .agg #[.string f.name, .int .i64 f.params, .int .i64 f.body.kind, .int .i64 f.body.num, v]
/-- Its cells. -/
def Lz.cells (f : Lz) (v : Value) : Array Value := #[.string f.name, .int .i64 f.params, .int .i64 f.body.kind, .int .i64 f.body.num, v]
/-- The cells of a row of functions, five for each; all that they reach lies below hi. -/
def LzRow (w : World) (hi : Nat) : List Lz → List Value → Prop
  | [], us => us = []
  | f :: r, us => ∃ v ut, us = .string f.name :: .int .i64 f.params :: .int .i64 f.body.kind :: .int .i64 f.body.num :: v :: ut ∧ f.body.In w (fun b => b < hi) v ∧ f.name.size ≤ maxLen ∧ LzRow w hi r ut
/-- A slice of functions. -/
def LzIn (w : World) (hi : Nat) (l : List Lz) (v : Value) : Prop :=
  ∃ A n c us, v = .slice A n c ∧ l.length = n ∧ n ≤ c ∧ c ≤ 9223372036854775807 ∧ Rd w (fun b => b < hi) A us ∧ LzRow w hi l us
theorem LzRow.keep {w w' : World} {hi : Nat} (hb : ∀ b, b < hi → w'.heap[b]? = w.heap[b]?) : ∀ (l : List Lz) {us : List Value}, LzRow w hi l us → LzRow w' hi l us
  | [], us, h => by simpa [LzRow] using h
  | f :: r, us, h => by
    simp only [LzRow] at h ⊢
    obtain ⟨v, ut, h1, h3, h4, h5⟩ := h
    exact ⟨v, ut, h1, T.In.keep hb _ h3, h4, LzRow.keep hb r h5⟩
theorem LzRow.more {w : World} {hi hi' : Nat} (hb : hi ≤ hi') : ∀ (l : List Lz) {us : List Value}, LzRow w hi l us → LzRow w hi' l us
  | [], us, h => by simpa [LzRow] using h
  | f :: r, us, h => by
    simp only [LzRow] at h ⊢
    obtain ⟨v, ut, h1, h3, h4, h5⟩ := h
    exact ⟨v, ut, h1, T.In.more (fun b h => Nat.lt_of_lt_of_le h hb) _ h3, h4, LzRow.more hb r h5⟩
theorem LzIn.below {w w' : World} {B hi : Nat} {l : List Lz} {v : Value} (h : LzIn w hi l v) (hb : Below B w w') (hB : hi ≤ B) : LzIn w' hi l v := by
  obtain ⟨A, n, c, us, h1, h2, h3, h4, h5, h6⟩ := h
  exact ⟨A, n, c, us, h1, h2, h3, h4, h5.keep (fun b hb' => hb.block b (by omega)), LzRow.keep (fun b hb' => hb.block b (by omega)) l h6⟩
theorem LzIn.more {w : World} {hi hi' : Nat} {l : List Lz} {v : Value} (h : LzIn w hi l v) (hb : hi ≤ hi') : LzIn w hi' l v := by
  obtain ⟨A, n, c, us, h1, h2, h3, h4, h5, h6⟩ := h
  exact ⟨A, n, c, us, h1, h2, h3, h4, h5.more (fun b h => Nat.lt_of_lt_of_le h hb), LzRow.more hb l h6⟩
theorem LzIn.form {w : World} {hi : Nat} {l : List Lz} {v : Value} (h : LzIn w hi l v) : ∃ A n c, v = .slice A n c := by
  obtain ⟨A, n, c, us, h1, _⟩ := h
  exact ⟨A, n, c, h1⟩
/-- The five cells of an element. -/
structure LzEl (w : World) (ad : Addr) (k : Nat) (f : Lz) (v : Value) : Prop where
  c0 : w.cell? (ad.add (k * 5)) = some (.string f.name)
  c1 : w.cell? ⟨(ad.add (k * 5)).block, (ad.add (k * 5)).off + 1, none⟩ = some (.int .i64 f.params)
  c2 : w.cell? ⟨(ad.add (k * 5)).block, (ad.add (k * 5)).off + 2, none⟩ = some (.int .i64 f.body.kind)
  c3 : w.cell? ⟨(ad.add (k * 5)).block, (ad.add (k * 5)).off + 3, none⟩ = some (.int .i64 f.body.num)
  c4 : w.cell? ⟨(ad.add (k * 5)).block, (ad.add (k * 5)).off + 4, none⟩ = some v
theorem LzEl.keep {w w' : World} {ad : Addr} {k : Nat} {f : Lz} {v : Value} (h : LzEl w ad k f v) (hb : w'.heap[ad.block]? = w.heap[ad.block]?) : LzEl w' ad k f v := by
  have hh : ∀ i, w'.cell? ⟨(ad.add (k * 5)).block, (ad.add (k * 5)).off + i, none⟩ = w.cell? ⟨(ad.add (k * 5)).block, (ad.add (k * 5)).off + i, none⟩ := fun i => World.cell?_of_block (by show w'.heap[(ad.add (k * 5)).block]? = _; rw [block_of_add]; exact hb)
  exact ⟨(World.cell?_of_block (by rw [block_of_add]; exact hb)).trans h.c0, (hh 1).trans h.c1, (hh 2).trans h.c2, (hh 3).trans h.c3, (hh 4).trans h.c4⟩
theorem LzRow.length {w : World} {hi : Nat} : ∀ {l : List Lz} {us : List Value}, LzRow w hi l us → us.length = l.length * 5
  | [], us, h => by simp only [LzRow] at h; simp [h]
  | f :: r, us, h => by
    simp only [LzRow] at h
    obtain ⟨v, ut, rfl, _, _, h5⟩ := h
    have := h5.length
    simp [this]; omega
theorem LzRow.at_ {w : World} {hi : Nat} : ∀ {l : List Lz} {us : List Value}, LzRow w hi l us → ∀ {k : Nat} {f : Lz}, l[k]? = some f →
    ∃ v, us[k * 5]? = some (.string f.name) ∧ us[k * 5 + 1]? = some (.int .i64 f.params) ∧ us[k * 5 + 2]? = some (.int .i64 f.body.kind) ∧ us[k * 5 + 3]? = some (.int .i64 f.body.num) ∧ us[k * 5 + 4]? = some v ∧
      f.body.In w (fun b => b < hi) v ∧ f.name.size ≤ maxLen
  | [], us, h, k, f, hx => by simp at hx
  | g :: r, us, h, k, f, hx => by
    simp only [LzRow] at h
    obtain ⟨v, ut, rfl, h3, h4, h5⟩ := h
    cases k with
    | zero => simp at hx; subst hx; exact ⟨v, rfl, rfl, rfl, rfl, rfl, h3, h4⟩
    | succ k =>
      simp at hx
      obtain ⟨v', g0, g1, g2, g3, g4, g5⟩ := h5.at_ hx
      rw [show (k + 1) * 5 = k * 5 + 1 + 1 + 1 + 1 + 1 from by omega]
      exact ⟨v', by simpa using g0, by simpa using g1, by simpa using g2, by simpa using g3, by simpa using g4, g5⟩
theorem lz_el {w : World} {hi : Nat} {A : Option Addr} {us : List Value} {l : List Lz} (hr : Rd w (fun b => b < hi) A us) (h : LzRow w hi l us) {k : Nat} {f : Lz} (hx : l[k]? = some f) :
    ∃ ad v, A = some ad ∧ ad.block < hi ∧ LzEl w ad k f v ∧ f.body.In w (fun b => b < hi) v ∧ f.name.size ≤ maxLen := by
  obtain ⟨v, g0, g1, g2, g3, g4, g5⟩ := h.at_ hx
  rcases hr with rfl | ⟨ad, h1, h2, h3⟩
  · simp at g0
  · exact ⟨ad, v, h1, h2, ⟨h3 _ _ g0, by rw [← add_one_more ad (k * 5) 0]; exact h3 _ _ g1, by rw [← add_one_more ad (k * 5) 1]; exact h3 _ _ g2, by rw [← add_one_more ad (k * 5) 2]; exact h3 _ _ g3, by rw [← add_one_more ad (k * 5) 3]; exact h3 _ _ g4⟩, g5⟩

theorem LzRow.snoc {w : World} {hi : Nat} {f : Lz} {v : Value} (hv : f.body.In w (fun b => b < hi) v) (hn : f.name.size ≤ maxLen) : ∀ {l : List Lz} {us : List Value}, LzRow w hi l us → LzRow w hi (l ++ [f]) (us ++ (f.cells v).toList)
  | [], us, h => by
    simp only [LzRow] at h
    subst h
    simp only [List.nil_append, LzRow]
    exact ⟨v, [], rfl, hv, hn, rfl⟩
  | g :: r, us, h => by
    simp only [LzRow] at h
    obtain ⟨v', ut, rfl, h3, h4, h5⟩ := h
    simp only [List.cons_append, LzRow]
    exact ⟨v', _, rfl, h3, h4, h5.snoc hv hn⟩

theorem lz_info : (Tryz.prog.info? 70).map (fun i => (i.zero, i.size, i.bytes)) = some (some (.agg #[.string ⟨#[]⟩, .int .i64 0, .int .i64 0, .int .i64 0, .slice none 0 0]), 5, 64) := by kernel_rfl
theorem looseName_any (f : Lz) (v : Value) (hv : ∃ A n c, v = .slice A n c) (w : World) :
    Calls Tryz.prog 111 #[f.val v] w fun e w' => e = .returned (.string f.name) ∧ Below w.heap.size w w' := by
  obtain ⟨A', n', c', rfl⟩ := hv
  unfold Lz.val
  go_enter Tryz.func111, Tryz.ntmps111
  go_wp2_with fail
  go_ret
  exact ⟨rfl, (Below.refl _ _).alloc (Nat.le_refl _) _⟩

/-- What the loop of given holds behind k rounds: an array of its own; what its elements' bodies reach lies below hi. -/
def GvnAt (hi : Nat) (l : List Lz) (w : World) (v i : Value) (wr : World) : Prop :=
  ∃ (k : Nat) (us : List Value), k ≤ l.length ∧ i = .int .i64 (k : Int) ∧ wr.ownsRow w.heap.size 70 5 v (l.take k).length us ∧ LzRow wr hi (l.take k) us ∧ Below w.heap.size w wr
/-- What given answers. -/
def GvnPost (l : List Lz) (w : World) (e : Ending) (w' : World) : Prop := ∃ v, e = .returned v ∧ LzIn w' w'.heap.size l v ∧ Below w.heap.size w w'
theorem LzIn.of_own {w : World} {B hi : Nat} {l : List Lz} {v : Value} {us : List Value} (h : w.ownsRow B 70 5 v l.length us) (hr : LzRow w hi l us) (hh : hi ≤ w.heap.size) : LzIn w w.heap.size l v := by
  rcases h.2 with ⟨rfl, h0⟩ | ⟨g, cap, cur, rfl, _, _, h1, h2, _⟩
  · have hl : l = [] := List.eq_nil_of_length_eq_zero h0
    subst hl
    simp only [LzRow] at hr
    exact ⟨none, 0, 0, us, rfl, rfl, Nat.le_refl _, by omega, .inl hr, by simp only [LzRow]; exact hr⟩
  · have hg := World.ownsRow.lt h g rfl
    exact ⟨_, _, cap, us, rfl, rfl, h1, by simpa [maxLen] using h2, .inr ⟨_, rfl, hg.2, World.ownsRow.cells h (g := g) rfl⟩, LzRow.more hh l hr⟩

set_option maxRecDepth 100000 in
set_option maxHeartbeats 1600000 in
theorem given_any (l : List Lz) (v : Value) (w : World) (hi : Nat) (hin : LzIn w hi l v) (hhi : hi ≤ w.heap.size) (hlen : l.length ≤ 100000) :
    Calls Tryz.prog 11 #[v] w (GvnPost l w) := by
  obtain ⟨i0, hi0, hz0, hz1, hz2⟩ := info_parts lz_info
  obtain ⟨A, _, c, us, rfl, rfl, hnc, hc, hrd, hrow⟩ := hin
  have HZ1 := Lib.hid hz1
  have HZ2 := Lib.hid hz2
  clear hz1 hz2
  go_enter Tryz.func11, Tryz.ntmps11
  go_wp2_with fail
  go_loopw [3, 8] (fun v i wr => GvnAt hi l w v i wr) (fun _ i _ => l.length - (intOf i).toNat)
  case atStart => exact ⟨0, [], Nat.zero_le _, rfl, by simpa using World.ownsRow_nil _ _ _ _, by simp [LzRow], Below.refl _ _⟩
  case round =>
    obtain ⟨k, us1, hk, rfl, hown, hrw, hbel⟩ := hrel
    have hzr := hbel.size
    by_cases hlt : k < l.length
    · have hx : l[k]? = some l[k] := List.getElem?_eq_getElem hlt
      obtain ⟨ad, u, rfl, hPa, hel, hbv, hnm⟩ := lz_el hrd hrow hx
      obtain ⟨r0, r1, r2, r3, r4⟩ := hel.keep (hbel.block _ (by omega))
      have htk : l.take (k + 1) = l.take k ++ [l[k]] := by rw [List.take_add_one, hx]; rfl
      have hkl : (l.take k).length = k := by simp; omega
      generalize l[k] = x at *
      obtain ⟨A', n', c', rfl⟩ := hbv.form
      have HR : Hid (LzRow wr hi (l.take k) us1 ∧ l.take (k + 1) = l.take k ++ [x] ∧ x.body.In w (fun b => b < hi) (.slice A' n' c') ∧ x.name.size ≤ maxLen) := Lib.hid ⟨hrw, htk, hbv, hnm⟩
      have HL := Lib.hid hkl
      have hvl : ∀ b, u3.ownBlock = some b → w.heap.size ≤ b ∧ b < wr.heap.size := fun b hb => World.ownsRow.lt hown b hb
      have HO := Lib.hid hown
      have hB2 := hbel.alloc hzr (.cells #[.string x.name, .int .i64 x.params, .int .i64 x.body.kind, .int .i64 x.body.num, .slice A' n' c'] 74)
      have HB2 := Lib.hid hB2
      have HB := Lib.hid hbel
      clear hx hel hbv hnm htk hkl hrw hown hB2 hbel
      go_wp2_with
        (at_builtin
         refine wpList_append_lies _ rfl _ _ _ rfl w.heap.size 70 i0 _ 5 64 Tryz.underlying34 hi0 hz0 HZ1.out HZ2.out rfl (by omega) u3 _ us1 (by rfl) ((HO.out.alloc _).alloc _)
           ⟨wr.heap.size + 1, 0, none⟩ 1 1 [.string x.name, .int .i64 x.params, .int .i64 x.body.kind, .int .i64 x.body.num, .slice A' n' c'] (by rfl) (by rfl) (World.news_of_block (cs := #[.string x.name, .int .i64 x.params, .int .i64 x.body.kind, .int .i64 x.body.num, .slice A' n' c']) (t := 70) (fr := (0, 0)) (by have := heap_alloc_new (wr.alloc (.cells #[.string x.name, .int .i64 x.params, .int .i64 x.body.kind, .int .i64 x.body.num, .slice A' n' c'] 74)) (.cells #[.string x.name, .int .i64 x.params, .int .i64 x.body.kind, .int .i64 x.body.num, .slice A' n' c'] 70); simpa using this)) (by simp [Value.oneCell']) (by omega) (by rw [HL.out]; simp only [maxLen]; omega) (by rw [HL.out]; omega) (by simp; omega) (wr.heap.size + 1 + 1) (by simp) ?_
         intro gg cap2 w3 hown3 hgrow hat3 hlt3)
      have HF : Hid (GvnAt hi l w (.slice (some ⟨gg, 0, none⟩) ((l.take k).length + 1) cap2) (.int .i64 ((k + 1 : Nat) : Int)) w3) := by
        obtain ⟨h1, h2, h3, h4⟩ := HR.out
        have hb3 : Below w.heap.size w w3 := (HB2.out.alloc (by simp; omega) _).grown hgrow (by simp; omega) (fun b hb => (hvl b hb).1)
        refine Lib.hid (⟨k + 1, us1 ++ (x.cells (.slice A' n' c')).toList, by omega, rfl, ?_, ?_, hb3⟩ : GvnAt _ _ _ _ _ _)
        · rw [h2, List.length_append]
          exact hown3
        · rw [h2]
          have e := LzRow.snoc (f := x) (v := .slice A' n' c') (hi := hi) (w := w3) (h3.below hb3 (fun b hb => by omega)) h4 (LzRow.keep (w' := w3) (fun b hb => (hb3.block b (by omega)).trans (HB.out.block b (by omega)).symm) _ h1)
          exact e
      clear hown3 hgrow hat3 hlt3
      go_roundw
      case rel => simpa [HL.out] using HF.out
      case measure => simp [intOf]; omega
    · have hll : l.take k = l := List.take_of_length_le (by omega)
      rw [hll] at hown hrw
      have HF : Hid (GvnPost l w (.returned u3) wr) := Lib.hid ⟨u3, rfl, LzIn.of_own hown hrw (by omega), hbel⟩
      clear hll hown hrw hbel
      go_wp2_with fail
      go_ret
      exact HF.out
end Go.Proofs.YtkkfdiidneoelaaGreatDoor

namespace Go.Proofs.YtkkfdiidneoelaaGreatDoor
open Go.RowKit

/-- A function's name. -/
def lznm (f : Lz) : List UInt8 := f.name.data.toList

set_option maxRecDepth 100000 in
set_option maxHeartbeats 1600000 in
theorem diffLz_any (l : List Lz) (v : Value) (w : World) (hi : Nat) (hin : LzIn w hi l v) (hhi : hi ≤ w.heap.size) :
    Calls Tryz.prog 110 #[v, .func (.func 111) #[] #[]] w fun e w' => e = .returned (.bool (diffFrom [] (l.map lznm))) ∧ Below w.heap.size w w' := by
  obtain ⟨A, _, c, us, rfl, rfl, hnc, hc, hrd, hrow⟩ := hin
  have hmm := @run_makeMap Tryz.prog
  go_enter Tryz.func110, Tryz.ntmps110
  go_wp2_with fail
  go_loopw [12] (fun i wr => ∃ k : Nat, k ≤ l.length ∧ i = .int .i64 k ∧ Hid (diffFrom [] ((l.map lznm).take k) = true) ∧ Seen wr w.heap.size k ((l.map lznm).take k) ∧ Below w.heap.size w wr) (fun i _ => l.length - (intOf i).toNat)
  case atStart => exact ⟨0, Nat.zero_le _, rfl, Lib.hid (by simp [diffFrom]), by simpa using Seen.made w, (Below.refl _ _).alloc (Nat.le_refl _) _⟩
  case round =>
    obtain ⟨k, hk, rfl, hf, hsn, hbel⟩ := hrel
    clear hmm
    have hzr := hsn.lt
    by_cases hlt : k < l.length
    · have hx : l[k]? = some l[k] := List.getElem?_eq_getElem hlt
      obtain ⟨ad, v, rfl, hPa, hel, hbv, hsx⟩ := lz_el hrd hrow hx
      obtain ⟨r0, r1, r2, r3, r4⟩ := hel.keep (hbel.block _ (by omega))
      obtain ⟨A2, n2, c2, rfl⟩ := hbv.form
      generalize l[k] = x at *
      obtain ⟨name, params, body⟩ := x
      simp only at r0 r1 r2 r3 r4 hsx
      have hxm : (l.map lznm)[k]? = some name.data.toList := by rw [List.getElem?_map, hx]; rfl
      have hok := @diff_succ (l.map lznm) k name.data.toList hxm hf.out
      have hno := @diff_false (l.map lznm) k name.data.toList hxm
      have hseen : (l.map lznm).take (k + 1) = (l.map lznm).take k ++ [name.data.toList] := by rw [List.take_add_one, hxm]; rfl
      generalize (l.map lznm).take k = seen at *
      have hbx : Below wr.heap.size wr (wr.alloc (.cells #[.string name, .int .i64 params, .int .i64 body.kind, .int .i64 body.num, .slice A2 n2 c2] 70)) := (Below.refl _ _).alloc (Nat.le_refl _) _
      have hbb := Blk.new wr 70 #[.string name, .int .i64 params, .int .i64 body.kind, .int .i64 body.num, .slice A2 n2 c2]
      have d0 := hbb.cell 0
      have d1 := hbb.cell 1
      have d2 := hbb.cell 2
      have d3 := hbb.cell 3
      have d4 := hbb.cell 4
      clear hel hbv
      have HNM := Lib.hid (fun W => looseName_any ⟨name, params, body⟩ (.slice A2 n2 c2) ⟨_, _, _, rfl⟩ W)
      have HIS := Lib.hid (fun W => isName_any name W hsx)
      have HL : Hid (∀ W, Below (wr.heap.size + 1) (wr.alloc (.cells #[.string name, .int .i64 params, .int .i64 body.kind, .int .i64 body.num, .slice A2 n2 c2] 70)) W → Seen W w.heap.size k seen) :=
        Lib.hid (fun W hW => hsn.kept (w' := W) ⟨(hbx.trans (hW.mono (by omega))).os, (hbx.trans (hW.mono (by omega))).tape, (hbx.trans (hW.mono (by omega))).output, (hbx.trans (hW.mono (by omega))).size, fun q hq _ => (hbx.trans (hW.mono (by omega))).block q hq⟩ (row := none) (by simp))
      cases hnm : nameB name.data.toList with
      | false =>
        have HR : Hid (diffFrom [] (l.map lznm) = false) := Lib.hid (hno (.inl hnm))
        rw [hnm] at HIS
        clear hx hxm hok hno hseen hnm
        go_wp2_with fail
        refine (HNM.out _).mono ?_
        rintro e w1 ⟨rfl, b1⟩
        simp only [World.size_alloc] at b1
        go_wp2_with fail
        refine (HIS.out _).mono ?_
        rintro e w2 ⟨rfl, b2⟩
        have z1 := b1.size
        simp only [World.size_alloc] at z1
        go_wp2_with fail
        go_ret
        exact ⟨ret_bool HR.out.symm, ((hbel.trans (hbx.mono (by omega))).trans (b1.mono (by omega))).trans (b2.mono (by omega))⟩
      | true =>
        rw [hnm] at HIS
        cases hct : seen.contains name.data.toList with
        | true =>
          have HR : Hid (diffFrom [] (l.map lznm) = false) := Lib.hid (hno (.inr hct))
          have HCT := Lib.hid hct
          clear hx hxm hok hno hseen hnm hct
          go_wp2_with fail
          refine (HNM.out _).mono ?_
          rintro e w1 ⟨rfl, b1⟩
          simp only [World.size_alloc] at b1
          go_wp2_with fail
          refine (HIS.out _).mono ?_
          rintro e w2 ⟨rfl, b2⟩
          have z1 := b1.size
          simp only [World.size_alloc] at z1
          have hlook := (HL.out w2 (b1.trans (b2.mono (by omega)))).look name hsx
          rw [HCT.out] at hlook
          go_wp2_with fail
          go_ret
          exact ⟨ret_bool HR.out.symm, ((hbel.trans (hbx.mono (by omega))).trans (b1.mono (by omega))).trans (b2.mono (by omega))⟩
        | false =>
          have HR : Hid (diffFrom [] ((l.map lznm).take (k + 1)) = true) := Lib.hid (hok hnm hct)
          have HM := Lib.hid hseen
          have HCT := Lib.hid hct
          clear hx hxm hok hno hseen hnm hct
          go_wp2_with fail
          refine (HNM.out _).mono ?_
          rintro e w1 ⟨rfl, b1⟩
          simp only [World.size_alloc] at b1
          go_wp2_with fail
          refine (HIS.out _).mono ?_
          rintro e w2 ⟨rfl, b2⟩
          have z1 := b1.size
          have z2 := b2.size
          simp only [World.size_alloc] at z1
          have hs2 := HL.out w2 (b1.trans (b2.mono (by omega)))
          have hlook := hs2.look name hsx
          rw [HCT.out] at hlook
          obtain ⟨w3, hput, hsn2, hg2⟩ := hs2.put (by simp only [maxLen]; omega) name hsx
          go_wp2_with fail
          go_roundw
          case rel =>
            refine ⟨k + 1, by omega, by go_num, HR, ?_, ?_⟩
            · rw [HM.out]; exact hsn2
            · exact (((hbel.trans (hbx.mono (by omega))).trans (b1.mono (by omega))).trans (b2.mono (by omega))).grown hg2 (by omega) (fun b hb => by injection hb with hb; omega)
          case measure => simp [intOf]; omega
    · have hll : (l.map lznm).take k = l.map lznm := List.take_of_length_le (by simp; omega)
      rw [hll] at hf
      clear hll
      go_wp2_with fail
      go_ret
      exact ⟨ret_bool hf.out.symm, hbel⟩
end Go.Proofs.YtkkfdiidneoelaaGreatDoor

namespace Go.Proofs.YtkkfdiidneoelaaGreatDoor
open Go.RowKit

section
variable {σ : Type} (step : σ → T → Nat → Bool × σ)
theorem partsI_any (k n : Int) (v : Value) (A : Option Addr) (m c : Nat) (hv : v = .slice A m c) (w : World) :
    Calls Tryz.prog 151 #[.agg #[.int .i64 k, .int .i64 n, v]] w fun e w' => e = .returned v ∧ Below w.heap.size w w' := by
  subst hv
  go_enter Tryz.func151, Tryz.ntmps151
  go_wp2_with fail
  go_ret
  exact ⟨rfl, (Below.refl _ _).alloc (Nat.le_refl _) _⟩

variable {step}
set_option maxHeartbeats 400000 in
theorem visitI_any {I : σ → World → Prop} {M : Nat → Prop} {ok : σ → T → Nat → Prop} {F : Nat} {cap : Array Value} {P : Nat → Prop}
    (hI : ∀ st w w', I st w → Below w.heap.size w w' → I st w')
    (hM : ∀ w k st, I st w → M k → k < w.heap.size)
    (hF : ∀ args w, (callFunc F args).run Tryz.prog w = .ok (.enter F args) w)
    (hMh : ∀ k, P k → ¬ M k)
    (hok : ∀ st k n l lvl, ok st (.mk k n l) lvl → lvl ≤ 1000000 ∧ ((step st (.mk k n l) lvl).1 = true → ∀ j x, l[j]? = some x → (visitTL step (step st (.mk k n l) lvl).2 (lvl + 1) (l.take j)).1 = true →
      ok (visitTL step (step st (.mk k n l) lvl).2 (lvl + 1) (l.take j)).2 x (lvl + 1)))
    (hstep : ∀ st x v lvl w, ok st x lvl → I st w → x.In w P v → Old P w → Calls Tryz.prog F (#[.agg #[.int .i64 x.kind, .int .i64 x.num, v], .int .i64 (lvl : Int)] ++ cap) w fun e w' =>
      e = .returned (.bool (step st x lvl).1) ∧ I (step st x lvl).2 w' ∧ Saves M w w')
    (K : Nat) : ∀ (s : T) (v : Value) (lvl : Nat) (w : World) (st : σ), s.count ≤ K → ok st s lvl → I st w → s.In w P v → Old P w →
    Calls Tryz.prog 174 #[.agg #[.int .i64 s.kind, .int .i64 s.num, v], .int .i64 (lvl : Int), .func (.func 151) #[] #[], .func (.func F) #[] cap] w fun e w' =>
      e = .returned (.bool (visitT step st lvl s).1) ∧ I (visitT step st lvl s).2 w' ∧ Saves M w w' := by
  induction K with
  | zero => intro s; have := s.count_pos; omega
  | succ K ih =>
    intro s v lvl w st hK hoks hIs hin hold
    obtain ⟨kd, nm, l⟩ := s
    have hin0 := hin
    simp only [T.In] at hin
    obtain ⟨A, _, c, us, rfl, rfl, hnc, hc, hrd, hrow⟩ := hin
    have hw1 : Below w.heap.size w (w.alloc (.cells #[.int .i64 kd, .int .i64 nm, .slice A l.length c] 53)) := (Below.refl _ _).alloc (Nat.le_refl _) _
    have hbk := Blk.new w 53 #[.int .i64 kd, .int .i64 nm, .slice A l.length c]
    have hS := hstep st (.mk kd nm l) _ lvl _ hoks (hI _ _ _ hIs hw1) (hin0.old hold hw1) (hold.bel hw1)
    obtain ⟨hlv, hdown⟩ := hok st kd nm l lvl hoks
    have hnM : ¬ M w.heap.size := fun h => by have := hM w _ st hIs h; omega
    simp only [T.kind, T.num] at hS ⊢
    cases hb : (step st (.mk kd nm l) lvl).1 with
    | false =>
      have hv : visitT step st lvl (.mk kd nm l) = (false, (step st (.mk kd nm l) lvl).2) := by simp [visitT, hb]
      rw [hv]
      rw [hb] at hS
      have HS := Lib.hid hS
      clear hS hok hstep hM hI hMh ih hdown hb hv
      go_enter Tryz.func174, Tryz.ntmps174
      go_wp2_with fail
      refine HS.out.mono ?_
      rintro e w1 ⟨rfl, hI1, hs1⟩
      go_wp2_with fail
      go_ret
      exact ⟨rfl, hI1, (Saves.of_below hw1).trans hs1⟩
    | true =>
      have hv : visitT step st lvl (.mk kd nm l) = visitTL step (step st (.mk kd nm l) lvl).2 (lvl + 1) l := by simp [visitT, hb]
      rw [hv]
      rw [hb] at hS
      replace hdown := hdown hb
      generalize (step st (.mk kd nm l) lvl).2 = st1 at *
      have hsucc := visitTL_succ step (lvl + 1) l st1
      have hfalse := visitTL_false step (lvl + 1) l st1
      have HS := Lib.hid hS
      have HD := Lib.hid hdown
      have Hih := Lib.hid ih
      have HI := Lib.hid hI
      have Hsucc := Lib.hid hsucc
      have Hfalse := Lib.hid hfalse
      have HMh := Lib.hid hMh
      clear hS hok hstep hM hI hMh ih hdown hb hv hsucc hfalse
      go_enter Tryz.func174, Tryz.ntmps174
      go_wp2_with fail
      refine HS.out.mono ?_
      rintro e w1 ⟨rfl, hI1, hs1⟩
      have hbk1 := hbk.saves hs1 hnM
      have hc0 := hbk1.cell 0
      have hc1 := hbk1.cell 1
      have hc2 := hbk1.cell 2
      have hz1 := hs1.size
      simp only [World.size_alloc] at hz1
      go_wp2_with fail
      refine (partsI_any kd nm _ A l.length c rfl _).mono ?_
      rintro e w1b ⟨rfl, hb1b⟩
      replace hs1 := hs1.trans (Saves.of_below hb1b)
      replace hI1 := HI.out _ _ _ hI1 hb1b
      have hz1b := hb1b.size
      clear hc0 hc1 hc2
      go_wp2_with fail
      go_loopw [20] (fun i wr => ∃ k : Nat, k ≤ l.length ∧ i = .int .i64 k ∧ Hid ((visitTL step st1 (lvl + 1) (l.take k)).1 = true) ∧ I (visitTL step st1 (lvl + 1) (l.take k)).2 wr ∧ Saves M w wr) (fun i _ => l.length - (intOf i).toNat)
      case atStart => exact ⟨0, Nat.zero_le _, rfl, Lib.hid (by simp [visitTL]), by simpa [visitTL] using hI1, (Saves.of_below hw1).trans hs1⟩
      case round =>
        obtain ⟨k, hk, rfl, hf, hIk, hsk⟩ := hrel
        have hzk := hsk.size
        by_cases hlt : k < l.length
        · have hx : l[k]? = some l[k] := List.getElem?_eq_getElem hlt
          have hcl := T.count_lt (a := kd) (b := nm) hx
          obtain ⟨ad, u, rfl, hP, hel, hinx⟩ := T.In.el hrd hrow hx
          obtain ⟨r0, r1, r2⟩ := hel.keep (hsk.block _ (hold _ hP) (HMh.out _ hP))
          obtain ⟨A', n', c', rfl⟩ := hinx.form
          have hw2 : Below wr.heap.size wr (wr.alloc (.cells #[.int .i64 l[k].kind, .int .i64 l[k].num, .slice A' n' c'] 53)) := (Below.refl _ _).alloc (Nat.le_refl _) _
          have hinr := (hinx.saves hsk (fun b hb => ⟨hold b hb, HMh.out b hb⟩)).old (hold.le hzk) hw2
          have hokx := HD.out k _ hx hf.out
          have hs := Hsucc.out k _ hx hf.out
          have hct := Hih.out l[k] _ (lvl + 1) _ _ (by omega) hokx (HI.out _ _ _ hIk hw2) hinr ((hold.le hzk).bel hw2)
          rw [← hs] at hct
          generalize l[k] = x at *
          cases hb2 : (visitTL step st1 (lvl + 1) (l.take (k + 1))).1 with
          | true =>
            rw [hb2] at hct
            have HC := Lib.hid hct
            have HB2 := Lib.hid hb2
            clear hx hel hs hokx hct hb2
            go_wp2_with fail
            refine HC.out.mono ?_
            rintro e w2 ⟨rfl, hI2, hs2⟩
            go_wp2_with fail
            go_roundw
            case rel => exact ⟨k + 1, by omega, by go_num, HB2, hI2, hsk.trans ((Saves.of_below hw2).trans hs2)⟩
            case measure => simp [intOf]; omega
          | false =>
            have hfin := Hfalse.out (k + 1) hb2
            rw [hb2] at hct
            have HC := Lib.hid hct
            have HF := Lib.hid hfin
            have HB2 := Lib.hid hb2
            clear hx hel hs hokx hct hb2 hfin
            go_wp2_with fail
            refine HC.out.mono ?_
            rintro e w2 ⟨rfl, hI2, hs2⟩
            go_wp2_with fail
            go_ret
            rw [HF.out, HB2.out]
            exact ⟨rfl, hI2, hsk.trans ((Saves.of_below hw2).trans hs2)⟩
        · have hll : l.take k = l := List.take_of_length_le (by omega)
          rw [hll] at hIk hf
          clear hll
          go_wp2_with fail
          go_ret
          rw [hf.out]
          exact ⟨rfl, hIk, hsk⟩
end
set_option maxHeartbeats 400000 in
/-- nest.All at terms, whatever state its property keeps. -/
theorem allI_any {σ : Type} {step : σ → T → Nat → Bool × σ} {I : σ → World → Prop} {M : Nat → Prop} {ok : σ → T → Nat → Prop} {F : Nat} {cap : Array Value} {P : Nat → Prop}
    (hI : ∀ st w w', I st w → Below w.heap.size w w' → I st w')
    (hM : ∀ w k st, I st w → M k → k < w.heap.size)
    (hF : ∀ args w, (callFunc F args).run Tryz.prog w = .ok (.enter F args) w)
    (hMh : ∀ k, P k → ¬ M k)
    (hok : ∀ st k n l lvl, ok st (.mk k n l) lvl → lvl ≤ 1000000 ∧ ((step st (.mk k n l) lvl).1 = true → ∀ j x, l[j]? = some x → (visitTL step (step st (.mk k n l) lvl).2 (lvl + 1) (l.take j)).1 = true →
      ok (visitTL step (step st (.mk k n l) lvl).2 (lvl + 1) (l.take j)).2 x (lvl + 1)))
    (hstep : ∀ st x v lvl w, ok st x lvl → I st w → x.In w P v → Old P w → Calls Tryz.prog F (#[.agg #[.int .i64 x.kind, .int .i64 x.num, v]] ++ cap) w fun e w' =>
      e = .returned (.bool (step st x lvl).1) ∧ I (step st x lvl).2 w' ∧ Saves M w w')
    (t : T) (v : Value) (w : World) (st : σ) (hok0 : ok st t 1) (hI0 : I st w) (hin : t.In w P v) (hold : Old P w) :
    Calls Tryz.prog 150 #[.agg #[.int .i64 t.kind, .int .i64 t.num, v], .func (.func 151) #[] #[], .func (.func F) #[] cap] w fun e w' =>
      e = .returned (.bool (visitT step st 1 t).1) ∧ I (visitT step st 1 t).2 w' ∧ Saves M w w' := by
  obtain ⟨A, n, c, rfl⟩ := hin.form
  have hw2 : Below w.heap.size w ((w.alloc (.cells #[.int .i64 t.kind, .int .i64 t.num, .slice A n c] 53)).alloc (.cells #[.func (.func F) #[] cap] 130)) := ((Below.refl _ _).alloc (Nat.le_refl _) _).alloc (by simp) _
  have hbk : Blk ((w.alloc (.cells #[.int .i64 t.kind, .int .i64 t.num, .slice A n c] 53)).alloc (.cells #[.func (.func F) #[] cap] 130)) (w.heap.size + 1) 130 #[.func (.func F) #[] cap] := by
    simpa using Blk.new (w.alloc (.cells #[.int .i64 t.kind, .int .i64 t.num, .slice A n c] 53)) 130 #[.func (.func F) #[] cap]
  have hnM : ¬ M (w.heap.size + 1) := fun h => by have := hM w _ st hI0 h; omega
  have hct := visitI_any (step := step) (I := fun st w' => I st w' ∧ Blk w' (w.heap.size + 1) 130 #[.func (.func F) #[] cap]) (M := M) (ok := ok) (F := 186) (cap := #[.pointer (some ⟨w.heap.size + 1, 0, none⟩)]) (P := P)
    (fun st w w' h hb => ⟨hI _ _ _ h.1 hb, h.2.below hb h.2.lt⟩) (fun w k st h hm => hM w k st h.1 hm) Tryz.call186 hMh hok
    (fun st x v lvl w hokx hIx hinx holdx => by
      obtain ⟨A', n', c', rfl⟩ := hinx.form
      have hb1 : Below w.heap.size w (w.alloc (.cells #[.int .i64 x.kind, .int .i64 x.num, .slice A' n' c'] 53)) := (Below.refl _ _).alloc (Nat.le_refl _) _
      exact all1T_any hF _ _ _ _ _ lvl w hIx.2 ((hstep st x _ lvl _ hokx (hI _ _ _ hIx.1 hb1) (hinx.old holdx hb1) (holdx.bel hb1)).mono fun e w' ⟨he, hi, hs⟩ =>
        ⟨he, ⟨hi, (hIx.2.below hb1 hIx.2.lt).saves hs hnM⟩, (Saves.of_below hb1).trans hs⟩))
    _ t _ 1 _ st (Nat.le_refl _) hok0 ⟨hI _ _ _ hI0 hw2, hbk⟩ (hin.old hold hw2) (hold.bel hw2)
  have HC := Lib.hid hct
  clear hct hbk hI hM hF hMh hok hstep
  go_enter Tryz.func150, Tryz.ntmps150
  go_wp2_with fail
  refine HC.out.mono ?_
  rintro e w1 ⟨rfl, ⟨hi1, _⟩, hb1⟩
  go_wp2_with fail
  go_ret
  exact ⟨rfl, hi1, (Saves.of_below hw2).trans hb1⟩
end Go.Proofs.YtkkfdiidneoelaaGreatDoor

namespace Go.Proofs.YtkkfdiidneoelaaGreatDoor
open Go.RowKit Go.ChangeShapes Go.WideShapes Go.ChangeMaps
open Go.Maps (Keyed IsMap)

/-- Block b is a map that has the number f k at k, 0 where there is none. -/
def MapI (w : World) (b n : Nat) (f : Int → Int) : Prop :=
  ∃ D : DataW Unit, w.ownsMap Tryz.prog 3 (plainElem Tryz.prog 3) b n D ∧ IsMap D ∧ ∀ k : Int, D.atKey (.int .i64 k) (.lit (.int .i64 0)) = .lit (.int .i64 (f k))
theorem MapI.made (w : World) : MapI (w.alloc (.map #[] 0)) w.heap.size 0 (fun _ => 0) :=
  ⟨.map [], World.ownsMap_made _ _ _ _, by simp [IsMap], fun k => by simp [WideAt.atKey_none]⟩
theorem MapI.lt {w : World} {b n : Nat} {f : Int → Int} (h : MapI w b n f) : b < w.heap.size := by
  obtain ⟨D, h1, _, _⟩ := h
  exact h1.lt
theorem MapI.same {w w' : World} {b n : Nat} {f : Int → Int} (h : MapI w b n f) (hb : w'.heap[b]? = w.heap[b]?) : MapI w' b n f := by
  obtain ⟨D, ⟨es, ck, hh, hr⟩, h2, h3⟩ := h
  exact ⟨D, ⟨es, ck, hb.trans hh, hr⟩, h2, h3⟩
theorem MapI.below {w w' : World} {b n : Nat} {f : Int → Int} (h : MapI w b n f) (hb : Below w.heap.size w w') : MapI w' b n f := h.same (hb.block b h.lt)
def fit64 (x : Int) : Prop := -9223372036854775808 ≤ x ∧ x ≤ 9223372036854775807
set_option maxRecDepth 100000 in
theorem lit_wf {x : Int} (h : fit64 x) : (Lit.int .i64 x).wf = true := by
  simp only [Lit.wf, Bool.and_eq_true, decide_eq_true_eq]
  exact ⟨h.1, h.2⟩
theorem MapI.look {w : World} {b n : Nat} {f : Int → Int} (h : MapI w b n f) {k : Int} (hk : fit64 k) :
    (Instr.lookup 180 (.map (some b)) (.int .i64 k) false).run Tryz.prog w = .ok (.int .i64 (f k)) w := by
  obtain ⟨D, h1, _, h3⟩ := h
  obtain ⟨c, hrun, hat, _⟩ := h1.lookup_int (Maps.int_keyed Tryz.underlying3) Tryz.underlying180 Tryz.underlying3 (Tryz.zeroValue3 w) (Maps.keyOf_int_mk Tryz.underlying3 (lit_wf hk))
  rw [h3 k] at hat
  simp only [DataW.lit.injEq, Lit.int.injEq, true_and] at hat
  rw [hrun, hat]
def putI (f : Int → Int) (k x : Int) : Int → Int := fun i => if i = k then x else f i
theorem MapI.put {w : World} {b n : Nat} {f : Int → Int} (h : MapI w b n f) (hn : n < 1000000) {k x : Int} (hk : fit64 k) (hx : fit64 x) :
    ∃ w', (Instr.mapUpdate 180 (.map (some b)) (.int .i64 k) (.int .i64 x)).run Tryz.prog w = .ok () w' ∧ MapI w' b (n + 1) (putI f k x) ∧ w.grownBy w' (some b) := by
  obtain ⟨D, h1, h2, h3⟩ := h
  obtain ⟨w', hrun, hown, hg⟩ := h1.update (Maps.int_keyed Tryz.underlying3) Tryz.underlying180 (by simp only [maxLen]; omega) (Maps.keyOf_int_mk Tryz.underlying3 (lit_wf hk)) (plainElem_int Tryz.underlying3 (lit_wf hx))
  refine ⟨w', hrun, ⟨_, hown, h2.put _ _, fun i => ?_⟩, hg⟩
  by_cases hi : i = k
  · subst hi
    rw [Maps.atKey_put_same h2 (by simp [WideAt.IsKeyLit])]
    simp [putI]
  · have hne : (Lit.int .i64 i) ≠ Lit.int .i64 k := fun e => by injection e with _ e; exact hi e
    rw [Maps.atKey_put_other hne]
    simpa [putI, hi] using h3 i

/-- How many heads there are of a kind. -/
def headsF (a b c : Nat) (k : Int) : Int := if k = 0 then a else if k = 1 then b else if k = 2 then c else 0
theorem headIn_F (a b c : Nat) (k n : Int) : headIn a b c k n = (decide (0 ≤ n) && decide (n < headsF a b c k)) := by
  unfold headIn headsF
  repeat' split
  all_goals rfl
def stepIn (f : Int → Int) (_ : Unit) (x : T) (_ : Nat) : Bool × Unit := (decide (0 ≤ x.num) && decide (x.num < f x.kind), ())
mutual
theorem visitT_in (a b c : Nat) : ∀ (t : T) (st : Unit) (lvl : Nat), (visitT (stepIn (headsF a b c)) st lvl t).1 = t.exist a b c
  | .mk k n l, st, lvl => by
    have h := visitTL_in a b c l () (lvl + 1)
    simp only [T.exist, headIn_F]
    by_cases hc : (decide (0 ≤ n) && decide (n < headsF a b c k)) = true
    · have hv : visitT (stepIn (headsF a b c)) st lvl (.mk k n l) = visitTL (stepIn (headsF a b c)) () (lvl + 1) l := by
        simp only [visitT]
        rw [if_pos (show (stepIn (headsF a b c) st (.mk k n l) lvl).1 = true from hc)]
      rw [hv, h, hc, Bool.true_and]
    · have hv : visitT (stepIn (headsF a b c)) st lvl (.mk k n l) = (false, ()) := by
        simp only [visitT]
        rw [if_neg (show ¬ (stepIn (headsF a b c) st (.mk k n l) lvl).1 = true from hc)]
      rw [hv, Bool.eq_false_iff.2 hc, Bool.false_and]
theorem visitTL_in (a b c : Nat) : ∀ (l : List T) (st : Unit) (lvl : Nat), (visitTL (stepIn (headsF a b c)) st lvl l).1 = T.existL a b c l
  | [], st, lvl => by simp [visitTL, T.existL]
  | x :: r, st, lvl => by
    have h := visitT_in a b c x st lvl
    have hr := visitTL_in a b c r (visitT (stepIn (headsF a b c)) st lvl x).2 lvl
    simp only [visitTL, T.existL]
    by_cases hc : (visitT (stepIn (headsF a b c)) st lvl x).1 = true
    · rw [if_pos hc, hr, ← h, hc, Bool.true_and]
    · have hc' := Bool.eq_false_iff.2 hc
      rw [if_neg hc, ← h, hc', Bool.false_and]
end

/-- The map in its box. -/
structure MBox (bm b n : Nat) (f : Int → Int) (w : World) : Prop where
  box : Blk w b 180 #[.map (some bm)]
  map : MapI w bm n f
theorem MBox.next {bm b n : Nat} {f : Int → Int} {w w' : World} (h : MBox bm b n f w) (hb : Below w.heap.size w w') : MBox bm b n f w' := ⟨h.box.below hb h.box.lt, h.map.below hb⟩

set_option maxHeartbeats 800000 in
theorem body1_any (f : Int → Int) (bm b n : Nat) (x : T) (v : Value) (w : World) (P : Nat → Prop) (hfit : fit64 x.kind ∧ fit64 x.num) (h : MBox bm b n f w) (hin : x.In w P v) (z : Int) (hz : f x.kind = z) :
    Calls Tryz.prog 152 #[.agg #[.int .i64 x.kind, .int .i64 x.num, v], .pointer (some ⟨b, 0, none⟩)] w fun e w' => e = .returned (.bool (decide (0 ≤ x.num) && decide (x.num < z))) ∧ Below w.heap.size w w' := by
  obtain ⟨A, m, c, rfl⟩ := hin.form
  obtain ⟨kd, nm, l⟩ := x
  simp only [T.kind, T.num] at hfit hz ⊢
  have hw1 : Below w.heap.size w (w.alloc (.cells #[.int .i64 kd, .int .i64 nm, .slice A m c] 53)) := (Below.refl _ _).alloc (Nat.le_refl _) _
  have h1 := h.next hw1
  have c0 := h1.box.cell 0
  have hlook := h1.map.look (k := kd) hfit.1
  rw [hz] at hlook
  clear hz
  have hbl := h.box.lt
  simp at c0
  by_cases h0 : 0 ≤ nm
  · by_cases hz : nm < z
    · have E1 : Hid ((decide (0 ≤ nm) && decide (nm < z)) = true) := Lib.hid (by simp [h0, hz])
      go_enter Tryz.func152, Tryz.ntmps152
      go_wp2_with fail
      go_ret
      exact ⟨ret_bool E1.out.symm, hw1⟩
    · go_enter Tryz.func152, Tryz.ntmps152
      go_wp2_with fail
      go_ret
      exact ⟨ret_bool (decide_eq_false (by omega)).symm, hw1⟩
  · have e1 : (decide (0 ≤ nm) && decide (nm < z)) = false := by simp [h0]
    have E1 := Lib.hid e1
    have g0 : decide (0 ≤ nm) = false := decide_eq_false h0
    clear e1 h0
    go_enter Tryz.func152, Tryz.ntmps152
    go_wp2_with fail
    go_ret
    exact ⟨ret_bool E1.out.symm, hw1⟩

/-- A body of one of a parameters, b functions, c symbols. -/
def bodyIn (a b c : Nat) (t : T) : Bool := decide (t.count ≤ 400) && (decide (t.deep ≤ 30) && t.exist a b c)
mutual
theorem T.fit_heads {P : T → Prop} (h : ∀ k n l, (T.mk k n l).fit → P (.mk k n l)) : ∀ {t : T}, t.fit → P t
  | .mk k n l, hf => h k n l hf
end
theorem T.fit_kind {t : T} (h : t.fit) : fit64 t.kind ∧ fit64 t.num := by
  obtain ⟨k, n, l⟩ := t
  simp only [T.fit] at h
  exact ⟨h.1, h.2.1⟩
theorem T.fit_args {k n : Int} {l : List T} (h : (T.mk k n l).fit) : T.fitL l := by
  simp only [T.fit] at h
  exact h.2.2

set_option maxRecDepth 100000 in
set_option maxHeartbeats 800000 in
theorem isBodyI_any (a b c : Nat) (bm n : Nat) (t : T) (v : Value) (w : World) (P : Nat → Prop) (hfit : t.fit) (hm : MapI w bm n (headsF a b c)) (hin : t.In w P v) (hold : Old P w) :
    Calls Tryz.prog 112 #[.agg #[.int .i64 t.kind, .int .i64 t.num, v], .map (some bm)] w fun e w' => e = .returned (.bool (bodyIn a b c t)) ∧ Below w.heap.size w w' := by
  obtain ⟨A, m, cc, rfl⟩ := hin.form
  have hw2 : Below w.heap.size w ((w.alloc (.cells #[.int .i64 t.kind, .int .i64 t.num, .slice A m cc] 53)).alloc (.cells #[.map (some bm)] 180)) := ((Below.refl _ _).alloc (Nat.le_refl _) _).alloc (by simp) _
  have hbT : Blk ((w.alloc (.cells #[.int .i64 t.kind, .int .i64 t.num, .slice A m cc] 53)).alloc (.cells #[.map (some bm)] 180)) w.heap.size 53 #[.int .i64 t.kind, .int .i64 t.num, .slice A m cc] := (Blk.new _ _ _).alloc _
  have hM2 : MBox bm (w.heap.size + 1) n (headsF a b c) ((w.alloc (.cells #[.int .i64 t.kind, .int .i64 t.num, .slice A m cc] 53)).alloc (.cells #[.map (some bm)] 180)) :=
    ⟨by simpa using Blk.new (w.alloc (.cells #[.int .i64 t.kind, .int .i64 t.num, .slice A m cc] 53)) 180 #[.map (some bm)], hm.below hw2⟩
  have hct := sizeT_any t (.slice A m cc) _ P (hin.old hold hw2) (hold.bel hw2)
  have hall : ∀ W, MBox bm (w.heap.size + 1) n (headsF a b c) W → t.In W P (.slice A m cc) → Old P W → t.count ≤ 400 → Calls Tryz.prog 150 #[.agg #[.int .i64 t.kind, .int .i64 t.num, .slice A m cc], .func (.func 151) #[] #[], .func (.func 152) #[] #[.pointer (some ⟨w.heap.size + 1, 0, none⟩)]] W fun e w' =>
      e = .returned (.bool (t.exist a b c)) ∧ Below W.heap.size W w' := by
    intro W hMW hinW holdW hc4
    refine (allI_any (σ := Unit) (step := stepIn (headsF a b c)) (I := fun _ W => MBox bm (w.heap.size + 1) n (headsF a b c) W) (M := fun _ => False) (ok := fun _ x lvl => x.fit ∧ lvl + x.deep ≤ 100000) (P := P)
      (fun _ _ _ h hb => h.next hb) (fun _ _ _ _ h => h.elim) Tryz.call152 (fun _ _ h => h) ?_ ?_ t _ W () ⟨hfit, by have := T.deep_le t; omega⟩ hMW hinW holdW).mono ?_
    · rintro st k n l lvl ⟨h1, h2⟩
      simp only [T.deep] at h2
      refine ⟨by omega, fun _ j x hx _ => ⟨T.fitL_at (T.fit_args h1) hx, ?_⟩⟩
      have h3 := T.deepL_take_succ l j x hx
      have h4 := T.deepL_take_le l (j + 1)
      omega
    · rintro st x v lvl W' ⟨h1, _⟩ hI hinx _
      exact (body1_any _ bm _ n x v W' P (T.fit_kind h1) hI hinx _ rfl).mono fun e w' ⟨he, hb⟩ => ⟨he, hI.next hb, Saves.of_below hb⟩
    · rintro e w' ⟨rfl, _, hs⟩
      exact ⟨by rw [visitT_in], hs.below (Nat.le_refl _) (fun _ _ h => h)⟩
  have HAL := Lib.hid hall
  have hbb := hM2.box.lt
  by_cases h4 : t.count ≤ 400
  · have hs : t.sizes = (t.count, t.deep) := by simp [T.sizes]; omega
    rw [hs] at hct
    by_cases h3 : t.deep ≤ 30
    · have HE : Hid (bodyIn a b c t = t.exist a b c) := Lib.hid (by simp [bodyIn, h4, h3])
      have HC := Lib.hid hct
      have HIN := Lib.hid (hin.old hold hw2)
      have HOL := Lib.hid (hold.bel hw2)
      have H4 := Lib.hid h4
      have g4 : (t.count : Int) ≤ 400 := by omega
      have g3 : (t.deep : Int) ≤ 30 := by omega
      have d0 := hbT.cell 0
      have d1 := hbT.cell 1
      have d2 := hbT.cell 2
      simp at d0 d1 d2
      generalize t.exist a b c = z at *
      clear hct hall h4 h3 hs
      go_enter Tryz.func112, Tryz.ntmps112
      go_wp2_with fail
      refine HC.out.mono ?_
      rintro e w1 ⟨rfl, hb1⟩
      have hbT1 := hbT.below hb1 hbT.lt
      have e0 := hbT1.cell 0
      have e1 := hbT1.cell 1
      have e2 := hbT1.cell 2
      simp at e0 e1 e2
      clear d0 d1 d2
      have HC2 := Lib.hid (HAL.out w1 (hM2.next hb1) (HIN.out.old HOL.out hb1) (HOL.out.bel hb1) H4.out)
      have hz1 := hb1.size
      simp only [World.size_alloc] at hb1 hz1
      go_wp2_with fail
      refine HC2.out.mono ?_
      rintro e w2 ⟨rfl, hb2⟩
      go_wp2_with fail
      go_ret
      exact ⟨ret_bool HE.out.symm, (hw2.trans (hb1.mono (by omega))).trans (hb2.mono (by omega))⟩
    · have HE : Hid (bodyIn a b c t = false) := Lib.hid (by simp [bodyIn, h3])
      have HC := Lib.hid hct
      have g4 : (t.count : Int) ≤ 400 := by omega
      have g3 : ¬ (t.deep : Int) ≤ 30 := by omega
      have d0 := hbT.cell 0
      have d1 := hbT.cell 1
      have d2 := hbT.cell 2
      simp at d0 d1 d2
      clear hct hall h4 h3 hs
      go_enter Tryz.func112, Tryz.ntmps112
      go_wp2_with fail
      refine HC.out.mono ?_
      rintro e w1 ⟨rfl, hb1⟩
      simp only [World.size_alloc] at hb1
      go_wp2_with fail
      go_ret
      exact ⟨ret_bool HE.out.symm, hw2.trans (hb1.mono (by omega))⟩
  · have HE : Hid (bodyIn a b c t = false) := Lib.hid (by simp [bodyIn, h4])
    have hbig : ∃ m : Nat, t.sizes.1 = m ∧ 400 < m := by
      refine ⟨_, rfl, ?_⟩
      unfold T.sizes
      split <;> simp <;> omega
    obtain ⟨m', hm', hmm⟩ := hbig
    rw [hm'] at hct
    have HC := Lib.hid hct
    have g4 : ¬ (m' : Int) ≤ 400 := by omega
    have d0 := hbT.cell 0
    have d1 := hbT.cell 1
    have d2 := hbT.cell 2
    simp at d0 d1 d2
    generalize (t.sizes.2 : Int) = z2 at *
    clear hct hall h4 hm'
    go_enter Tryz.func112, Tryz.ntmps112
    go_wp2_with fail
    refine HC.out.mono ?_
    rintro e w1 ⟨rfl, hb1⟩
    simp only [World.size_alloc] at hb1
    go_wp2_with fail
    go_ret
    exact ⟨ret_bool HE.out.symm, hw2.trans (hb1.mono (by omega))⟩
end Go.Proofs.YtkkfdiidneoelaaGreatDoor

namespace Go.Proofs.YtkkfdiidneoelaaGreatDoor
open Go.RowKit

/-- A loose function over so many functions and symbols. -/
def Lz.fits (b c : Nat) (f : Lz) : Bool := decide (0 ≤ f.params) && (decide (f.params ≤ 8) && bodyIn f.params.toNat b c f.body)
def lzStart : List Lz → Bool
  | [] => false
  | f :: _ => decide (f.params = 0)
/-- They are loose functions over symbols. -/
def lzOk (syms : List Sy) (l : List Lz) : Bool := decide (l.length ≤ 64) && (diffFrom [] (l.map lznm) && (lzStart l && l.all (Lz.fits l.length syms.length)))
def checkI (syms : List Sy) (l : List Lz) : Int := if symsB syms = true then (if lzOk syms l = true then 0 else 4) else 2
theorem all_succ {α : Type} {p : α → Bool} {l : List α} {k : Nat} {x : α} (hx : l[k]? = some x) (h : (l.take k).all p = true) (h1 : p x = true) : (l.take (k + 1)).all p = true := by
  rw [List.take_add_one, hx, List.all_append, h]; simp [h1]
theorem all_no {α : Type} {p : α → Bool} {l : List α} {k : Nat} {x : α} (hx : l[k]? = some x) (h : p x = false) : l.all p = false := by
  rw [Bool.eq_false_iff]
  intro hh
  rw [List.all_eq_true] at hh
  have := hh x (List.mem_of_getElem? hx)
  rw [h] at this; cases this
/-- The map of heads, as it stands ahead of a function. -/
def HMap (w : World) (bm k : Nat) (b c : Nat) : Prop := ∃ f, MapI w bm (2 + k) f ∧ ∀ i, i ≠ 0 → f i = headsF 0 b c i
theorem HMap.put {w : World} {bm k b c : Nat} (h : HMap w bm k b c) (hk : k < 1000) {x : Int} (hx : fit64 x) :
    ∃ w', (Instr.mapUpdate 180 (.map (some bm)) (.int .i64 0) (.int .i64 x)).run Tryz.prog w = .ok () w' ∧ HMap w' bm (k + 1) b c ∧ (∀ a : Nat, x = (a : Int) → MapI w' bm (2 + k + 1) (headsF a b c)) ∧ w.grownBy w' (some bm) := by
  obtain ⟨f, h1, h2⟩ := h
  obtain ⟨w', hrun, h3, hg⟩ := h1.put (by omega) (k := 0) ⟨by decide, by decide⟩ hx
  refine ⟨w', hrun, ⟨_, h3, fun i hi => by simp [putI, hi, h2 i hi]⟩, fun a ha => ?_, hg⟩
  have e : putI f 0 x = headsF a b c := by
    funext i
    by_cases hi : i = 0
    · subst hi; simp [putI, headsF, ha]
    · simp [putI, hi, h2 i hi, headsF]
  rw [← e]; exact h3
theorem HMap.made (w : World) (b c : Nat) (hb : b ≤ 1000000) (hc : c ≤ 1000000) : ∃ w1 w2, (Instr.mapUpdate 180 (.map (some w.heap.size)) (.int .i64 1) (.int .i64 (b : Int))).run Tryz.prog (w.alloc (.map #[] 0)) = .ok () w1 ∧
    (Instr.mapUpdate 180 (.map (some w.heap.size)) (.int .i64 2) (.int .i64 (c : Int))).run Tryz.prog w1 = .ok () w2 ∧ HMap w2 w.heap.size 0 b c ∧ Below w.heap.size w w2 := by
  obtain ⟨w1, r1, m1, g1⟩ := (MapI.made w).put (by omega) (k := 1) (x := (b : Int)) ⟨by decide, by decide⟩ ⟨by omega, by omega⟩
  obtain ⟨w2, r2, m2, g2⟩ := m1.put (by omega) (k := 2) (x := (c : Int)) ⟨by decide, by decide⟩ ⟨by omega, by omega⟩
  have b1 : Below w.heap.size w w1 := ((Below.refl _ _).alloc (Nat.le_refl _) _).grown g1 (by simp) (fun b hb => by injection hb with hb; omega)
  refine ⟨w1, w2, r1, r2, ⟨_, m2, fun i hi => ?_⟩, b1.grown g2 b1.size (fun b hb => by injection hb with hb; omega)⟩
  by_cases h2 : i = 2
  · subst h2; simp [putI, headsF]
  · by_cases h1 : i = 1
    · subst h1; simp [putI, headsF]
    · simp [putI, headsF, h1, h2, hi]
/-- So many functions are seen. -/
def CkAt (l : List Lz) (b c : Nat) (bm : Nat) (w : World) (i : Value) (wr : World) : Prop :=
  ∃ k : Nat, k ≤ l.length ∧ i = .int .i64 (k : Int) ∧ (l.take k).all (Lz.fits b c) = true ∧ HMap wr bm k b c ∧ Below w.heap.size w wr

set_option maxRecDepth 100000 in
set_option maxHeartbeats 3200000 in
theorem checkI_any (syms : List Sy) (l : List Lz) (v0 v1 : Value) (w : World) (hi : Nat) (hsy : SyIn w (fun b => b < hi) syms v0) (hl : LzIn w hi l v1) (hhi : hi ≤ w.heap.size) (hfit : ∀ f ∈ l, f.body.fit ∧ fit64 f.params) :
    Calls Tryz.prog 64 #[v0, v1] w fun e w' => e = .returned (.int .i64 (checkI syms l)) ∧ Below w.heap.size w w' := by
  have hpl : PlIn w 0 hi ⟨syms, [], []⟩ v0 (.slice none 0 0) (.slice none 0 0) := ⟨hsy, S.In_nil, S.In_nil⟩
  have HC := Lib.hid (placeCheck_any ⟨syms, [], []⟩ v0 (.slice none 0 0) (.slice none 0 0) w 0 hi hpl hhi)
  have hok : Pl.ok ⟨syms, [], []⟩ = symsB syms := by simp [Pl.ok, sortsB]
  rw [hok] at HC
  have HD := Lib.hid (fun W h => diffLz_any l v1 W hi h)
  obtain ⟨A0, n0, c0, hv0⟩ := hsy.form
  have hn0 : syms.length = n0 ∧ n0 ≤ c0 ∧ c0 ≤ 9223372036854775807 := by
    obtain ⟨A', n', c', e, h1, h2, h3, _⟩ := hsy
    rw [hv0] at e
    injection e with e1 e2 e3
    omega
  subst hv0
  obtain ⟨A, _, c, us, rfl, rfl, hnc, hc, hrd, hrow⟩ := hl
  have HL := Lib.hid (⟨A, l.length, c, us, rfl, rfl, hnc, hc, hrd, hrow⟩ : LzIn w hi l (.slice A l.length c))
  cases hs : symsB syms with
  | false =>
    have HE : Hid (checkI syms l = 2) := Lib.hid (by simp [checkI, hs])
    rw [hs] at HC
    clear hs hok hpl
    go_enter Tryz.func64, Tryz.ntmps64
    go_wp2_with fail
    refine HC.out.mono ?_
    rintro e w1 ⟨rfl, hb1⟩
    unfold argErr
    go_wp2_with fail
    go_ret
    exact ⟨ret_int HE.out.symm, hb1⟩
  | true =>
    rw [hs] at HC
    have h24 : syms.length ≤ 24 := by
      simp only [symsB, Bool.and_eq_true, decide_eq_true_eq] at hs
      exact hs.1
    have HCK : Hid (∀ z, lzOk syms l = z → checkI syms l = if z = true then 0 else 4) := Lib.hid (by rintro z rfl; simp [checkI, hs])
    unfold argErr at HC
    clear hs hok hpl
    by_cases h0 : l.length = 0
    · have HE : Hid (checkI syms l = 4) := Lib.hid (HCK.out false (by have : l = [] := List.eq_nil_of_length_eq_zero h0; subst this; simp [lzOk, lzStart, diffFrom]))
      have g0 : ((l.length : Int) == 0) = true := by simp [h0]
      clear h0
      go_enter Tryz.func64, Tryz.ntmps64
      go_wp2_with fail
      refine HC.out.mono ?_
      rintro e w1 ⟨rfl, hb1⟩
      go_wp2_with fail
      go_ret
      exact ⟨ret_int HE.out.symm, hb1⟩
    have g0 : ((l.length : Int) == 0) = false := by simpa using h0
    by_cases h64 : l.length ≤ 64
    case neg =>
      have HE : Hid (checkI syms l = 4) := Lib.hid (HCK.out false (by simp [lzOk, h64]))
      have g1 : decide (64 < (l.length : Int)) = true := decide_eq_true (by omega)
      clear h0 h64
      go_enter Tryz.func64, Tryz.ntmps64
      go_wp2_with fail
      refine HC.out.mono ?_
      rintro e w1 ⟨rfl, hb1⟩
      go_wp2_with fail
      go_ret
      exact ⟨ret_int HE.out.symm, hb1⟩
    have g1 : decide (64 < (l.length : Int)) = false := decide_eq_false (by omega)
    have H64 := Lib.hid h64
    cases hd : diffFrom [] (l.map lznm) with
    | false =>
      have HE : Hid (checkI syms l = 4) := Lib.hid (HCK.out false (by simp [lzOk, hd]))
      have HD2 := Lib.hid hd
      clear h0 h64 hd
      go_enter Tryz.func64, Tryz.ntmps64
      go_wp2_with fail
      refine HC.out.mono ?_
      rintro e w1 ⟨rfl, hb1⟩
      go_wp2_with fail
      refine (HD.out w1 (LzIn.below HL.out hb1 hhi) (by have := hb1.size; omega)).mono ?_
      rw [HD2.out]
      rintro e w2 ⟨rfl, hb2⟩
      go_wp2_with fail
      go_ret
      exact ⟨ret_int HE.out.symm, hb1.trans (hb2.mono hb1.size)⟩
    | true =>
      have HD2 := Lib.hid hd
      obtain ⟨f0, hf0⟩ : ∃ f0, l[0]? = some f0 := ⟨l[0]'(by omega), List.getElem?_eq_getElem _⟩
      obtain ⟨ad, u, rfl, hPa, hel0, _, _⟩ := lz_el hrd hrow hf0
      have hst : lzStart l = decide (f0.params = 0) := by
        cases l with
        | nil => simp at hf0
        | cons a r => simp at hf0; subst hf0; rfl
      by_cases hp0 : f0.params = 0
      case neg =>
        have HE : Hid (checkI syms l = 4) := Lib.hid (HCK.out false (by simp [lzOk, hst, hp0]))
        have HEL := Lib.hid hel0
        have hlp : (0 : Int) < (l.length : Int) := by omega
        clear h0 h64 hd hf0 hst
        go_enter Tryz.func64, Tryz.ntmps64
        go_wp2_with fail
        refine HC.out.mono ?_
        rintro e w1 ⟨rfl, hb1⟩
        go_wp2_with fail
        refine (HD.out w1 (LzIn.below HL.out hb1 hhi) (by have := hb1.size; omega)).mono ?_
        rw [HD2.out]
        rintro e w2 ⟨rfl, hb2⟩
        have hb := hb1.trans (hb2.mono hb1.size)
        have r1 := (HEL.out.keep (hb.block _ (by omega))).c1
        simp [Addr.add] at r1
        go_wp2_with fail
        go_ret
        exact ⟨ret_int HE.out.symm, hb⟩
      have HOK : Hid (lzOk syms l = l.all (Lz.fits l.length syms.length)) := Lib.hid (by simp [lzOk, h64, hd, hst, hp0])
      have HEL := Lib.hid hel0
      have hlp : (0 : Int) < (l.length : Int) := by omega
      have HFT := Lib.hid hfit
      have hHM := fun W => HMap.made W l.length syms.length (by omega) (by omega)
      rw [hn0.1] at hHM
      have HHM := Lib.hid hHM
      have HN0 := Lib.hid hn0.1
      have hmm := @run_makeMap Tryz.prog
      clear h0 h64 hd hf0 hst hHM hfit
      go_enter Tryz.func64, Tryz.ntmps64
      go_wp2_with fail
      refine HC.out.mono ?_
      rintro e w1 ⟨rfl, hb1⟩
      go_wp2_with fail
      refine (HD.out w1 (LzIn.below HL.out hb1 hhi) (by have := hb1.size; omega)).mono ?_
      rw [HD2.out]
      rintro e w2 ⟨rfl, hb2⟩
      have hb := hb1.trans (hb2.mono hb1.size)
      have r1 := (HEL.out.keep (hb.block _ (by omega))).c1
      simp [Addr.add] at r1
      obtain ⟨wa, wb, ra, rb, hm, hbm⟩ := HHM.out w2
      have HB := Lib.hid (hb.trans (hbm.mono hb.size))
      have HM := Lib.hid hm
      have hz2 : w.heap.size ≤ w2.heap.size := hb.size
      clear hb hm hb1 hb2 hbm
      go_wp2_with fail
      clear ra rb r1 hmm
      go_loopw [40] (fun i wr => CkAt l l.length n0 w2.heap.size w i wr) (fun i _ => l.length - (intOf i).toNat)
      case atStart => exact ⟨0, Nat.zero_le _, rfl, by simp, HM.out, HB.out⟩
      case round =>
        obtain ⟨k, hk, rfl, hall, hm, hbel⟩ := hrel
        have hzr := hbel.size
        by_cases hlt : k < l.length
        · have hx : l[k]? = some l[k] := List.getElem?_eq_getElem hlt
          obtain ⟨ad', v, he, hPa', hel, hbv, hnm⟩ := lz_el hrd hrow hx
          obtain rfl : ad = ad' := by injection he
          obtain ⟨r0, r1, r2, r3, r4⟩ := hel.keep (hbel.block _ (by omega))
          have hft := HFT.out _ (List.mem_of_getElem? hx)
          have hsucc := @all_succ _ (Lz.fits l.length n0) l k _ hx hall
          have hno := @all_no _ (Lz.fits l.length n0) l k _ hx
          generalize l[k] = x at *
          obtain ⟨name, params, body⟩ := x
          simp only at r0 r1 r2 r3 r4 hft hbv
          obtain ⟨A', n', c', rfl⟩ := hbv.form
          have hbx : Below wr.heap.size wr (wr.alloc (.cells #[.string name, .int .i64 params, .int .i64 body.kind, .int .i64 body.num, .slice A' n' c'] 70)) := (Below.refl _ _).alloc (Nat.le_refl _) _
          have hbk := Blk.new wr 70 #[.string name, .int .i64 params, .int .i64 body.kind, .int .i64 body.num, .slice A' n' c']
          have hmx : HMap (wr.alloc (.cells #[.string name, .int .i64 params, .int .i64 body.kind, .int .i64 body.num, .slice A' n' c'] 70)) w2.heap.size k l.length n0 := by
            obtain ⟨f, h1, h2⟩ := hm
            exact ⟨f, h1.below hbx, h2⟩
          have hml : w2.heap.size < wr.heap.size := by
            obtain ⟨f, h1, h2⟩ := hm
            exact h1.lt
          obtain ⟨w3, hput, hm3, hm3', hg3⟩ := hmx.put (by have := H64.out; omega) hft.2
          have hbk3 : Blk w3 wr.heap.size 70 #[.string name, .int .i64 params, .int .i64 body.kind, .int .i64 body.num, .slice A' n' c'] := (hg3.block _ (by simp) (fun e => by injection e with e; omega)).trans hbk
          have hb3 : Below w.heap.size w w3 := (hbel.trans (hbx.mono hzr)).grown hg3 (by simp; omega) (fun b hb => by injection hb with hb; omega)
          have hin3 : body.In w3 (fun b => b < hi) (.slice A' n' c') := T.In.below hbv hb3 (fun b hb => by omega)
          have d0 := hbk3.cell 0
          have d1 := hbk3.cell 1
          have d2 := hbk3.cell 2
          have d3 := hbk3.cell 3
          have d4 := hbk3.cell 4
          simp at d0 d1 d2 d3 d4
          have HM3 := Lib.hid hm3
          have HM4 := Lib.hid hm3'
          have HB3 := Lib.hid hb3
          have HIN := Lib.hid hin3
          have HNO := Lib.hid hno
          have HSU := Lib.hid hsucc
          have HFX := Lib.hid hft
          have hz3 := hb3.size
          clear hx hel hbv hbk hbk3 hmx hm hm3 hm3' hb3 hin3 hno hsucc hft hg3 hall hbx
          by_cases hp0 : 0 ≤ params
          · by_cases hp8 : params ≤ 8
            · obtain ⟨a, rfl⟩ : ∃ a : Nat, params = (a : Int) := ⟨params.toNat, by omega⟩
              have HIB := Lib.hid (isBodyI_any a l.length n0 w2.heap.size (2 + k + 1) body (.slice A' n' c') w3 (fun b => b < hi) HFX.out.1 (HM4.out a rfl) HIN.out (fun b hb => by omega))
              have hfx : Lz.fits l.length n0 ⟨name, (a : Int), body⟩ = bodyIn a l.length n0 body := by simp [Lz.fits, hp0, hp8]
              have g8 : decide (8 < (a : Int)) = false := decide_eq_false (by omega)
              have g9 : decide ((a : Int) < 0) = false := decide_eq_false (by omega)
              cases hbo : bodyIn a l.length n0 body with
              | false =>
                have HE : Hid (checkI syms l = 4) := Lib.hid (by
                  have := HNO.out (hfx.trans hbo)
                  have h2 := HCK.out _ HOK.out
                  rw [HN0.out, this] at h2
                  exact h2)
                rw [hbo] at HIB
                clear hfx hbo hp0 hp8
                go_wp2_with fail
                refine HIB.out.mono ?_
                rintro e w4 ⟨rfl, hb4⟩
                go_wp2_with fail
                go_ret
                exact ⟨ret_int HE.out.symm, HB3.out.trans (hb4.mono hz3)⟩
              | true =>
                have HA : Hid ((l.take (k + 1)).all (Lz.fits l.length n0) = true) := Lib.hid (HSU.out (hfx.trans hbo))
                rw [hbo] at HIB
                clear hfx hbo hp0 hp8
                go_wp2_with fail
                refine HIB.out.mono ?_
                rintro e w4 ⟨rfl, hb4⟩
                have HF : Hid (CkAt l l.length n0 w2.heap.size w (.int .i64 ((k + 1 : Nat) : Int)) w4) := by
                  refine Lib.hid ⟨k + 1, by omega, rfl, HA.out, ?_, HB3.out.trans (hb4.mono hz3)⟩
                  obtain ⟨f, h1, h2⟩ := HM3.out
                  exact ⟨f, h1.below hb4, h2⟩
                clear hb4
                go_wp2_with fail
                go_roundw
                case rel => simpa using HF.out
                case measure => simp [intOf]; omega
            · have HE : Hid (checkI syms l = 4) := Lib.hid (by
                have := HNO.out (by simp [Lz.fits, hp8])
                have h2 := HCK.out _ HOK.out
                rw [HN0.out, this] at h2
                exact h2)
              have g8 : decide (8 < params) = true := decide_eq_true (by omega)
              have g9 : decide (params < 0) = false := decide_eq_false (by omega)
              clear hp0 hp8
              go_wp2_with fail
              go_ret
              exact ⟨ret_int HE.out.symm, HB3.out⟩
          · have HE : Hid (checkI syms l = 4) := Lib.hid (by
              have := HNO.out (by simp [Lz.fits, hp0])
              have h2 := HCK.out _ HOK.out
              rw [HN0.out, this] at h2
              exact h2)
            have g9 : decide (params < 0) = true := decide_eq_true (by omega)
            clear hp0
            go_wp2_with fail
            go_ret
            exact ⟨ret_int HE.out.symm, HB3.out⟩
        · have HE : Hid (checkI syms l = 0) := Lib.hid (by
            have hll : l.take k = l := List.take_of_length_le (by omega)
            rw [hll] at hall
            have h2 := HCK.out _ HOK.out
            rw [HN0.out, hall] at h2
            exact h2)
          clear hall hm
          go_wp2_with fail
          go_ret
          exact ⟨ret_int HE.out.symm, hbel⟩
end Go.Proofs.YtkkfdiidneoelaaGreatDoor
