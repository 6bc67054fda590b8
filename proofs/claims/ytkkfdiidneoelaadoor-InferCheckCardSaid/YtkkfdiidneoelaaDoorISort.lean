/-
  The guess of a term's sort: (infer.heads).sort, a contract.
-/
import Derived.Test.YtkkfdiidneoelaaDoorIFun
namespace Go.Proofs.YtkkfdiidneoelaaDoor
open Go.RowKit

/-- A head that exists, of one of a variables, b functions, c symbols. -/
def headIn (a b c : Nat) (k n : Int) : Bool := decide (0 ≤ n) && decide (n < ((if k = 0 then a else if k = 1 then b else if k = 2 then c else 0 : Nat) : Int))
mutual
def T.exist (a b c : Nat) : T → Bool
  | .mk k n l => headIn a b c k n && T.existL a b c l
def T.existL (a b c : Nat) : List T → Bool
  | [] => true
  | s :: r => s.exist a b c && T.existL a b c r
end
theorem T.existL_at {a b c : Nat} : ∀ {l : List T}, T.existL a b c l = true → ∀ {k : Nat} {x : T}, l[k]? = some x → x.exist a b c = true
  | [], _, k, x, h => by simp at h
  | s :: r, hl, k, x, h => by
    simp only [T.existL, Bool.and_eq_true] at hl
    cases k with
    | zero => simp at h; subst h; exact hl.1
    | succ k => simp at h; exact T.existL_at hl.2 h

/-- A slice of guesses that are read: in blocks of which P holds. -/
def PRd (w : World) (P : Nat → Prop) (us : List Nat) (v : Value) : Prop :=
  ∃ A c, v = .slice A us.length c ∧ ∀ i p : Nat, us[i]? = some p → ∃ ad, A = some ad ∧ P ad.block ∧ w.cell? (ad.add i) = some (pv p)
theorem PRd.keep {w w' : World} {P Q : Nat → Prop} {us : List Nat} {v : Value} (h : PRd w P us v) (hb : ∀ b, P b → w'.heap[b]? = w.heap[b]? ∧ Q b) : PRd w' Q us v := by
  obtain ⟨A, c, rfl, h2⟩ := h
  refine ⟨A, c, rfl, fun i p hi => ?_⟩
  obtain ⟨ad, e, h3, h4⟩ := h2 i p hi
  exact ⟨ad, e, (hb _ h3).2, (World.cell?_of_block (by rw [block_of_add]; exact (hb _ h3).1)).trans h4⟩
theorem Ps.prd {B : Nat} {w : World} {us : List Nat} {v : Value} (h : Ps B w us v) : PRd w (fun b => B ≤ b ∧ b < w.heap.size) us v := by
  obtain ⟨A, c, rfl⟩ := h.form
  refine ⟨A, c, rfl, fun i p hi => ?_⟩
  obtain ⟨ad, e, h1, h2, h3⟩ := h.cell hi
  exact ⟨ad, e, ⟨h1, h2⟩, h3⟩

/-- The slices of heads, and the nodes that they hold; terms lie below B, guesses from B on. -/
structure HCtx (B : Nat) (ps : List Nat) (l0 l1 l2 u0 u1 u2 : List Nat) (p0 p1 p2 : Value) (w : World) : Prop where
  r0 : PRd w (fun b => b < w.heap.size ∧ b ∉ ps) u0 p0
  r1 : PRd w (fun b => b < w.heap.size ∧ b ∉ ps) u1 p1
  r2 : PRd w (fun b => b < w.heap.size ∧ b ∉ ps) u2 p2
  n0 : Nodes ps l0 u0
  n1 : Nodes ps l1 u1
  n2 : Nodes ps l2 u2
  base : ∀ b ∈ ps, B ≤ b
  le : B ≤ w.heap.size
theorem HCtx.next {B : Nat} {ps m : List Nat} {l0 l1 l2 u0 u1 u2 : List Nat} {p0 p1 p2 : Value} {w w' : World} (h : HCtx B ps l0 l1 l2 u0 u1 u2 p0 p1 p2 w) (hs : Saves (· ∈ ps) w w') (hm : ∀ b ∈ m, w.heap.size ≤ b) :
    HCtx B (ps ++ m) l0 l1 l2 u0 u1 u2 p0 p1 p2 w' := by
  have q : ∀ b, b < w.heap.size ∧ b ∉ ps → w'.heap[b]? = w.heap[b]? ∧ b < w'.heap.size ∧ b ∉ ps ++ m := fun b hb =>
    ⟨hs.block b hb.1 hb.2, Nat.lt_of_lt_of_le hb.1 hs.size, fun hh => by
      rcases List.mem_append.1 hh with hh | hh
      · exact hb.2 hh
      · have := hm b hh; omega⟩
  refine ⟨h.r0.keep q, h.r1.keep q, h.r2.keep q, h.n0.more m, h.n1.more m, h.n2.more m, fun b hb => ?_, Nat.le_trans h.le hs.size⟩
  rcases List.mem_append.1 hb with hb | hb
  · exact h.base b hb
  · have := hm b hb; have := h.le; omega
/-- The nodes of heads. -/
abbrev hsOf (l0 l1 l2 : List Nat) : Int → Int → Option Nat := pickA l0 l1 l2
/-- What sort answers. -/
def SortPostI (ps : List Nat) (G : Gr) (vis : Nat → Int) (hs : Int → Int → Option Nat) (t : T) (w : World) (e : Ending) (w' : World) : Prop :=
  ∃ (G' : Gr) (m : List Nat) (res : Option Nat), Gs w' (ps ++ m) G' vis ∧ Good G' ∧ Saves (· ∈ ps) w w' ∧ (∀ b ∈ m, w.heap.size ≤ b) ∧ G.length ≤ G'.length ∧ G'.length + 2 ≤ G.length + 2 * t.count ∧
    match res with
    | some r => ∃ p, (ps ++ m)[r]? = some p ∧ e = .returned (.tuple #[pv p, .bool true]) ∧ Typed G G' hs t r
    | none => e = .returned (.tuple #[.pointer none, .bool false]) ∧ NoTy G hs t

theorem Saves.more_ {ps m : List Nat} {w w1 w2 : World} (h : Saves (· ∈ ps) w w1) (k : Saves (· ∈ ps ++ m) w1 w2) (hm : ∀ b ∈ m, w.heap.size ≤ b) : Saves (· ∈ ps) w w2 :=
  ⟨k.os.trans h.os, k.tape.trans h.tape, k.output.trans h.output, Nat.le_trans h.size k.size, fun b hb hn => (k.block b (Nat.lt_of_lt_of_le hb h.size) (fun hh => by
    rcases List.mem_append.1 hh with hh | hh
    · exact hn hh
    · have := hm b hh; omega)).trans (h.block b hb hn)⟩
/-- So many arguments are done. -/
structure SAt (B : Nat) (ps : List Nat) (G : Gr) (vis : Nat → Int) (hs : Int → Int → Option Nat) (l : List T) (g0 : Nat) (bh bt : Array Value) (w : World) (k : Nat) (G1 : Gr) (m : List Nat) (r p : Nat) (wr : World) : Prop where
  ptr : (ps ++ m)[r]? = some p
  ty : TypedL G G1 hs (l.take k) g0 r
  gs : Gs wr (ps ++ m) G1 vis
  sav : Saves (· ∈ ps) w wr
  new : ∀ b ∈ m, w.heap.size + 2 ≤ b
  bh : Blk wr w.heap.size 109 bh
  bt : Blk wr (w.heap.size + 1) 44 bt
  len : G1.length ≤ G.length + 2 * T.countL (l.take k)
def SAtV (B : Nat) (ps : List Nat) (G : Gr) (vis : Nat → Int) (hs : Int → Int → Option Nat) (l : List T) (g0 : Nat) (bh bt : Array Value) (w : World) (g i : Value) (wr : World) : Prop :=
  ∃ (k : Nat) (G1 : Gr) (m : List Nat) (r p : Nat), k ≤ l.length ∧ i = .int .i64 (k : Int) ∧ g = pv p ∧ SAt B ps G vis hs l g0 bh bt w k G1 m r p wr

set_option maxRecDepth 100000 in
set_option maxHeartbeats 3200000 in
theorem sortI_any (vis : Nat → Int) (B n0 : Nat) (hvis : ∀ x, n0 ≤ x → vis x = 0) (l0 l1 l2 u0 u1 u2 : List Nat) (p0 p1 p2 : Value) (K : Nat) : ∀ (t : T) (v : Value) (w : World) (ps : List Nat) (G : Gr), t.count ≤ K → Good G → n0 ≤ G.length → Gs w ps G vis →
    HCtx B ps l0 l1 l2 u0 u1 u2 p0 p1 p2 w → t.In w (· < B) v → t.exist l0.length l1.length l2.length = true →
    Calls Tryd.prog 60 #[.agg #[p0, p1, p2], .agg #[.int .i64 t.kind, .int .i64 t.num, v]] w (SortPostI ps G vis (hsOf l0 l1 l2) t w) := by
  induction K with
  | zero => intro t; have := t.count_pos; omega
  | succ K ih =>
    intro t v w ps G hK hG hnG hgs hctx hin hex
    obtain ⟨kd, nm, l⟩ := t
    have hin0 := hin
    simp only [T.In] at hin
    obtain ⟨A, _, c, us, rfl, rfl, hnc, hc, hrd, hrow⟩ := hin
    simp only [T.exist, Bool.and_eq_true] at hex
    obtain ⟨hhd, hexl⟩ := hex
    simp only [T.kind, T.num]
    obtain ⟨A0, c0, rfl, a0⟩ := hctx.r0
    obtain ⟨A1, c1, rfl, a1⟩ := hctx.r1
    obtain ⟨A2, c2, rfl, a2⟩ := hctx.r2
    have HIH := Lib.hid ih
    clear ih
    -- the head
    have hhead : ∃ (κ j : Nat) (Ak : Option Addr) (nk ck g0 q0 : Nat) (ad : Addr), κ < 3 ∧ kd = (κ : Int) ∧ nm = (j : Int) ∧ j < nk ∧ (#[Value.slice A0 u0.length c0, .slice A1 u1.length c1, .slice A2 u2.length c2] : Array Value)[κ]? = some (.slice Ak nk ck) ∧
        Ak = some ad ∧ ad.block < w.heap.size ∧ ad.block ∉ ps ∧ w.cell? (ad.add j) = some (pv q0) ∧ hsOf l0 l1 l2 kd nm = some g0 ∧ ps[g0]? = some q0 := by
      simp only [headIn, Bool.and_eq_true, decide_eq_true_eq] at hhd
      obtain ⟨h1, h2⟩ := hhd
      obtain ⟨j, rfl⟩ : ∃ j : Nat, nm = (j : Int) := ⟨nm.toNat, by omega⟩
      by_cases k0 : kd = 0
      · subst k0
        rw [if_pos rfl] at h2
        have hj : l0[j]? = some (l0[j]'(by omega)) := List.getElem?_eq_getElem _
        obtain ⟨q, e1, e2⟩ := hctx.n0.2 j _ hj
        obtain ⟨ad, e3, e4, e5⟩ := a0 j q e1
        exact ⟨0, j, A0, u0.length, c0, _, q, ad, by omega, rfl, rfl, (List.getElem?_eq_some_iff.1 e1).1, rfl, e3, e4.1, e4.2, e5, by simp [hsOf, pickA, hj], e2⟩
      · by_cases k1 : kd = 1
        · subst k1
          rw [if_neg (by decide), if_pos rfl] at h2
          have hj : l1[j]? = some (l1[j]'(by omega)) := List.getElem?_eq_getElem _
          obtain ⟨q, e1, e2⟩ := hctx.n1.2 j _ hj
          obtain ⟨ad, e3, e4, e5⟩ := a1 j q e1
          exact ⟨1, j, A1, u1.length, c1, _, q, ad, by omega, rfl, rfl, (List.getElem?_eq_some_iff.1 e1).1, rfl, e3, e4.1, e4.2, e5, by simp [hsOf, pickA, hj], e2⟩
        · by_cases k2 : kd = 2
          · subst k2
            rw [if_neg (by decide), if_neg (by decide), if_pos rfl] at h2
            have hj : l2[j]? = some (l2[j]'(by omega)) := List.getElem?_eq_getElem _
            obtain ⟨q, e1, e2⟩ := hctx.n2.2 j _ hj
            obtain ⟨ad, e3, e4, e5⟩ := a2 j q e1
            exact ⟨2, j, A2, u2.length, c2, _, q, ad, by omega, rfl, rfl, (List.getElem?_eq_some_iff.1 e1).1, rfl, e3, e4.1, e4.2, e5, by simp [hsOf, pickA, hj], e2⟩
          · rw [if_neg k0, if_neg k1, if_neg k2] at h2
            omega
    obtain ⟨κ, j, Ak, nk, ck, g0, q0, ad, hκ, rfl, rfl, hj, hbx, rfl, had, hadp, hcell, hhs, hg0⟩ := hhead
    have hw2 : Below w.heap.size w ((w.alloc (.cells #[.slice A0 u0.length c0, .slice A1 u1.length c1, .slice A2 u2.length c2] 109)).alloc (.cells #[.int .i64 (κ : Int), .int .i64 (j : Int), .slice A l.length c] 44)) := ((Below.refl _ _).alloc (Nat.le_refl _) _).alloc (by simp) _
    have bH : Blk ((w.alloc (.cells #[.slice A0 u0.length c0, .slice A1 u1.length c1, .slice A2 u2.length c2] 109)).alloc (.cells #[.int .i64 (κ : Int), .int .i64 (j : Int), .slice A l.length c] 44)) w.heap.size 109 #[.slice A0 u0.length c0, .slice A1 u1.length c1, .slice A2 u2.length c2] := (Blk.new _ _ _).alloc _
    have bT : Blk ((w.alloc (.cells #[.slice A0 u0.length c0, .slice A1 u1.length c1, .slice A2 u2.length c2] 109)).alloc (.cells #[.int .i64 (κ : Int), .int .i64 (j : Int), .slice A l.length c] 44)) (w.heap.size + 1) 44 #[.int .i64 (κ : Int), .int .i64 (j : Int), .slice A l.length c] := by
      simpa using Blk.new (w.alloc (.cells #[.slice A0 u0.length c0, .slice A1 u1.length c1, .slice A2 u2.length c2] 109)) 44 #[.int .i64 (κ : Int), .int .i64 (j : Int), .slice A l.length c]
    have y0 := bT.cell 0
    have y1 := bT.cell 1
    have y2 := bT.cell 2
    have x0 := (bH.cell κ).trans hbx
    have xj := (hw2.cell (p := ad.add j) (by rw [block_of_add]; omega)).trans hcell
    simp at y0 y1 y2
    have hk0 : (0 : Int) ≤ (κ : Int) := by omega
    have hk3 : (κ : Int) < 3 := by omega
    have hj0 : (0 : Int) ≤ (j : Int) := by omega
    have hjn : (j : Int) < (nk : Int) := by omega
    clear hbx a0 a1 a2
    have H0 : Hid (∀ n, SAtV B ps G vis (hsOf l0 l1 l2) l g0 #[.slice A0 u0.length c0, .slice A1 u1.length c1, .slice A2 u2.length c2] #[.int .i64 (κ : Int), .int .i64 (j : Int), .slice A l.length c] w (pv q0) (.int .i64 0)
        (((w.alloc (.cells #[.slice A0 u0.length c0, .slice A1 u1.length c1, .slice A2 u2.length c2] 109)).alloc (.cells #[.int .i64 (κ : Int), .int .i64 (j : Int), .slice A l.length c] 44)).drewN n)) := by
      refine Lib.hid fun n => ⟨0, G, [], g0, q0, Nat.zero_le _, rfl, rfl, by simpa using hg0, ?_, ?_, ?_, fun b hb => by simp at hb, bH.drewN n, bT.drewN n, by simp [T.countL]⟩
      · exact .nil hG (by have := hgs.len; have := (List.getElem?_eq_some_iff.1 hg0).1; omega)
      · simpa using (hgs.below hw2).drewN n
      · exact Saves.of_below (below_drewN hw2 n)
    have HM : Hid (∀ (k n : Int) (x : Nat), hsOf l0 l1 l2 k n = some x → x < G.length) := by
      have q : ∀ {ls us : List Nat}, Nodes ps ls us → ∀ x ∈ ls, x < G.length := fun hn x hx => by
        obtain ⟨i, hi, rfl⟩ := List.mem_iff_getElem.1 hx
        obtain ⟨p, _, h2⟩ := hn.2 i _ (List.getElem?_eq_getElem hi)
        have := hgs.len
        have := (List.getElem?_eq_some_iff.1 h2).1
        omega
      exact Lib.hid fun k n x h => pickA_mem (P := fun x => x < G.length) (q hctx.n0) (q hctx.n1) (q hctx.n2) h
    have HHS := Lib.hid hhs
    have HG0 : Hid (g0 < G.length) := Lib.hid (HM.out _ _ _ hhs)
    have HCX := Lib.hid hctx
    have HGS := Lib.hid hgs
    have HEX := Lib.hid hexl
    have HHV := Lib.hid hvis
    have HKB : Hid (1 + T.countL l ≤ K + 1) := Lib.hid (by simpa only [T.count] using hK)
    have HNG := Lib.hid hnG
    have hBw := hctx.le
    clear hcell had hadp hhs hg0 hhd hexl hin0 hctx hgs hG bH bT hw2 hK hnG hvis
    go_enter Tryd.func60, Tryd.ntmps60
    go_wp2_with fail
    go_quiet (fail)
    go_wp2_with fail
    clear x0 xj y0 y1 y2
    go_loopw [6, 23] (fun g i wr => SAtV B ps G vis (hsOf l0 l1 l2) l g0 #[.slice A0 u0.length c0, .slice A1 u1.length c1, .slice A2 u2.length c2] #[.int .i64 (κ : Int), .int .i64 (j : Int), .slice A l.length c] w g i wr) (fun _ i _ => l.length - (intOf i).toNat)
    case atStart => exact H0.out _
    case round =>
      clear H0
      obtain ⟨k, G1, m, r, p, hk, rfl, rfl, hr⟩ := hrel
      have hzr := hr.sav.size
      have hPr := hr.ptr
      by_cases hlt : k < l.length
      · have hx : l[k]? = some l[k] := List.getElem?_eq_getElem hlt
        obtain ⟨ad2, u, rfl, hP, hel, hinx⟩ := T.In.el hrd hrow hx
        have hold : ∀ b, b < B → wr.heap[b]? = w.heap[b]? := fun b hb => hr.sav.block b (by omega) (fun hm => by have := HCX.out.base b hm; omega)
        obtain ⟨r0, r1, r2⟩ := hel.keep (hold _ hP)
        have hcnt : T.countL (l.take (k + 1)) = T.countL (l.take k) + l[k].count := T.countL_take_succ l k _ hx
        have hcle := T.countL_take_le l (k + 1)
        have hpos := l[k].count_pos
        have hexx := T.existL_at HEX.out hx
        have hinw : l[k].In wr (· < B) u := T.In.keep (fun b hb => hold b hb) _ hinx
        have htk : l.take (k + 1) = l.take k ++ [l[k]] := by rw [List.take_add_one, hx]; rfl
        have hsplit : l = l.take k ++ l[k] :: l.drop (k + 1) := by
          rw [← List.drop_eq_getElem_cons hlt, List.take_append_drop]
        have HTY := Lib.hid hr.ty
        generalize l[k] = x at *
        obtain ⟨A', n', c', rfl⟩ := hinx.form
        have hbx : Below wr.heap.size wr (wr.alloc (.cells #[.int .i64 x.kind, .int .i64 x.num, .slice A' n' c'] 44)) := (Below.refl _ _).alloc (Nat.le_refl _) _
        have hcx1 : HCtx B (ps ++ m) l0 l1 l2 u0 u1 u2 (.slice A0 u0.length c0) (.slice A1 u1.length c1) (.slice A2 u2.length c2) (wr.alloc (.cells #[.int .i64 x.kind, .int .i64 x.num, .slice A' n' c'] 44)) :=
          HCX.out.next (hr.sav.trans (Saves.of_below hbx)) (fun b hb => by have := hr.new b hb; omega)
        have hc2 := HIH.out x (.slice A' n' c') (wr.alloc (.cells #[.int .i64 x.kind, .int .i64 x.num, .slice A' n' c'] 44)) (ps ++ m) G1 (by have := HKB.out; omega) hr.ty.good (by have := HNG.out; have := hr.ty.len; omega) (hr.gs.below hbx) hcx1 (hinw.below hbx (fun b hb => by omega)) hexx
        have HC2 := Lib.hid hc2
        have HR := Lib.hid hr
        have HEQ : Hid (T.countL (l.take (k + 1)) = T.countL (l.take k) + x.count ∧ l.take (k + 1) = l.take k ++ [x] ∧ l = l.take k ++ x :: l.drop (k + 1)) := Lib.hid ⟨hcnt, htk, hsplit⟩
        have z0 := (hr.bh.alloc (.cells #[.int .i64 x.kind, .int .i64 x.num, .slice A' n' c'] 44)).cell 0
        have z1 := (hr.bh.alloc (.cells #[.int .i64 x.kind, .int .i64 x.num, .slice A' n' c'] 44)).cell 1
        have z2 := (hr.bh.alloc (.cells #[.int .i64 x.kind, .int .i64 x.num, .slice A' n' c'] 44)).cell 2
        simp at z0 z1 z2
        clear hc2 hcx1 hx hel hinx hinw hexx hcnt htk hsplit hr hcle hbx hPr
        go_wp2_with fail
        refine HC2.out.mono ?_
        rintro e w2 ⟨G2, m2, res, hg2, hgd2, hs2, hn2, hle2, hlen2, hres⟩
        have hz2 := hs2.size
        simp only [World.size_alloc] at hz2
        have HSV : Hid (Saves (· ∈ ps) w w2) := Lib.hid ((HR.out.sav.trans (Saves.of_below ((Below.refl _ _).alloc (Nat.le_refl _) _))).more_ hs2 (fun b hb => by have := HR.out.new b hb; omega))
        have HNW : Hid (∀ b ∈ m ++ m2, w.heap.size + 2 ≤ b) := Lib.hid fun b hb => by
          rcases List.mem_append.1 hb with hb | hb
          · exact HR.out.new b hb
          · have h1 := hn2 b hb
            have h2 := HR.out.bt.lt
            simp only [World.size_alloc] at h1
            omega
        have HNP : Hid (w.heap.size ∉ ps ++ m ∧ w.heap.size + 1 ∉ ps ++ m) := by
          have q : ∀ b, w.heap.size ≤ b → b < w.heap.size + 2 → b ∉ ps ++ m := fun b h1 h2 hh => by
            rcases List.mem_append.1 hh with hh | hh
            · have := HGS.out.lt hh; omega
            · have := HR.out.new b hh; omega
          exact Lib.hid ⟨q _ (by omega) (by omega), q _ (by omega) (by omega)⟩
        have HB2 : Hid (Blk w2 w.heap.size 109 #[.slice A0 u0.length c0, .slice A1 u1.length c1, .slice A2 u2.length c2] ∧ Blk w2 (w.heap.size + 1) 44 #[.int .i64 (κ : Int), .int .i64 (j : Int), .slice (some ad2) l.length c]) :=
          Lib.hid ⟨(HR.out.bh.alloc _).saves hs2 HNP.out.1, (HR.out.bt.alloc _).saves hs2 HNP.out.2⟩
        have HL2 : Hid (G.length ≤ G2.length ∧ G2.length + 2 ≤ G.length + 2 * T.countL (l.take (k + 1)) ∧ T.countL (l.take (k + 1)) ≤ T.countL l) := by
          obtain ⟨e1, _, _⟩ := HEQ.out
          have h1 := HR.out.len
          have h2 := HR.out.ty.len
          exact Lib.hid ⟨by omega, by rw [e1]; omega, T.countL_take_le l _⟩
        have HG2 : Hid (Gs w2 (ps ++ (m ++ m2)) G2 vis ∧ Good G2) := Lib.hid ⟨by rw [← List.append_assoc]; exact hg2, hgd2⟩
        clear hg2 hgd2 hs2 hn2 hle2 hlen2 z0 z1 z2
        cases res with
        | none =>
          obtain ⟨rfl, hno⟩ := hres
          have HF : Hid (∀ o, SortPostI ps G vis (hsOf l0 l1 l2) (.mk (κ : Int) (j : Int) l) w (.returned (.tuple #[.pointer none, .bool false])) (w2.alloc o)) := by
            obtain ⟨_, _, e3⟩ := HEQ.out
            obtain ⟨h1, h2, h3⟩ := HL2.out
            refine Lib.hid fun o => ⟨G2, m ++ m2, none, HG2.out.1.alloc o, HG2.out.2, HSV.out.alloc o, fun b hb => by have := HNW.out b hb; omega, h1, by simp only [T.count]; omega, rfl, ?_⟩
            have := NoTyL.arg HM.out HTY.out hno (l.drop (k + 1))
            rw [← e3] at this
            exact this.no HHS.out
          clear hno
          go_wp2_with fail
          go_ret2
          exact HF.out _
        | some a =>
          obtain ⟨pa, hpa, rfl, hty⟩ := hres
          obtain ⟨ok, hok⟩ := Unifies.bool (withArg G2 a) r (G2.length + 1)
          have hl2 := HG2.out.1.len
          have hpa' : (ps ++ (m ++ m2))[a]? = some pa := by rw [← List.append_assoc]; exact hpa
          have hpr' : (ps ++ (m ++ m2))[r]? = some p := by rw [← List.append_assoc]; exact get_more HR.out.ptr _
          have hv0 : ∀ x, G2.length ≤ x → vis x = 0 := fun x hx => HHV.out x (by have := HNG.out; have := HL2.out.1; omega)
          have hg3 := HG2.out.1.new (d := .open_) (sm := none) (fr := none) (to_ := none) (kd := 0) ⟨rfl, rfl⟩ (hv0 _ (Nat.le_refl _))
          have hg4 := hg3.new (d := .arrow a G2.length) (sm := none) (fr := some (at0 pa)) (to_ := some (at0 w2.heap.size)) (kd := 2) ⟨rfl, rfl, ⟨pa, get_more hpa' _, rfl⟩, w2.heap.size, by rw [← hl2, List.getElem?_concat_length], rfl⟩ (hv0 _ (by simp))
          simp only [World.size_alloc] at hg4
          have hp4 : (ps ++ (m ++ m2) ++ [w2.heap.size] ++ [w2.heap.size + 1])[G2.length + 1]? = some (w2.heap.size + 1) := by
            have e2 : G2.length + 1 = (ps ++ (m ++ m2) ++ [w2.heap.size]).length := by rw [List.length_append, hl2]; rfl
            rw [e2, List.getElem?_concat_length]
          have hj := join_any _ _ (withArg G2 a) vis r (G2.length + 1) p (w2.heap.size + 1) ok _ (Nat.le_refl _) (withArg_good HG2.out.2 hty.lt) hg4 (get_more (get_more hpr' _) _) hp4 hok
          have HJ := Lib.hid hj
          have HTX := Lib.hid hty
          have HPS : Hid (ps ++ (m ++ m2) ++ [w2.heap.size] ++ [w2.heap.size + 1] = ps ++ (m ++ m2 ++ [w2.heap.size] ++ [w2.heap.size + 1])) := Lib.hid (by simp)
          have HP4 := Lib.hid hp4
          clear hj hty hpa hpa' hpr' hv0 hg3 hg4 hp4 hok hl2
          have HNW4 : Hid (∀ b ∈ m ++ m2 ++ [w2.heap.size] ++ [w2.heap.size + 1], w.heap.size + 2 ≤ b) := Lib.hid fun b hb => by
            have hw2 := HSV.out.size
            have h3 := HB2.out.2.lt
            simp only [List.mem_append, List.mem_singleton] at hb
            rcases hb with ((hb | hb) | rfl) | rfl
            · exact HNW.out b (by simp [hb])
            · exact HNW.out b (by simp [hb])
            · omega
            · omega
          cases ok with
          | false =>
            go_wp2_with fail
            refine HJ.out.mono ?_
            rintro e w5 ⟨rfl, G5, hj5, hg5, ht5⟩
            have HF : Hid (SortPostI ps G vis (hsOf l0 l1 l2) (.mk (κ : Int) (j : Int) l) w (.returned (.tuple #[.pointer none, .bool false])) w5) := by
              obtain ⟨_, _, e3⟩ := HEQ.out
              obtain ⟨h1, h2, h3⟩ := HL2.out
              have h4 := hj5.len
              rw [withArg_len] at h4
              have h5 := ht5.sav
              rw [HPS.out] at hg5 h5
              refine Lib.hid ⟨G5, _, none, hg5, hj5.good, ((HSV.out.alloc _).alloc _).more_ h5 (fun b hb => by have := HNW4.out b hb; omega), fun b hb => by have := HNW4.out b hb; omega, by omega, by simp only [T.count]; omega, rfl, ?_⟩
              have := NoTyL.join HM.out HTY.out HTX.out hj5 (l.drop (k + 1))
              rw [← e3] at this
              exact this.no HHS.out
            clear hj5 hg5 ht5
            go_wp2_with fail
            go_ret2
            exact HF.out
          | true =>
            go_wp2_with fail
            refine HJ.out.mono ?_
            rintro e w5 ⟨rfl, G5, hj5, hg5, ht5⟩
            have HF : Hid (SAtV B ps G vis (hsOf l0 l1 l2) l g0 #[.slice A0 u0.length c0, .slice A1 u1.length c1, .slice A2 u2.length c2] #[.int .i64 (κ : Int), .int .i64 (j : Int), .slice (some ad2) l.length c] w (pv w2.heap.size) (.int .i64 ((k + 1 : Nat) : Int)) w5) := by
              obtain ⟨_, e2, _⟩ := HEQ.out
              obtain ⟨h1, h2, h3⟩ := HL2.out
              have h4 := hj5.len
              rw [withArg_len] at h4
              have h5 := ht5.sav
              have hl2 := HG2.out.1.len
              have hnp : ∀ b, w.heap.size ≤ b → b < w.heap.size + 2 → b ∉ ps ++ (m ++ m2 ++ [w2.heap.size] ++ [w2.heap.size + 1]) := fun b h1 h2 hh => by
                rcases List.mem_append.1 hh with hh | hh
                · have := HGS.out.lt hh; omega
                · have := HNW4.out b hh; omega
              rw [HPS.out] at hg5 h5
              refine Lib.hid ⟨k + 1, G5, _, G2.length, w2.heap.size, by omega, rfl, rfl, ?_, ?_, hg5, ((HSV.out.alloc _).alloc _).more_ h5 (fun b hb => by have := HNW4.out b hb; omega), HNW4.out, ?_, ?_, by omega⟩
              · rw [← HPS.out, ← hl2]
                exact get_more (by rw [List.getElem?_concat_length]) _
              · rw [e2]
                exact TypedL.snoc HM.out HTY.out HTX.out hj5
              · exact ((HB2.out.1.alloc _).alloc _).saves h5 (hnp _ (by omega) (by omega))
              · exact ((HB2.out.2.alloc _).alloc _).saves h5 (hnp _ (by omega) (by omega))
            clear hj5 hg5 ht5
            go_wp2_with fail
            go_roundw
            case rel => simpa using HF.out
            case measure => simp [intOf]; omega
      · have htk : l.take k = l := List.take_of_length_le (by omega)
        have HF : Hid (SortPostI ps G vis (hsOf l0 l1 l2) (.mk (κ : Int) (j : Int) l) w (.returned (.tuple #[pv p, .bool true])) wr) := by
          have h1 := hr.ty
          have h2 := hr.len
          rw [htk] at h1 h2
          exact Lib.hid ⟨G1, m, some r, hr.gs, h1.good, hr.sav, fun b hb => by have := hr.new b hb; omega, h1.len, by simp only [T.count]; omega, p, hr.ptr, rfl, h1.typed HHS.out⟩
        clear htk hr hPr
        go_wp2_with fail
        go_ret2
        exact HF.out
end Go.Proofs.YtkkfdiidneoelaaDoor
