/-
  The string of a head: scheme.headText.
  The string of a term: scheme.write.
  What holds of valid schemes (no program is named here but by its texts).
  scheme.Put: contract.
  scheme.Order: contract.
-/
import Derived.Test.YtbbejhhohppdhaaGreatDoorGM
import Derived.Test.YtbbejhhohppdhaaGreatDoorGB
import Derived.Test.YtbbejhhohppdhaaGreatDoorSchemeCk
import Derived.Deep.RegionHeld3
namespace Go.Proofs.YtbbejhhohppdhaaGreatDoor
open Go.RowKit

/-- The string of a head. -/
def headB (s : Sc) (k n : Int) : List UInt8 :=
  if k = 0 then 36 :: Lib.decDigits n.toNat else if k = 2 then 35 :: (s.syms[n.toNat]?.map nm).getD [] else (s.funs[n.toNat]?.map fnm).getD []
/-- A head of one of a parameters, b functions, c symbols. -/
def headOk (a b c : Nat) (k n : Int) : Bool :=
  decide (0 ≤ n) && ((decide (k = 0) && decide (n < a)) || ((decide (k = 1) && decide (n < b)) || (decide (k = 2) && decide (n < c))))
mutual
def T.heads (a b c : Nat) : T → Bool
  | .mk k n l => headOk a b c k n && T.headsL a b c l
def T.headsL (a b c : Nat) : List T → Bool
  | [] => true
  | s :: r => s.heads a b c && T.headsL a b c r
end
theorem T.headsL_at {a b c : Nat} : ∀ {l : List T}, T.headsL a b c l = true → ∀ {k : Nat} {x : T}, l[k]? = some x → x.heads a b c = true
  | [], _, k, x, h => by simp at h
  | s :: r, hl, k, x, h => by
    simp only [T.headsL, Bool.and_eq_true] at hl
    cases k with
    | zero => simp at h; subst h; exact hl.1
    | succ k => simp at h; exact T.headsL_at hl.2 h
theorem T.heads_head {a b c : Nat} {t : T} (h : t.heads a b c = true) : headOk a b c t.kind t.num = true ∧ T.headsL a b c t.args = true := by
  obtain ⟨k, n, l⟩ := t
  simpa [T.heads, T.kind, T.num, T.args] using h
theorem str_one (c : UInt8) (s : ByteArray) : Value.string (⟨#[c]⟩ ++ s) = .string ⟨(c :: s.data.toList).toArray⟩ := by
  congr 1
theorem str_list (s : ByteArray) : Value.string s = .string ⟨s.data.toList.toArray⟩ := by simp

theorem dec_one {m : Nat} (h : m < 10) : Lib.decDigits m = [UInt8.ofNat (48 + m)] := by rw [Lib.decDigits, dif_pos h]

set_option maxRecDepth 100000 in
set_option maxHeartbeats 800000 in
theorem headText_any (s : Sc) (v0 v1 : Value) (w : World) (hi : Nat) (hin : ScIn w hi s v0 v1) (hhi : hi ≤ w.heap.size) (hsn : ∀ x ∈ s.syms, x.name.size ≤ 1000) (k n : Int) (v : Value) (hv : ∃ A n c, v = .slice A n c)
    (ht : headOk 8 s.funs.length s.syms.length k n = true) :
    Calls Tryz.prog 129 #[.agg #[v0, v1], .agg #[.int .i64 k, .int .i64 n, v]] w fun e w' => e = .returned (.string ⟨(headB s k n).toArray⟩) ∧ Below w.heap.size w w' := by
  have k0 := ScKept.start hin hhi
  obtain ⟨⟨A0, n0, c0, rfl⟩, ⟨A1, n1, c1, rfl⟩⟩ := hin.form
  obtain ⟨A2, n2, c2, rfl⟩ := hv
  have bb : Below (w.alloc (.cells #[.slice A0 n0 c0, .slice A1 n1 c1] 25)).heap.size (w.alloc (.cells #[.slice A0 n0 c0, .slice A1 n1 c1] 25)) ((w.alloc (.cells #[.slice A0 n0 c0, .slice A1 n1 c1] 25)).alloc (.cells #[.int .i64 k, .int .i64 n, .slice A2 n2 c2] 34)) := (Below.refl _ _).alloc (Nat.le_refl _) _
  have k1 := k0.next bb
  have d0 := k1.b.cell 0
  have d1 := k1.b.cell 1
  simp at d0 d1
  simp only [headOk, Bool.and_eq_true, Bool.or_eq_true, decide_eq_true_eq] at ht
  obtain ⟨h0, h1⟩ := ht
  obtain ⟨m, rfl⟩ : ∃ m : Nat, n = (m : Int) := ⟨n.toNat, by omega⟩
  rcases h1 with ⟨rfl, h2⟩ | ⟨rfl, h2⟩ | ⟨rfl, h2⟩
  · have HI := Lib.hid (fun W => Tryz.strconv_Itoa_small m (by omega) W)
    have HF : Hid (headB s 0 (m : Int) = 36 :: Lib.decDigits m) := Lib.hid (by simp [headB])
    have hdl : (Lib.decDigits m).length ≤ 1 := by rw [dec_one (by omega)]; simp
    generalize Lib.decDigits m = dg at *
    clear hin k0
    go_enter Tryz.func129, Tryz.ntmps129
    go_wp2_with fail
    refine (HI.out _).mono ?_
    rintro e w1 ⟨rfl, rfl⟩
    go_wp2_with fail
    go_ret
    refine ⟨?_, k1.bel⟩
    rw [HF.out]
    exact congrArg Ending.returned (str_append [36] dg)
  · obtain ⟨A, _, c, us, he, hl, hnc, hc, hrd, hrow⟩ := k1.i.fn
    injection he with e1 e2 e3
    subst e1 e2 e3 hl
    have hx : s.funs[m]? = some s.funs[m] := List.getElem?_eq_getElem (by omega)
    have HF : Hid (headB s 1 (m : Int) = fnm s.funs[m]) := Lib.hid (by simp [headB, hx])
    obtain ⟨ad, u, vb, rfl, hPa, hel, _⟩ := fn_el hrd hrow hx
    have r0 := hel.c0
    generalize s.funs[m] = x at *
    obtain ⟨name, sort, body⟩ := x
    simp only at r0
    have hml : m < s.funs.length := by omega
    clear hin k0 hel hrow hrd hx
    go_enter Tryz.func129, Tryz.ntmps129
    go_wp2_with fail
    go_ret
    exact ⟨by rw [HF.out]; exact congrArg Ending.returned (str_list name), k1.bel⟩
  · obtain ⟨A, _, c, he, hl, hnc, hc, hrd, hsz⟩ := k1.i.sy
    injection he with e1 e2 e3
    subst e1 e2 e3 hl
    have hx : s.syms[m]? = some s.syms[m] := List.getElem?_eq_getElem (by omega)
    have HF : Hid (headB s 2 (m : Int) = 35 :: nm s.syms[m]) := Lib.hid (by simp [headB, hx])
    obtain ⟨ad, rfl, hPa, hel⟩ := sy_el hrd hx
    have r0 := hel.1
    have hsx := hsn s.syms[m] (List.getElem_mem (by omega))
    generalize s.syms[m] = x at *
    obtain ⟨name, rank⟩ := x
    simp only at r0 hsx
    have hml : m < s.syms.length := by omega
    clear hin k0 hel hrd hx
    go_enter Tryz.func129, Tryz.ntmps129
    go_wp2_with fail
    go_ret
    exact ⟨by rw [HF.out]; exact congrArg Ending.returned (str_one 35 name), k1.bel⟩
end Go.Proofs.YtbbejhhohppdhaaGreatDoor

namespace Go.Proofs.YtbbejhhohppdhaaGreatDoor
open Go.RowKit

mutual
/-- The string of a term. -/
def T.text (s : Sc) : T → List UInt8
  | .mk k n l => headB s k n ++ T.textL s l
def T.textL (s : Sc) : List T → List UInt8
  | [] => []
  | x :: r => 32 :: ((if x.args.isEmpty then headB s x.kind x.num else 40 :: (x.text s ++ [41])) ++ T.textL s r)
end
def T.argText (s : Sc) (x : T) : List UInt8 := if x.args.isEmpty then headB s x.kind x.num else 40 :: (x.text s ++ [41])
theorem T.text_eq (s : Sc) (t : T) : t.text s = headB s t.kind t.num ++ T.textL s t.args := by cases t; simp [T.text, T.kind, T.num, T.args]
theorem T.textL_append (s : Sc) (l m : List T) : T.textL s (l ++ m) = T.textL s l ++ T.textL s m := by
  induction l with
  | nil => simp [T.textL]
  | cons x r ih => simp [T.textL, ih]
theorem T.textL_take_succ (s : Sc) (l : List T) (k : Nat) (x : T) (h : l[k]? = some x) : T.textL s (l.take (k + 1)) = T.textL s (l.take k) ++ 32 :: x.argText s := by
  rw [List.take_add_one, h, T.textL_append]
  simp [T.textL, T.argText]
theorem T.headsL_take {a b c : Nat} : ∀ (l : List T) (k : Nat), T.headsL a b c l = true → T.headsL a b c (l.take k) = true
  | [], k, _ => by simp [T.headsL]
  | x :: r, 0, _ => by simp [T.headsL]
  | x :: r, k + 1, h => by
    simp only [T.headsL, Bool.and_eq_true] at h
    simp only [List.take_succ_cons, T.headsL, Bool.and_eq_true]
    exact ⟨h.1, T.headsL_take r k h.2⟩
/-- Names are short. -/
def Sc.short (s : Sc) : Prop := (∀ x ∈ s.syms, x.name.size ≤ 24) ∧ ∀ f ∈ s.funs, f.name.size ≤ 24
theorem headB_length {s : Sc} (hs : s.short) {k n : Int} (h : headOk 8 s.funs.length s.syms.length k n = true) : (headB s k n).length ≤ 25 := by
  simp only [headOk, Bool.and_eq_true, Bool.or_eq_true, decide_eq_true_eq] at h
  obtain ⟨h0, h1⟩ := h
  unfold headB
  split
  · subst_vars
    rw [dec_one (by omega)]; simp
  · split
    · rcases h1 with h1 | h1 | h1
      · omega
      · omega
      · have hx : s.syms[n.toNat]? = some (s.syms[n.toNat]'(by omega)) := List.getElem?_eq_getElem (by omega)
        rw [hx]
        have := hs.1 _ (List.getElem_mem (by omega : n.toNat < s.syms.length))
        simp [nm]; omega
    · rcases h1 with h1 | h1 | h1
      · omega
      · have hx : s.funs[n.toNat]? = some (s.funs[n.toNat]'(by omega)) := List.getElem?_eq_getElem (by omega)
        rw [hx]
        have := hs.2 _ (List.getElem_mem (by omega : n.toNat < s.funs.length))
        simp [fnm]; omega
      · omega
mutual
theorem T.text_length {s : Sc} (hs : s.short) : ∀ t : T, t.heads 8 s.funs.length s.syms.length = true → (t.text s).length + 3 ≤ 28 * t.count
  | .mk k n l, h => by
    simp only [T.heads, Bool.and_eq_true] at h
    have h1 := headB_length hs h.1
    have h2 := T.textL_length hs l h.2
    simp only [T.text, T.count, List.length_append]; omega
theorem T.textL_length {s : Sc} (hs : s.short) : ∀ l : List T, T.headsL 8 s.funs.length s.syms.length l = true → (T.textL s l).length ≤ 28 * T.countL l
  | [], _ => by simp [T.textL]
  | x :: r, h => by
    simp only [T.headsL, Bool.and_eq_true] at h
    have h1 := T.text_length hs x h.1
    have h2 := T.textL_length hs r h.2
    have h3 := x.count_pos
    have h4 := headB_length hs (T.heads_head h.1).1
    simp only [T.textL, T.countL, List.length_append, List.length_cons]
    split
    · omega
    · simp only [List.length_append, List.length_cons, List.length_nil]; omega
end
theorem T.argText_length {s : Sc} (hs : s.short) (t : T) (h : t.heads 8 s.funs.length s.syms.length = true) : (t.argText s).length + 1 ≤ 28 * t.count := by
  have h1 := T.text_length hs t h
  have h4 := headB_length hs (T.heads_head h).1
  have h3 := t.count_pos
  simp only [T.argText]
  split
  · omega
  · simp only [List.length_append, List.length_cons, List.length_nil]; omega

/-- What a writer of a scheme leaves. -/
structure Wr (B b : Nat) (bs : List UInt8) (w w' : World) : Prop where
  ib : Lib.IsBuilder 130 5 B b (Lib.byteCells bs) w'
  bel : Below B w w'
  oth : Lib.OthersKept 5 (some b) w w'
theorem Wr.of_wrote {B b : Nat} {bs cs : List UInt8} {vs : List Value} {w w' : World} (h : Wrote B b (Lib.byteCells bs ++ vs) w w') (hv : vs = Lib.byteCells cs) : Wr B b (bs ++ cs) w w' :=
  ⟨by rw [byteCells_append, ← hv]; exact h.builder, h.2.1, h.2.2⟩
theorem Wr.trans {B b : Nat} {bs cs : List UInt8} {w w1 w2 : World} (h : Wr B b bs w w1) (k : Wr B b cs w1 w2) : Wr B b cs w w2 := ⟨k.ib, h.bel.trans k.bel, h.oth.trans k.oth⟩
theorem others_below {w w' : World} {b : Nat} (h : Below w.heap.size w w') : Lib.OthersKept 5 (some b) w w' := fun k _ hk _ _ => (h.block k (Array.getElem?_eq_some_iff.1 hk).1).trans hk
theorem Wr.quiet {B b : Nat} {bs : List UInt8} {w w1 w2 : World} (h : Wr B b bs w w1) (k : Below w1.heap.size w1 w2) : Wr B b bs w w2 :=
  ⟨isBuilder_kept h.ib k, h.bel.trans (k.mono (by have := isBuilder_lt h.ib; omega)), h.oth.trans (others_below k)⟩
theorem Wr.start {B b : Nat} {bs : List UInt8} {w : World} (h : Lib.IsBuilder 130 5 B b (Lib.byteCells bs) w) : Wr B b bs w w := ⟨h, Below.refl _ _, Lib.OthersKept.refl _ _ _⟩
theorem strCells_list (t : List UInt8) : Lib.strCells ⟨t.toArray⟩ = Lib.byteCells t := rfl

set_option maxRecDepth 100000 in
set_option maxHeartbeats 1600000 in
theorem schemeWrite_any (s : Sc) (hsh : s.short) (v0 v1 : Value) (hi : Nat) (K : Nat) : ∀ (t : T) (v : Value) (bs : List UInt8) (B b : Nat) (w : World), t.count ≤ K → bs.length + 28 * t.count ≤ 100000000 → ScIn w hi s v0 v1 → t.In w (fun b => b < hi) v → hi ≤ B →
      t.heads 8 s.funs.length s.syms.length = true → Lib.IsBuilder 130 5 B b (Lib.byteCells bs) w →
      Calls Tryz.prog 86 #[.pointer (some ⟨b, 0, none⟩), .agg #[v0, v1], .agg #[.int .i64 t.kind, .int .i64 t.num, v]] w fun e w' => e = .returned (.tuple #[]) ∧ Wr B b (bs ++ t.text s) w w' := by
  induction K with
  | zero => intro t; have := t.count_pos; omega
  | succ K ih =>
    intro t v bs B b w hK hlen hsc hin hhi hhd hbd
    have hlt := isBuilder_lt hbd
    obtain ⟨⟨A0, n0, c0, rfl⟩, ⟨A1, n1, c1, rfl⟩⟩ := hsc.form
    obtain ⟨hh1, hh2⟩ := T.heads_head hhd
    have HTX := Lib.hid (T.text_eq s t)
    have hhl := headB_length hsh hh1
    obtain ⟨kd, nu, l⟩ := t
    simp only [T.In] at hin
    obtain ⟨A, _, c, us, rfl, rfl, hnc, hc, hrd, hrow⟩ := hin
    simp only [T.kind, T.num, T.args] at *
    simp only [T.count] at hK hlen
    have wr0 : Wr B b bs w ((w.alloc (.cells #[.slice A0 n0 c0, .slice A1 n1 c1] 25)).alloc (.cells #[.int .i64 kd, .int .i64 nu, .slice A l.length c] 34)) :=
      (Wr.start hbd).quiet (((Below.refl _ _).alloc (Nat.le_refl _) _).alloc (by simp) _)
    have bx0 : Blk ((w.alloc (.cells #[.slice A0 n0 c0, .slice A1 n1 c1] 25)).alloc (.cells #[.int .i64 kd, .int .i64 nu, .slice A l.length c] 34)) w.heap.size 25 #[.slice A0 n0 c0, .slice A1 n1 c1] := (Blk.new _ _ _).alloc _
    have bt0 : Blk ((w.alloc (.cells #[.slice A0 n0 c0, .slice A1 n1 c1] 25)).alloc (.cells #[.int .i64 kd, .int .i64 nu, .slice A l.length c] 34)) (w.heap.size + 1) 34 #[.int .i64 kd, .int .i64 nu, .slice A l.length c] := by
      have := Blk.new (w.alloc (.cells #[.slice A0 n0 c0, .slice A1 n1 c1] 25)) 34 #[.int .i64 kd, .int .i64 nu, .slice A l.length c]
      simpa using this
    have hsn : ∀ x ∈ s.syms, x.name.size ≤ 1000 := fun x hx => by have := hsh.1 x hx; omega
    have HHT := Lib.hid (fun W h h' k n v hv hok => headText_any s (.slice A0 n0 c0) (.slice A1 n1 c1) W hi h h' hsn k n v hv hok)
    have HH0 := Lib.hid (HHT.out _ (hsc.below wr0.bel hhi) (by have := wr0.bel.size; omega) kd nu (.slice A l.length c) ⟨_, _, _, rfl⟩ hh1)
    have d0 := bx0.cell 0
    have d1 := bx0.cell 1
    have d2 := bt0.cell 0
    have d3 := bt0.cell 1
    have d4 := bt0.cell 2
    have HIH := Lib.hid ih
    clear ih hsn
    go_enter Tryz.func86, Tryz.ntmps86
    go_wp2_with fail
    refine HH0.out.mono ?_
    rintro e w1 ⟨rfl, b1⟩
    have wr1 := wr0.quiet b1
    have bx1 := bx0.below b1 bx0.lt
    have bt1 := bt0.below b1 bt0.lt
    have hz1 := wr1.bel.size
    have HW1 := Lib.hid (writeString_any B b _ ⟨(headB s kd nu).toArray⟩ w1 wr1.ib (by rw [Lib.byteCells_length]; show bs.length + (headB s kd nu).length ≤ _; omega) (by omega))
    generalize headB s kd nu = hd at *
    go_wp2_with fail
    refine HW1.out.mono ?_
    rintro e w2 ⟨rfl, hw2⟩
    have wr2 := wr1.trans (Wr.of_wrote hw2 (strCells_list hd))
    have bx2 := bx1.others hw2.2.2 (by omega) (by decide)
    have bt2 := bt1.others hw2.2.2 (by omega) (by decide)
    have e4 := bt2.cell 2
    simp at e4
    have WR2 := Lib.hid wr2
    have BX2 := Lib.hid bx2
    have hz2 := wr2.bel.size
    clear d0 d1 d2 d3 d4 wr0 wr1 wr2 bx0 bx1 bx2 bt0 bt1 bt2 HW1 HH0 hw2 b1
    go_wp2_with fail
    go_loopw [16] (fun i wr => ∃ k : Nat, k ≤ l.length ∧ i = .int .i64 k ∧ Wr B b (bs ++ hd ++ T.textL s (l.take k)) w wr ∧ Blk wr w.heap.size 25 #[.slice A0 n0 c0, .slice A1 n1 c1]) (fun i _ => l.length - (intOf i).toNat)
    case atStart => exact ⟨0, Nat.zero_le _, rfl, by simpa [T.textL] using WR2.out, BX2.out⟩
    case round =>
      obtain ⟨k, hk, rfl, hwr, hbx⟩ := hrel
      have hsz := hwr.bel.size
      have hlt1 := isBuilder_lt hwr.ib
      by_cases hltk : k < l.length
      · have hx : l[k]? = some l[k] := List.getElem?_eq_getElem hltk
        obtain ⟨ad, u, rfl, hPa, hel, hix⟩ := T.In.el hrd hrow hx
        obtain ⟨r0, r1, r2⟩ := hel.keep (hwr.bel.block _ (by omega))
        have hcs := T.countL_take_succ l k _ hx
        have hct := T.countL_take_le l (k + 1)
        have hcnt : l[k].count ≤ T.countL l := by omega
        have htkl : (T.textL s (l.take k)).length + 28 * l[k].count ≤ 28 * T.countL l := by
          have := T.textL_length hsh (l.take k) (T.headsL_take l k hh2)
          omega
        have hxh := T.headsL_at hh2 hx
        have htl := T.textL_length hsh l hh2
        have hts := T.textL_take_succ s l k _ hx
        have hal := l[k].argText_length hsh hxh
        have htk : (T.textL s (l.take k)).length + (l[k].argText s).length + 1 ≤ (T.textL s l).length := by
          have h1 : (T.textL s (l.take (k + 1))).length ≤ (T.textL s l).length := by
            have := congrArg List.length (T.textL_append s (l.take (k + 1)) (l.drop (k + 1)))
            rw [List.take_append_drop, List.length_append] at this
            omega
          rw [hts] at h1
          simp at h1
          omega
        obtain ⟨A2, n2, c2, rfl⟩ := hix.form
        have hxc := l[k].count_pos
        generalize T.textL s (l.take k) = tk at *
        generalize l[k] = x at *
        have wa : Wr B b (bs ++ hd ++ tk) w (wr.alloc (.cells #[.int .i64 x.kind, .int .i64 x.num, .slice A2 n2 c2] 34)) := hwr.quiet ((Below.refl _ _).alloc (Nat.le_refl _) _)
        have ba : Blk (wr.alloc (.cells #[.int .i64 x.kind, .int .i64 x.num, .slice A2 n2 c2] 34)) wr.heap.size 34 #[.int .i64 x.kind, .int .i64 x.num, .slice A2 n2 c2] := Blk.new _ _ _
        have bxa : Blk (wr.alloc (.cells #[.int .i64 x.kind, .int .i64 x.num, .slice A2 n2 c2] 34)) w.heap.size 25 #[.slice A0 n0 c0, .slice A1 n1 c1] := hbx.alloc _
        have HC := Lib.hid (writeByte_any B b _ 32 _ wa.ib (by rw [Lib.byteCells_length]; simp only [List.length_append]; omega) (by simp; omega))
        have hlx : x.args.length = n2 := by
          obtain ⟨xk, xn, lx⟩ := x
          simp only [T.In] at hix
          obtain ⟨_, _, _, _, e1, e2, _⟩ := hix
          injection e1 with _ e3 _
          rw [e3]; exact e2
        have HTS := Lib.hid hts
        have WA := Lib.hid wa
        have BA := Lib.hid ba
        have BXA := Lib.hid bxa
        clear hx hcs hts hel wa ba bxa hwr hbx
        by_cases h0 : n2 = 0
        · have hn0 : ((n2 : Int) == 0) = true := by rw [h0]; rfl
          have HA : Hid (x.argText s = headB s x.kind x.num) := Lib.hid (by
            have : x.args = [] := List.eq_nil_of_length_eq_zero (by omega)
            simp [T.argText, this])
          clear h0 hlx
          go_wp2_with fail
          refine HC.out.mono ?_
          rintro e w3 ⟨rfl, hw3⟩
          have wr3 := WA.out.trans (Wr.of_wrote (cs := [32]) hw3 rfl)
          have ba3 := BA.out.others hw3.2.2 (by omega) (by decide)
          have bx3 := BXA.out.others hw3.2.2 (by have := BXA.out.lt; omega) (by decide)
          have f0 := ba3.cell 0
          have f1 := ba3.cell 1
          have f2 := ba3.cell 2
          have f3 := bx3.cell 0
          have f4 := bx3.cell 1
          simp at f0 f1 f2 f3 f4
          have hz3 := wr3.bel.size
          have HH3 := Lib.hid (HHT.out w3 (hsc.below wr3.bel hhi) (by omega) x.kind x.num (.slice A2 n2 c2) ⟨_, _, _, rfl⟩ (T.heads_head hxh).1)
          go_wp2_with fail
          refine HH3.out.mono ?_
          rintro e w4 ⟨rfl, b4⟩
          have wr4 := wr3.quiet b4
          have bx4 := bx3.below b4 bx3.lt
          have hz4 := wr4.bel.size
          rw [← HA.out]
          have HW4 := Lib.hid (writeString_any B b _ ⟨(x.argText s).toArray⟩ w4 wr4.ib (by rw [Lib.byteCells_length]; show (bs ++ hd ++ tk ++ [32]).length + (x.argText s).length ≤ _; simp only [List.length_append, List.length_cons, List.length_nil]; omega) (by omega))
          generalize x.argText s = xt at *
          go_wp2_with fail
          refine HW4.out.mono ?_
          rintro e w5 ⟨rfl, hw5⟩
          have wr5 := wr4.trans (Wr.of_wrote hw5 (strCells_list xt))
          have bx5 := bx4.others hw5.2.2 (by have := BXA.out.lt; omega) (by decide)
          go_wp2_with fail
          go_roundw
          case rel =>
            refine ⟨k + 1, by omega, by go_num, ?_, bx5⟩
            rw [HTS.out]
            have e : bs ++ hd ++ (tk ++ 32 :: xt) = bs ++ hd ++ tk ++ [32] ++ xt := by simp
            rw [e]; exact wr5
          case measure => simp [intOf]; omega
        · have hn0 : ((n2 : Int) == 0) = false := by rw [beq_eq_false_iff_ne]; omega
          have HA : Hid (x.argText s = 40 :: (x.text s ++ [41])) := Lib.hid (by
            have : x.args ≠ [] := fun e => by rw [e] at hlx; simp at hlx; omega
            simp [T.argText, this])
          have hxtl : (x.argText s).length = (x.text s).length + 2 := by rw [HA.out]; simp
          have hxt28 := T.text_length hsh x hxh
          have hxcK : x.count ≤ K := by omega
          clear h0 hlx
          go_wp2_with fail
          refine HC.out.mono ?_
          rintro e w3 ⟨rfl, hw3⟩
          have wr3 := WA.out.trans (Wr.of_wrote (cs := [32]) hw3 rfl)
          have ba3 := BA.out.others hw3.2.2 (by omega) (by decide)
          have bx3 := BXA.out.others hw3.2.2 (by have := BXA.out.lt; omega) (by decide)
          have f2 := ba3.cell 2
          simp at f2
          have hz3 := wr3.bel.size
          have HC3 := Lib.hid (writeByte_any B b _ 40 w3 wr3.ib (by rw [Lib.byteCells_length]; simp only [List.length_append, List.length_cons, List.length_nil]; omega) (by omega))
          go_wp2_with fail
          refine HC3.out.mono ?_
          rintro e w4 ⟨rfl, hw4⟩
          have wr4 := wr3.trans (Wr.of_wrote (cs := [40]) hw4 rfl)
          have ba4 := ba3.others hw4.2.2 (by omega) (by decide)
          have bx4 := bx3.others hw4.2.2 (by have := BXA.out.lt; omega) (by decide)
          clear f2
          have f0 := ba4.cell 0
          have f1 := ba4.cell 1
          have f2 := ba4.cell 2
          have f3 := bx4.cell 0
          have f4 := bx4.cell 1
          simp at f0 f1 f2 f3 f4
          have hz4 := wr4.bel.size
          have HR := Lib.hid (HIH.out x _ (bs ++ hd ++ tk ++ [32] ++ [40]) B b w4 hxcK (by simp only [List.length_append, List.length_cons, List.length_nil]; omega) (hsc.below wr4.bel hhi) (hix.below wr4.bel (fun b hb => by omega)) hhi hxh wr4.ib)
          generalize x.text s = xt at *
          go_wp2_with fail
          refine HR.out.mono ?_
          rintro e w5 ⟨rfl, hw5⟩
          have wr5 := wr4.trans hw5
          have bx5 := bx4.others hw5.oth (by have := BXA.out.lt; omega) (by decide)
          have hz5 := wr5.bel.size
          have HC5 := Lib.hid (writeByte_any B b _ 41 w5 wr5.ib (by rw [Lib.byteCells_length]; simp only [List.length_append, List.length_cons, List.length_nil]; omega) (by omega))
          go_wp2_with fail
          refine HC5.out.mono ?_
          rintro e w6 ⟨rfl, hw6⟩
          have wr6 := wr5.trans (Wr.of_wrote (cs := [41]) hw6 rfl)
          have bx6 := bx5.others hw6.2.2 (by have := BXA.out.lt; omega) (by decide)
          go_wp2_with fail
          go_roundw
          case rel =>
            refine ⟨k + 1, by omega, by go_num, ?_, bx6⟩
            rw [HTS.out, HA.out]
            have e : bs ++ hd ++ (tk ++ 32 :: 40 :: (xt ++ [41])) = bs ++ hd ++ tk ++ [32] ++ [40] ++ xt ++ [41] := by simp
            rw [e]; exact wr6
          case measure => simp [intOf]; omega
      · have h1 : l.take k = l := List.take_of_length_le (by omega)
        rw [h1] at hwr
        clear h1
        go_wp2_with fail
        go_end0
        refine ⟨rfl, ?_⟩
        rw [HTX.out, ← List.append_assoc]
        exact hwr
end Go.Proofs.YtbbejhhohppdhaaGreatDoor

namespace Go.Proofs.YtbbejhhohppdhaaGreatDoor
open Go.RowKit

theorem pick_head {p : Pl} {k n : Int} {s : S} (hl : p.params.length ≤ 8) (h : p.pick k n = some s) : headOk 8 p.funs.length p.syms.length k n = true := by
  simp only [Pl.pick, pickH] at h
  split at h
  · cases h
  rename_i hn
  simp only [headOk, Bool.and_eq_true, Bool.or_eq_true, decide_eq_true_eq]
  refine ⟨by omega, ?_⟩
  split at h
  · rename_i hk
    have := (List.getElem?_eq_some_iff.1 h).1
    exact .inl ⟨hk, by omega⟩
  split at h
  · rename_i hk
    have := (List.getElem?_eq_some_iff.1 h).1
    exact .inr (.inl ⟨hk, by omega⟩)
  split at h
  · rename_i hk
    have := (List.getElem?_eq_some_iff.1 h).1
    rw [List.length_map] at this
    exact .inr (.inr ⟨hk, by omega⟩)
  · cases h
mutual
theorem T.ty_heads {p : Pl} (hl : p.params.length ≤ 8) : ∀ (t : T) {s : S}, t.ty p.pick = some s → t.heads 8 p.funs.length p.syms.length = true
  | .mk k n l, s, h => by
    simp only [T.ty] at h
    cases hk : p.pick k n with
    | none => rw [hk] at h; cases h
    | some a =>
      rw [hk] at h
      simp only at h
      split at h
      · rename_i hL
        simp only [T.heads, Bool.and_eq_true]
        exact ⟨pick_head hl hk, T.tyL_heads hl l hL⟩
      · cases h
theorem T.tyL_heads {p : Pl} (hl : p.params.length ≤ 8) : ∀ (l : List T) {q : List S}, T.tyL p.pick l q = true → T.headsL 8 p.funs.length p.syms.length l = true
  | [], q, _ => by simp [T.headsL]
  | x :: r, [], h => by simp [T.tyL] at h
  | x :: r, b :: q, h => by
    simp only [T.tyL, Bool.and_eq_true] at h
    simp only [T.headsL, Bool.and_eq_true]
    refine ⟨?_, T.tyL_heads hl r h.2⟩
    cases hx : x.ty p.pick with
    | none => rw [hx] at h; exact absurd h.1 (by simp)
    | some y => exact T.ty_heads hl x hx
end
theorem body_ty {p : Pl} {t : T} (h : bodyB p t = true) : p.ok = true ∧ t.count ≤ 400 ∧ t.deep ≤ 30 ∧ t.ty p.pick = some (.mk []) := by
  simp only [bodyB, Bool.and_eq_true, decide_eq_true_eq] at h
  obtain ⟨h1, h2, h3, h4⟩ := h
  have h5 := h3
  simp only [Pl.sortE] at h3
  split at h3
  · rename_i hok
    split at h3
    · cases h3
    · split at h3
      · rename_i hs
        refine ⟨hok, h1, h2, ?_⟩
        rw [Option.isSome_iff_exists] at hs
        obtain ⟨s, hs⟩ := hs
        simp only [Pl.sortS, if_pos h5, hs, Option.getD_some] at h4
        rw [hs]
        have : s.args = [] := by simpa using h4
        rw [← S.eta s, this]
      · cases h3
  · cases h3
/-- What a valid scheme is. -/
structure Sc.Good (s : Sc) : Prop where
  sy : symsB s.syms = true
  n1 : 1 ≤ s.funs.length
  n64 : s.funs.length ≤ 64
  df : diffFrom [] (s.funs.map fnm) = true
  so : ∀ f ∈ s.funs, f.sort.ok = true
  bd : ∀ f ∈ s.funs, bodyB (s.pl f) f.body = true
  st : s.start = true
theorem Sc.good {s : Sc} (h : s.ok = true) : s.Good := by
  simp only [Sc.ok, Bool.and_eq_true, decide_eq_true_eq] at h
  obtain ⟨h1, h2, h3, h4, h5⟩ := h
  rw [List.all_eq_true] at h5
  obtain ⟨f, hf⟩ : ∃ f, f ∈ s.funs := by
    cases hh : s.funs with
    | nil => rw [hh] at h1; simp at h1
    | cons f r => exact ⟨f, List.mem_cons_self⟩
  have hp := (body_ty (h5 f hf)).1
  have hp2 := hp
  simp only [Pl.ok, Sc.pl, sortsB, Bool.and_eq_true] at hp2
  refine ⟨hp2.1, h1, h2, h3, fun g hg => ?_, h5, h4⟩
  have := hp2.2.1.2
  rw [List.all_eq_true] at this
  exact this g.sort (List.mem_map.2 ⟨g, hg, rfl⟩)
theorem nameB_size {b : ByteArray} (h : nameB b.data.toList = true) : b.size ≤ 24 := by
  simp only [nameB, Bool.and_eq_true, decide_eq_true_eq] at h
  simpa using h.2.1
theorem diff_names : ∀ (l : List (List UInt8)) (seen : List (List UInt8)), diffFrom seen l = true → ∀ x ∈ l, nameB x = true
  | [], _, _, x, h => by cases h
  | y :: r, seen, h, x, hx => by
    simp only [diffFrom, Bool.and_eq_true] at h
    rcases List.mem_cons.1 hx with rfl | hx
    · exact h.1
    · exact diff_names r _ h.2.2 x hx
theorem Sc.Good.sy_all {s : Sc} (h : s.Good) : s.syms.length ≤ 24 ∧ ∀ x ∈ s.syms, nameB (nm x) = true ∧ 0 ≤ x.rank ∧ x.rank ≤ 4 := by
  have h1 := h.sy
  simp only [symsB, Bool.and_eq_true, decide_eq_true_eq] at h1
  rw [syOk_diff] at h1
  simp only [Bool.and_eq_true, List.all_eq_true] at h1
  refine ⟨h1.1, fun x hx => ⟨diff_names _ _ h1.2.1 _ (List.mem_map.2 ⟨x, hx, rfl⟩), ?_⟩⟩
  have := h1.2.2 x hx
  simpa [rankB] using this
theorem Sc.Good.short {s : Sc} (h : s.Good) : s.short :=
  ⟨fun x hx => nameB_size ((h.sy_all).2 x hx).1, fun f hf => nameB_size (diff_names _ _ h.df _ (List.mem_map.2 ⟨f, hf, rfl⟩))⟩
theorem Sc.Good.body {s : Sc} (h : s.Good) {f : Fn} (hf : f ∈ s.funs) : f.body.count ≤ 400 ∧ f.body.heads 8 s.funs.length s.syms.length = true := by
  obtain ⟨h1, h2, _, h4⟩ := body_ty (h.bd f hf)
  obtain ⟨_, _, _, _, h5⟩ := Pl.ok_parts h1
  have := T.ty_heads h5 f.body h4
  refine ⟨h2, ?_⟩
  simpa [Sc.pl, Sc.sorts] using this

/-- The line of a symbol. -/
def symLine (x : Sy) : List UInt8 := [115, 121, 109, 98, 111, 108, 32] ++ nm x ++ [32] ++ Lib.decDigits x.rank.toNat ++ [10]
/-- The line of a function. -/
def funLine (s : Sc) (f : Fn) : List UInt8 := [102, 117, 110, 32] ++ fnm f ++ [32, 58, 32] ++ f.sort.text ++ [32, 61, 32] ++ f.body.text s ++ [10]
def symLines (l : List Sy) : List UInt8 := (l.map symLine).flatten
def funLines (s : Sc) (l : List Fn) : List UInt8 := (l.map (funLine s)).flatten
/-- The string of a scheme. -/
def Sc.text (s : Sc) : List UInt8 := symLines s.syms ++ funLines s s.funs
theorem symLines_succ {l : List Sy} {k : Nat} {x : Sy} (h : l[k]? = some x) : symLines (l.take (k + 1)) = symLines (l.take k) ++ symLine x := by
  simp [symLines, List.take_add_one, h]
theorem funLines_succ {s : Sc} {l : List Fn} {k : Nat} {x : Fn} (h : l[k]? = some x) : funLines s (l.take (k + 1)) = funLines s (l.take k) ++ funLine s x := by
  simp [funLines, List.take_add_one, h]
theorem symLines_length {s : Sc} (h : s.Good) (k : Nat) : (symLines (s.syms.take k)).length ≤ 1000 := by
  obtain ⟨h1, h2⟩ := h.sy_all
  have key : ∀ l : List Sy, (∀ x ∈ l, nameB (nm x) = true ∧ 0 ≤ x.rank ∧ x.rank ≤ 4) → (symLines l).length ≤ 40 * l.length := by
    intro l
    induction l with
    | nil => intro _; simp [symLines]
    | cons x r ih =>
      intro hl
      obtain ⟨g1, g2, g3⟩ := hl x (List.mem_cons_self)
      have := ih (fun y hy => hl y (List.mem_cons_of_mem _ hy))
      have hn : x.name.data.toList.length ≤ 24 := by have := nameB_size g1; simpa using this
      have hd : (Lib.decDigits x.rank.toNat).length = 1 := by rw [dec_one (by omega)]; rfl
      simp only [symLines, List.map_cons, List.flatten_cons, List.length_append, List.length_cons] at this ⊢
      have : (symLine x).length ≤ 40 := by simp only [symLine, nm, List.length_append, List.length_cons, List.length_nil, hd]; omega
      omega
  have := key (s.syms.take k) (fun x hx => h2 x (List.mem_of_mem_take hx))
  rw [List.length_take] at this
  omega
theorem funLine_length {s : Sc} (h : s.Good) {f : Fn} (hf : f ∈ s.funs) : (funLine s f).length ≤ 12000 := by
  obtain ⟨h1, h2⟩ := h.body hf
  have h3 := T.text_length h.short f.body h2
  have h4 := f.sort.text_length
  have h5 := S.ok_count (h.so f hf)
  have hn : f.name.data.toList.length ≤ 24 := by have := h.short.2 f hf; simpa using this
  simp only [funLine, fnm, List.length_append, List.length_cons, List.length_nil]
  omega
theorem funLines_length {s : Sc} (h : s.Good) (k : Nat) : (funLines s (s.funs.take k)).length ≤ 768000 := by
  have key : ∀ l : List Fn, (∀ x ∈ l, x ∈ s.funs) → (funLines s l).length ≤ 12000 * l.length := by
    intro l
    induction l with
    | nil => intro _; simp [funLines]
    | cons x r ih =>
      intro hl
      have := ih (fun y hy => hl y (List.mem_cons_of_mem _ hy))
      have h1 := funLine_length h (hl x (List.mem_cons_self))
      simp only [funLines, List.map_cons, List.flatten_cons, List.length_append, List.length_cons] at this ⊢
      omega
  have := key (s.funs.take k) (fun x hx => List.mem_of_mem_take hx)
  have h64 := h.n64
  rw [List.length_take] at this
  omega
end Go.Proofs.YtbbejhhohppdhaaGreatDoor

namespace Go.Proofs.YtbbejhhohppdhaaGreatDoor
open Go.RowKit

def Sc.putE (s : Sc) : Int := if s.ok = true then (if 65536 < s.text.length then 3 else 0) else 7
/-- What Put returns. -/
def Sc.puts (s : Sc) : List UInt8 := if s.putE = 0 then s.text else []
theorem symLine_str (name : ByteArray) (dg : List UInt8) : Value.string (⟨#[115, 121, 109, 98, 111, 108, 32]⟩ ++ name ++ ⟨#[32]⟩ ++ ⟨dg.toArray⟩ ++ ⟨#[10]⟩) = .string ⟨([115, 121, 109, 98, 111, 108, 32] ++ name.data.toList ++ [32] ++ dg ++ [10]).toArray⟩ := by
  congr 1
theorem funHead_str (name : ByteArray) (tx : List UInt8) : Value.string (⟨#[102, 117, 110, 32]⟩ ++ name ++ ⟨#[32, 58, 32]⟩ ++ ⟨tx.toArray⟩ ++ ⟨#[32, 61, 32]⟩) = .string ⟨([102, 117, 110, 32] ++ name.data.toList ++ [32, 58, 32] ++ tx ++ [32, 61, 32]).toArray⟩ := by
  congr 1

set_option maxRecDepth 100000 in
set_option maxHeartbeats 3200000 in
theorem schemePut_any (s : Sc) (v0 v1 : Value) (w : World) (hi : Nat) (hin : ScIn w hi s v0 v1) (hhi : hi ≤ w.heap.size) :
    Calls Tryz.prog 40 #[.agg #[v0, v1]] w fun e w' => e = .returned (.tuple #[.string ⟨s.puts.toArray⟩, .int .i64 s.putE]) ∧ Below w.heap.size w w' := by
  have k0 := ScKept.start hin hhi
  obtain ⟨⟨A0, n0, c0, rfl⟩, ⟨A1, n1, c1, rfl⟩⟩ := hin.form
  have HC := Lib.hid (schemeCheck_any s _ _ _ hi k0.i (by have := k0.b.lt; omega))
  have d0 := k0.b.cell 0
  have d1 := k0.b.cell 1
  cases hok : s.ok with
  | false =>
    have HE : Hid (s.putE = 7) := Lib.hid (by simp [Sc.putE, hok])
    have HP : Hid (s.puts = []) := Lib.hid (by simp [Sc.puts, Sc.putE, hok])
    rw [hok] at HC
    simp only [schErr] at HC
    clear hok
    go_enter Tryz.func40, Tryz.ntmps40
    go_wp2_with fail
    refine HC.out.mono ?_
    rintro e w1 ⟨rfl, b1⟩
    have k1 := k0.next b1
    go_wp2_with fail
    go_ret2
    exact ⟨by rw [HE.out, HP.out]; rfl, k1.bel⟩
  | true =>
    have G := Sc.good hok
    have HE : Hid (s.putE = if 65536 < s.text.length then 3 else 0) := Lib.hid (by simp [Sc.putE, hok])
    rw [hok] at HC
    simp only [schErr, if_true] at HC
    clear hok
    go_enter Tryz.func40, Tryz.ntmps40
    go_wp2_with fail
    refine HC.out.mono ?_
    rintro e w1 ⟨rfl, b1⟩
    have k1 := k0.next b1
    have hl1 := k1.b.lt
    have hz1 := k1.bel.size
    have bB : Below w1.heap.size w1 (w1.alloc (.cells #[.pointer none, .slice none 0 0] 130)) := (Below.refl _ _).alloc (Nat.le_refl _) _
    have k2 := k1.next bB
    have wr0 : Wr w1.heap.size w1.heap.size [] (w1.alloc (.cells #[.pointer none, .slice none 0 0] 130)) (w1.alloc (.cells #[.pointer none, .slice none 0 0] 130)) := Wr.start (Lib.fresh_isBuilder 130 5 w1)
    have hszB : (w1.alloc (.cells #[.pointer none, .slice none 0 0] 130)).heap.size = w1.heap.size + 1 := by simp
    have e0 := k2.b.cell 0
    have e1 := k2.b.cell 1
    simp at e0 e1
    have BB := Lib.hid bB
    go_wp2_with fail
    generalize w1.alloc (.cells #[.pointer none, .slice none 0 0] 130) = wB at *
    obtain ⟨A, _, c, us, he, hl, hnc, hc, hrd, hrow⟩ := k2.i.fn
    injection he with g1 g2 g3
    subst g1 g2 g3 hl
    obtain ⟨A', _, c', he, hl, hnc', hc', hrd', hsz'⟩ := k2.i.sy
    injection he with g1 g2 g3
    subst g1 g2 g3 hl
    have KB := Lib.hid k2
    have WR0 := Lib.hid wr0
    clear k0 k1 b1 HC d0 d1 bB k2 wr0
    go_loopw [20] (fun i wr => ∃ k : Nat, k ≤ s.syms.length ∧ i = .int .i64 k ∧ Wr w1.heap.size w1.heap.size (symLines (s.syms.take k)) wB wr) (fun i _ => s.syms.length - (intOf i).toNat)
    case atStart => exact ⟨0, Nat.zero_le _, rfl, by simpa [symLines] using WR0.out⟩
    case round =>
      obtain ⟨k, hk, rfl, hwr⟩ := hrel
      have hsz := hwr.bel.size
      by_cases hlt : k < s.syms.length
      · have hx : s.syms[k]? = some s.syms[k] := List.getElem?_eq_getElem hlt
        obtain ⟨ad, rfl, hPa, hel⟩ := sy_el hrd' hx
        obtain ⟨r0, r1⟩ := hel.keep (hwr.bel.block _ (by omega))
        obtain ⟨hs1, hs2⟩ := G.sy_all
        have hsx := hs2 s.syms[k] (List.getElem_mem hlt)
        have hns := G.short.1 s.syms[k] (List.getElem_mem hlt)
        have hts := symLines_succ hx
        have hlen := symLines_length G k
        generalize symLines (s.syms.take k) = tk at *
        generalize s.syms[k] = x at *
        obtain ⟨name, rank⟩ := x
        simp only at *
        obtain ⟨r, rfl⟩ : ∃ r : Nat, rank = (r : Int) := ⟨rank.toNat, by omega⟩
        have hd := dec_one (m := r) (by omega)
        have hdl : (Lib.decDigits r).length ≤ 1 := by rw [hd]; simp
        have HI := Lib.hid (fun W => Tryz.strconv_Itoa_small r (by omega) W)
        have hwa : Wr w1.heap.size w1.heap.size tk wB (wr.alloc (.cells #[.string name, .int .i64 (r : Int)] 98)) := hwr.quiet ((Below.refl _ _).alloc (Nat.le_refl _) _)
        have hba := Blk.new wr 98 #[.string name, .int .i64 (r : Int)]
        have hlb := isBuilder_lt hwr.ib
        have hza := hwa.bel.size
        have HT : Hid (symLines (s.syms.take (k + 1)) = tk ++ ([115, 121, 109, 98, 111, 108, 32] ++ name.data.toList ++ [32] ++ Lib.decDigits r ++ [10])) := Lib.hid (by rw [hts]; simp [symLine, nm])
        have hnl : name.data.toList.length ≤ 24 := by simpa using hns
        generalize Lib.decDigits r = dg at *
        have HW := Lib.hid (writeString_any w1.heap.size w1.heap.size _ ⟨([115, 121, 109, 98, 111, 108, 32] ++ name.data.toList ++ [32] ++ dg ++ [10]).toArray⟩ (wr.alloc (.cells #[.string name, .int .i64 (r : Int)] 98)).drew (isBuilder_kept hwa.ib ((Below.refl _ _).drew)) (by rw [Lib.byteCells_length]; show tk.length + ([115, 121, 109, 98, 111, 108, 32] ++ name.data.toList ++ [32] ++ dg ++ [10]).length ≤ _; simp only [List.length_append, List.length_cons, List.length_nil]; omega) (by show _ ≤ (wr.alloc (.cells #[.string name, .int .i64 (r : Int)] 98)).heap.size; omega))
        have hbd : Blk (wr.alloc (.cells #[.string name, .int .i64 (r : Int)] 98)).drew wr.heap.size 98 #[.string name, .int .i64 (r : Int)] := hba.drew
        have HWA := Lib.hid hwa
        have p0 := hba.cell 0
        have p1 := hba.cell 1
        simp at p0 p1
        have hA1 : ¬ 9223372036854775807 < 7 + name.size := by omega
        have hA2 : ¬ 9223372036854775807 < 7 + name.size + 1 := by omega
        have hA3 : ¬ 9223372036854775807 < 7 + name.size + 1 + dg.length := by omega
        have hA4 : ¬ 9223372036854775807 < 7 + name.size + 1 + dg.length + 1 := by omega
        clear hx hel hts hd hwa hba hwr hsx
        go_wp2_with fail
        go_region_held3 (fun w' => w'.cell? ⟨wr.heap.size, 0, none⟩ = some (.string name) ∧ w'.cell? ⟨wr.heap.size, 1, none⟩ = some (.int .i64 (r : Int))) (first | go_keep | assumption)
          (first
            | (go_at_call 84
               refine (HI.out _).mono ?_
               rintro e w3 ⟨rfl, rfl⟩)
            | (go_at_call 83
               rw [symLine_str name dg]
               refine HW.out.mono ?_
               rintro e w3 ⟨rfl, hw3⟩
               have hb3 := hbd.others hw3.2.2 (by omega) (by decide)
               have q0 := hb3.cell 0
               have q1 := hb3.cell 1
               simp at q0 q1
               have Q : w3.cell? ⟨wr.heap.size, 0, none⟩ = some (.string name) ∧ w3.cell? ⟨wr.heap.size, 1, none⟩ = some (.int .i64 (r : Int)) := ⟨q0, q1⟩))
        go_wp2_with fail
        go_roundw
        case rel =>
          refine ⟨k + 1, by omega, by go_num, ?_⟩
          rw [HT.out]
          exact (HWA.out.quiet ((Below.refl _ _).drew)).trans (Wr.of_wrote hw3 rfl)
        case measure => simp [intOf]; omega
      · have h1 : s.syms.take k = s.syms := List.take_of_length_le (by omega)
        rw [h1] at hwr
        have WRS := Lib.hid hwr
        have q0 := (KB.out.b.below hwr.bel hl1).cell 1
        simp at q0
        have hslen := symLines_length G s.syms.length
        rw [List.take_length] at hslen
        clear h1 hwr
        go_wp2_with fail
        generalize hsl : symLines s.syms = sl at *
        have HSL := Lib.hid hsl
        clear hsl
        go_loopw [38] (fun i wr => ∃ k : Nat, k ≤ s.funs.length ∧ i = .int .i64 k ∧ Wr w1.heap.size w1.heap.size (sl ++ funLines s (s.funs.take k)) wB wr) (fun i _ => s.funs.length - (intOf i).toNat)
        case atStart => exact ⟨0, Nat.zero_le _, rfl, by simpa [funLines] using WRS.out⟩
        case round =>
          obtain ⟨k, hk, rfl, hwr⟩ := hrel
          have hsz := hwr.bel.size
          by_cases hlt : k < s.funs.length
          · have hx : s.funs[k]? = some s.funs[k] := List.getElem?_eq_getElem hlt
            obtain ⟨ad, u, v, rfl, hPa, hel, hsu, hbv, _⟩ := fn_el hrd hrow hx
            obtain ⟨r0, r1, r2, r3, r4⟩ := hel.keep (hwr.bel.block _ (by omega))
            have hmem := List.getElem_mem hlt
            have hns := G.short.2 s.funs[k] hmem
            have hso := G.so s.funs[k] hmem
            obtain ⟨hbc, hbh⟩ := G.body hmem
            have hts := @funLines_succ s s.funs k s.funs[k] hx
            have hfl := funLine_length G hmem
            have hlen := funLines_length G k
            generalize funLines s (s.funs.take k) = tk at *
            obtain ⟨A2, n2, c2, rfl⟩ := hsu.form
            obtain ⟨A3, n3, c3, rfl⟩ := hbv.form
            generalize s.funs[k] = x at *
            obtain ⟨name, sort, body⟩ := x
            simp only at r0 r1 r2 r3 r4 hns hso hbc hbh hsu hbv
            have hwa : Wr w1.heap.size w1.heap.size (sl ++ tk) wB (wr.alloc (.cells #[.string name, .slice A2 n2 c2, .int .i64 body.kind, .int .i64 body.num, .slice A3 n3 c3] 64)) := hwr.quiet ((Below.refl _ _).alloc (Nat.le_refl _) _)
            have hba := Blk.new wr 64 #[.string name, .slice A2 n2 c2, .int .i64 body.kind, .int .i64 body.num, .slice A3 n3 c3]
            have hlb := isBuilder_lt hwr.ib
            have hza := hwa.bel.size
            have hsp : sort.puts = sort.text := by simp [S.puts, hso]
            have HPT := Lib.hid (put_any sort (.slice A2 n2 c2) _ 0 hi (hsu.below hwa.bel (by omega)) (by omega))
            rw [hso, hsp] at HPT
            simp only [errOf, if_true] at HPT
            have hnl : name.data.toList.length ≤ 24 := by simpa using hns
            have htl := sort.text_length
            have hsc := S.ok_count hso
            have HT : Hid (funLines s (s.funs.take (k + 1)) = tk ++ ([102, 117, 110, 32] ++ name.data.toList ++ [32, 58, 32] ++ sort.text ++ [32, 61, 32]) ++ body.text s ++ [10]) := Lib.hid (by rw [hts]; simp [funLine, fnm])
            have hfl2 : name.data.toList.length + sort.text.length + (body.text s).length ≤ 12000 := by
              simp only [funLine, fnm, List.length_append] at hfl
              omega
            have HWA := Lib.hid hwa
            have HBA := Lib.hid hba
            have p1 := hba.cell 1
            simp at p1
            clear hx hel hts hfl hwa hba hwr hsp
            generalize sort.text = st at *
            go_wp2_with fail
            refine HPT.out.mono ?_
            rintro e w3 ⟨rfl, b3⟩
            have wr3 := HWA.out.quiet b3
            have ba3 := HBA.out.below b3 HBA.out.lt
            have hz3 := wr3.bel.size
            have f0 := ba3.cell 0
            simp at f0
            have hA1 : ¬ 9223372036854775807 < 4 + name.size := by omega
            have hA2 : ¬ 9223372036854775807 < 4 + name.size + 3 := by omega
            have hA3 : ¬ 9223372036854775807 < 4 + name.size + 3 + st.length := by omega
            have hA4 : ¬ 9223372036854775807 < 4 + name.size + 3 + st.length + 3 := by omega
            have HW3 := Lib.hid (writeString_any w1.heap.size w1.heap.size _ ⟨([102, 117, 110, 32] ++ name.data.toList ++ [32, 58, 32] ++ st ++ [32, 61, 32]).toArray⟩ w3 wr3.ib (by rw [Lib.byteCells_length]; show (sl ++ tk).length + ([102, 117, 110, 32] ++ name.data.toList ++ [32, 58, 32] ++ st ++ [32, 61, 32]).length ≤ _; simp only [List.length_append, List.length_cons, List.length_nil]; omega) (by omega))
            go_wp2_with fail
            rw [funHead_str name st]
            refine HW3.out.mono ?_
            rintro e w4 ⟨rfl, hw4⟩
            have wr4 := wr3.trans (Wr.of_wrote hw4 (strCells_list _))
            have ba4 := ba3.others hw4.2.2 (by omega) (by decide)
            have hz4 := wr4.bel.size
            have kb4 := KB.out.b.below wr4.bel hl1
            have g0 := kb4.cell 0
            have g1 := kb4.cell 1
            have g2 := ba4.cell 2
            have g3 := ba4.cell 3
            have g4 := ba4.cell 4
            simp at g0 g1 g2 g3 g4
            have HR := Lib.hid (schemeWrite_any s G.short _ _ hi 400 body (.slice A3 n3 c3) _ w1.heap.size w1.heap.size w4 hbc (by simp only [List.length_append, List.length_cons, List.length_nil]; omega) (KB.out.i.below wr4.bel (by omega)) (hbv.below wr4.bel (fun b hb => by omega)) (by omega) hbh wr4.ib)
            generalize body.text s = xt at *
            go_wp2_with fail
            refine HR.out.mono ?_
            rintro e w5 ⟨rfl, hw5⟩
            have wr5 := wr4.trans hw5
            have hz5 := wr5.bel.size
            have HW5 := Lib.hid (writeString_any w1.heap.size w1.heap.size _ ⟨#[10]⟩ w5 wr5.ib (by rw [Lib.byteCells_length]; show _ + 1 ≤ _; simp only [List.length_append, List.length_cons, List.length_nil]; omega) (by omega))
            go_wp2_with fail
            refine HW5.out.mono ?_
            rintro e w6 ⟨rfl, hw6⟩
            have wr6 := wr5.trans (Wr.of_wrote (cs := [10]) hw6 rfl)
            go_wp2_with fail
            go_roundw
            case rel =>
              refine ⟨k + 1, by omega, by go_num, ?_⟩
              rw [HT.out]
              have e : sl ++ (tk ++ ([102, 117, 110, 32] ++ name.data.toList ++ [32, 58, 32] ++ st ++ [32, 61, 32]) ++ xt ++ [10]) = sl ++ tk ++ ([102, 117, 110, 32] ++ name.data.toList ++ [32, 58, 32] ++ st ++ [32, 61, 32]) ++ xt ++ [10] := by simp
              rw [e]; exact wr6
            case measure => simp [intOf]; omega
          · have h1 : s.funs.take k = s.funs := List.take_of_length_le (by omega)
            rw [h1] at hwr
            have htx : sl ++ funLines s s.funs = s.text := by rw [Sc.text, HSL.out]
            rw [htx] at hwr
            have HPU : Hid (s.putE = 0 → s.puts = s.text) := Lib.hid (fun h => by rw [Sc.puts, if_pos h])
            have HPN : Hid (s.putE ≠ 0 → s.puts = []) := Lib.hid (fun h => by rw [Sc.puts, if_neg h])
            have HL := Lib.hid (Tryz.Builder_Len w1.heap.size w1.heap.size _ wr hwr.ib)
            rw [Lib.byteCells_length] at HL
            have hz5 := hwr.bel.size
            have HS := Lib.hid (Tryz.Builder_String_any w1.heap.size w1.heap.size s.text wr hwr.ib (by omega))
            have bel := KB.out.bel.trans (hwr.bel.mono (by omega))
            generalize s.text = tx at *
            clear h1 htx hwr
            by_cases h65 : 65536 < tx.length
            · have hE3 : s.putE = 3 := by rw [HE.out, if_pos h65]
              have g65 : decide (65536 < (tx.length : Int)) = true := decide_eq_true (by omega)
              go_wp2_with fail
              refine HL.out.mono ?_
              rintro e w6 ⟨rfl, rfl⟩
              go_wp2_with fail
              go_ret2
              exact ⟨by rw [HPN.out (by rw [hE3]; decide), hE3]; rfl, bel⟩
            · have hE3 : s.putE = 0 := by rw [HE.out, if_neg h65]
              have g65 : decide (65536 < (tx.length : Int)) = false := decide_eq_false (by omega)
              go_wp2_with fail
              refine HL.out.mono ?_
              rintro e w6 ⟨rfl, rfl⟩
              go_wp2_with fail
              refine HS.out.mono ?_
              rintro e w7 ⟨rfl, b7⟩
              go_wp2_with fail
              go_ret2
              exact ⟨by rw [HPU.out hE3, hE3]; rfl, bel.trans (b7.mono (by omega))⟩
end Go.Proofs.YtbbejhhohppdhaaGreatDoor

namespace Go.Proofs.YtbbejhhohppdhaaGreatDoor
open Go.RowKit

/-- The greatest order of some functions' sorts. -/
def ordF : List Fn → Nat
  | [] => 0
  | f :: r => max f.sort.ord (ordF r)
theorem ordF_append : ∀ (l m : List Fn), ordF (l ++ m) = max (ordF l) (ordF m)
  | [], m => by simp [ordF]
  | x :: r, m => by simp only [List.cons_append, ordF, ordF_append r m, Nat.max_assoc]
theorem ordF_succ {l : List Fn} {k : Nat} {x : Fn} (h : l[k]? = some x) : ordF (l.take (k + 1)) = max (ordF (l.take k)) x.sort.ord := by
  rw [List.take_add_one, h, ordF_append]
  simp [ordF]
def Sc.orders (s : Sc) : Int × Int := if s.ok = true then ((ordF s.funs : Int), 0) else (0, 7)
theorem ordF_small {s : Sc} (h : s.Good) (k : Nat) : ordF (s.funs.take k) ≤ 60 := by
  have key : ∀ l : List Fn, (∀ x ∈ l, x.sort.ok = true) → ordF l ≤ 60 := by
    intro l
    induction l with
    | nil => intro _; simp [ordF]
    | cons x r ih =>
      intro hl
      have h1 := ih (fun y hy => hl y (List.mem_cons_of_mem _ hy))
      have h2 := S.ok_count (hl x (List.mem_cons_self))
      have h3 := S.ord_lt x.sort
      have h4 := S.deep_le x.sort
      simp only [ordF]
      omega
  exact key _ (fun x hx => h.so x (List.mem_of_mem_take hx))

set_option maxRecDepth 100000 in
set_option maxHeartbeats 1600000 in
theorem schemeOrder_any (s : Sc) (v0 v1 : Value) (w : World) (hi : Nat) (hin : ScIn w hi s v0 v1) (hhi : hi ≤ w.heap.size) :
    Calls Tryz.prog 41 #[.agg #[v0, v1]] w fun e w' => e = .returned (.tuple #[.int .i64 s.orders.1, .int .i64 s.orders.2]) ∧ Below w.heap.size w w' := by
  have k0 := ScKept.start hin hhi
  obtain ⟨⟨A0, n0, c0, rfl⟩, ⟨A1, n1, c1, rfl⟩⟩ := hin.form
  have HC := Lib.hid (schemeCheck_any s _ _ _ hi k0.i (by have := k0.b.lt; omega))
  have d0 := k0.b.cell 0
  have d1 := k0.b.cell 1
  cases hok : s.ok with
  | false =>
    have HO : Hid (s.orders = (0, 7)) := Lib.hid (by simp [Sc.orders, hok])
    rw [hok] at HC
    simp only [schErr] at HC
    clear hok
    go_enter Tryz.func41, Tryz.ntmps41
    go_wp2_with fail
    refine HC.out.mono ?_
    rintro e w1 ⟨rfl, b1⟩
    have k1 := k0.next b1
    go_wp2_with fail
    go_ret2
    exact ⟨by rw [HO.out]; rfl, k1.bel⟩
  | true =>
    have G := Sc.good hok
    have HO : Hid (s.orders = ((ordF s.funs : Int), 0)) := Lib.hid (by simp [Sc.orders, hok])
    rw [hok] at HC
    simp only [schErr, if_true] at HC
    clear hok
    go_enter Tryz.func41, Tryz.ntmps41
    go_wp2_with fail
    refine HC.out.mono ?_
    rintro e w1 ⟨rfl, b1⟩
    have k1 := k0.next b1
    have hl1 := k1.b.lt
    have hz1 := k1.bel.size
    have e1 := k1.b.cell 1
    simp at e1
    obtain ⟨A, _, c, us, he, hl, hnc, hc, hrd, hrow⟩ := k1.i.fn
    injection he with g1 g2 g3
    subst g1 g2 g3 hl
    have K1 := Lib.hid k1
    clear k0 b1 HC d0 d1 k1
    go_wp2_with fail
    go_loopw [5, 18] (fun m i wr => ∃ k : Nat, k ≤ s.funs.length ∧ i = .int .i64 k ∧ (∃ q : Nat, m = .int .i64 (q : Int) ∧ q = ordF (s.funs.take k)) ∧ Below w1.heap.size w1 wr) (fun _ i _ => s.funs.length - (intOf i).toNat)
    case atStart => exact ⟨0, Nat.zero_le _, rfl, ⟨0, rfl, by simp [ordF]⟩, Below.refl _ _⟩
    case round =>
      obtain ⟨k, hk, rfl, ⟨q, rfl, hq⟩, hbel⟩ := hrel
      have hsz := hbel.size
      by_cases hlt : k < s.funs.length
      · have hx : s.funs[k]? = some s.funs[k] := List.getElem?_eq_getElem hlt
        obtain ⟨ad, u, v, rfl, hPa, hel, hsu, hbv, _⟩ := fn_el hrd hrow hx
        obtain ⟨r0, r1, r2, r3, r4⟩ := hel.keep (hbel.block _ (by omega))
        have hso := G.so s.funs[k] (List.getElem_mem hlt)
        have hts := ordF_succ hx
        have hsm := ordF_small G k
        rw [← hq] at hts hsm
        obtain ⟨A2, n2, c2, rfl⟩ := hsu.form
        obtain ⟨A3, n3, c3, rfl⟩ := hbv.form
        generalize s.funs[k] = x at *
        obtain ⟨name, sort, body⟩ := x
        simp only at r0 r1 r2 r3 r4 hso hsu hts
        have bz : Below wr.heap.size wr (wr.alloc (.cells #[.string name, .slice A2 n2 c2, .int .i64 body.kind, .int .i64 body.num, .slice A3 n3 c3] 64)) := (Below.refl _ _).alloc (Nat.le_refl _) _
        have hba := Blk.new wr 64 #[.string name, .slice A2 n2 c2, .int .i64 body.kind, .int .i64 body.num, .slice A3 n3 c3]
        have p1 := hba.cell 1
        simp at p1
        have HOR := Lib.hid (Order_any sort (.slice A2 n2 c2) _ 0 hi (hsu.below (hbel.trans (bz.mono (by omega))) (by omega)) (by simp; omega))
        have hor : sort.orders = ((sort.ord : Int), 0) := by simp [S.orders, hso]
        rw [hor] at HOR
        simp only at HOR
        have hsmall : sort.ord ≤ 60 := by
          have h2 := S.ok_count hso
          have h3 := S.ord_lt sort
          have h4 := S.deep_le sort
          omega
        have HT := Lib.hid hts
        clear hx hel hts hsu hbv hba hso hor
        generalize sort.ord = o at *
        go_wp2_with fail
        refine HOR.out.mono ?_
        rintro e w3 ⟨rfl, b3⟩
        simp only [World.size_alloc] at b3
        go_wp2_with fail
        go_roundw
        case rel => exact ⟨k + 1, by omega, by go_num, ⟨max q o, by congr 1; omega, HT.out.symm⟩, (hbel.trans (bz.mono (by omega))).trans (b3.mono (by omega))⟩
        case measure => simp [intOf]; omega
      · have h1 : s.funs.take k = s.funs := List.take_of_length_le (by omega)
        rw [h1] at hq
        clear h1
        go_wp2_with fail
        go_ret2
        exact ⟨by rw [HO.out, ← hq]; rfl, K1.out.bel.trans (hbel.mono (by omega))⟩
end Go.Proofs.YtbbejhhohppdhaaGreatDoor
