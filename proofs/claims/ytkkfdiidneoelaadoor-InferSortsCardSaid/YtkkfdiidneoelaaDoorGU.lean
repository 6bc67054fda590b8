/-
  Functions of schemes that a call has made, in memory of its own.
  slices.Clone of symbols, and infer.Scheme: contracts.
  The statements' turn: it writes numbers into the arrays of the list that it is handed, and nowhere else.
-/
import Derived.Test.YtkkfdiidneoelaaDoorGH
import Derived.Test.YtkkfdiidneoelaaDoorGB
import Derived.Test.YtkkfdiidneoelaaDoorGD
import Derived.Test.YtkkfdiidneoelaaDoorGR
import Derived.Test.YtkkfdiidneoelaaDoorGI
import Derived.Test.YtkkfdiidneoelaaDoorGE
import Derived.Deep.RegionLaw
import Derived.Laws.OwnMore
namespace Go.Proofs.YtkkfdiidneoelaaDoor
open Go.RowKit

theorem sep_len {w : World} {P : Nat → Prop} : ∀ (s : S) {u : Value} {fp : List Nat}, s.Sep w u fp → (∀ k ∈ fp, P k) → (∀ k, P k → k < w.heap.size) → s.In w 0 w.heap.size u :=
  fun _ _ _ h h1 h2 => h.in_ _ (fun k hk => ⟨Nat.zero_le _, h2 k (h1 k hk)⟩)
/-- The cells of functions that the reader has made; what they hold lies in blocks of P. -/
def FnMk (w : World) (P : Nat → Prop) : List Fn → List Value → Prop
  | [], us => us = []
  | f :: r, us => ∃ u v fp ut, us = .string f.name :: u :: .int .i64 f.body.kind :: .int .i64 f.body.num :: v :: ut ∧ f.sort.Sep w u fp ∧ fp.Nodup ∧ (∀ k ∈ fp, P k) ∧ f.body.NIn w P v ∧ f.name.size ≤ maxLen ∧ FnMk w P r ut
theorem FnMk.keep {w w' : World} {P : Nat → Prop} (hb : ∀ b, P b → w'.heap[b]? = w.heap[b]?) : ∀ (l : List Fn) {us : List Value}, FnMk w P l us → FnMk w' P l us
  | [], us, h => by simpa [FnMk] using h
  | f :: r, us, h => by
    simp only [FnMk] at h ⊢
    obtain ⟨u, v, fp, ut, h1, h2, h3, h4, h5, h6, h7⟩ := h
    exact ⟨u, v, fp, ut, h1, h2.keep _ (fun b hh => hb b (h4 b hh)), h3, h4, h5.keep hb _, h6, FnMk.keep hb r h7⟩
theorem FnMk.more {w : World} {P Q : Nat → Prop} (hb : ∀ b, P b → Q b) : ∀ (l : List Fn) {us : List Value}, FnMk w P l us → FnMk w Q l us
  | [], us, h => by simpa [FnMk] using h
  | f :: r, us, h => by
    simp only [FnMk] at h ⊢
    obtain ⟨u, v, fp, ut, h1, h2, h3, h4, h5, h6, h7⟩ := h
    exact ⟨u, v, fp, ut, h1, h2, h3, fun b hh => hb b (h4 b hh), h5.more hb _, h6, FnMk.more hb r h7⟩
theorem FnMk.row {w : World} {P : Nat → Prop} (hP : ∀ b, P b → b < w.heap.size) : ∀ (l : List Fn) {us : List Value}, FnMk w P l us → FnRow w w.heap.size l us
  | [], us, h => by simpa [FnMk, FnRow] using h
  | f :: r, us, h => by
    simp only [FnMk] at h
    obtain ⟨u, v, fp, ut, h1, h2, h3, h4, h5, h6, h7⟩ := h
    simp only [FnRow]
    exact ⟨u, v, ut, h1, sep_len _ h2 h4 hP, (T.NIn.in_ _ h5).more hP _, h6, FnMk.row hP r h7⟩
theorem FnMk.snoc {w : World} {P : Nat → Prop} {f : Fn} {u v : Value} {fp : List Nat} (hs : f.sort.Sep w u fp) (hn : fp.Nodup) (hp : ∀ k ∈ fp, P k) (ht : f.body.NIn w P v) (hl : f.name.size ≤ maxLen) : ∀ {l : List Fn} {us : List Value}, FnMk w P l us →
    FnMk w P (l ++ [f]) (us ++ [.string f.name, u, .int .i64 f.body.kind, .int .i64 f.body.num, v])
  | [], us, h => by
    simp only [FnMk] at h
    subst h
    simp only [List.nil_append, FnMk]
    exact ⟨u, v, fp, [], rfl, hs, hn, hp, ht, hl, rfl⟩
  | g :: r, us, h => by
    simp only [FnMk] at h
    obtain ⟨u', v', fp', ut, rfl, h2, h3, h4, h5, h6, h7⟩ := h
    simp only [List.cons_append, FnMk]
    exact ⟨u', v', fp', _, rfl, h2, h3, h4, h5, h6, h7.snoc hs hn hp ht hl⟩
/-- A function with another body. -/
def Fn.withBody (f : Fn) (x : T) : Fn := ⟨f.name, f.sort, x⟩
theorem FnMk.put {w : World} {P : Nat → Prop} {x : T} {v : Value} (ht : x.NIn w P v) : ∀ {l : List Fn} {us : List Value}, FnMk w P l us → ∀ {k : Nat} {f : Fn}, l[k]? = some f →
    FnMk w P (l.set k (f.withBody x)) (((us.set (k * 5 + 2) (.int .i64 x.kind)).set (k * 5 + 3) (.int .i64 x.num)).set (k * 5 + 4) v)
  | [], us, h, k, f, hx => by simp at hx
  | g :: r, us, h, k, f, hx => by
    simp only [FnMk] at h
    obtain ⟨u', v', fp', ut, rfl, h2, h3, h4, h5, h6, h7⟩ := h
    cases k with
    | zero =>
      simp at hx
      subst hx
      simp only [List.set_cons_zero, FnMk]
      exact ⟨u', v, fp', ut, rfl, h2, h3, h4, ht, h6, h7⟩
    | succ k =>
      simp at hx
      have := h7.put ht hx
      rw [show (k + 1) * 5 + 2 = k * 5 + 2 + 1 + 1 + 1 + 1 + 1 from by omega, show (k + 1) * 5 + 3 = k * 5 + 3 + 1 + 1 + 1 + 1 + 1 from by omega, show (k + 1) * 5 + 4 = k * 5 + 4 + 1 + 1 + 1 + 1 + 1 from by omega]
      simp only [List.set_cons_succ, FnMk]
      exact ⟨u', v', fp', _, rfl, h2, h3, h4, h5, h6, this⟩
end Go.Proofs.YtkkfdiidneoelaaDoor

namespace Go.Proofs.YtkkfdiidneoelaaDoor
open Go.RowKit

theorem syI_info : (Tryd.prog.info? 57).map (fun i => (i.zero, i.size, i.bytes)) = some (some (.agg #[.string ⟨#[]⟩, .int .i64 0]), 2, 24) := by kernel_rfl
theorem syI_one : ∀ (l : List Sy), ∀ u ∈ syCells l, u.oneCell' = true
  | [], u, h => by simp [syCells] at h
  | x :: r, u, h => by
    simp only [syCells, List.mem_cons] at h
    rcases h with rfl | rfl | h
    · rfl
    · rfl
    · exact syI_one r u h
theorem syI_length : ∀ (l : List Sy), (syCells l).length = l.length * 2
  | [] => rfl
  | x :: r => by simp only [syCells, List.length_cons, syI_length r]; omega
/-- A copy of symbols, in an array of its own. -/
def CloneSy (l : List Sy) (w : World) (e : Ending) (w' : World) : Prop :=
  ∃ v, e = .returned v ∧ w'.ownsRow w.heap.size 57 2 v l.length (syCells l) ∧ Below w.heap.size w w'
set_option maxHeartbeats 1600000 in
theorem cloneSy_any (l : List Sy) (v : Value) (w : World) (hi : Nat) (hin : SyIn w (fun b => b < hi) l v) (hlen : l.length ≤ 1000) :
    Calls Tryd.prog 48 #[v] w (CloneSy l w) := by
  obtain ⟨i0, hi0, hz0, hz1, hz2⟩ := info_parts syI_info
  obtain ⟨A, n, c, rfl, hn, hnc, hc, hrd, hnm⟩ := hin
  have hs := syI_length l
  cases A with
  | none =>
    have h0 : l = [] := by
      rcases hrd with e | ⟨ad, e, _⟩
      · rw [e] at hs
        exact List.eq_nil_of_length_eq_zero (by simp at hs; omega)
      · cases e
    subst h0
    clear hrd hnm hs
    go_enter Tryd.func48, Tryd.ntmps48
    have q : ∀ (w : World), (binOp .eql 22 (.slice none n c) (.slice none 0 0)).run Tryd.prog w = .ok (.bool true) w := fun w => Lib.run_eql_slice_nil w _ _ none n c 0 0 Tryd.underlying22
    go_wp2_with fail
    go_ret
    exact ⟨_, rfl, by simpa [syCells] using World.ownsRow_nil _ _ _ _, Below.refl _ _⟩
  | some ad =>
    have hcell : ∀ j u, (syCells l)[j]? = some u → w.cell? (ad.add j) = some u := by
      rcases hrd with e | ⟨ad', e, _, h⟩
      · intro j u hu; rw [e] at hu; simp at hu
      · injection e with e; subst e; exact h
    have H1 := Lib.hid (syI_one l)
    have HCE := Lib.hid hcell
    have HS := Lib.hid hs
    have HN := Lib.hid hn
    have HZ1 := Lib.hid hz1
    have HZ2 := Lib.hid hz2
    clear hrd hnm hs hcell hn hz1 hz2
    have q : ∀ (w : World), (binOp .eql 22 (.slice (some ad) n c) (.slice none 0 0)).run Tryd.prog w = .ok (.bool false) w := fun w => Lib.run_eql_slice_nil w _ _ (some ad) n c 0 0 Tryd.underlying22
    go_enter Tryd.func48, Tryd.ntmps48
    go_wp2_with
      (at_builtin
       refine wpList_append_own _ rfl _ _ 22 rfl w.heap.size 57 i0 (.agg #[.string ⟨#[]⟩, .int .i64 0]) 2 24 Tryd.underlying22 hi0 hz0 HZ1.out HZ2.out rfl (by omega) _ _ _ rfl (World.ownsRow_made w #[] 0 (Nat.le_refl _) (Nat.zero_le _) (by simp)) ad n c (syCells l) rfl ?qc1 ?qc2 ?qc3 ?qc4 ?qc5 ?qc6 ?_
       case qc1 => rw [HS.out, HN.out]
       case qc2 =>
         intro j u hj
         exact Lib.cell?_alloc_some _ (HCE.out j u hj)
       case qc3 => exact H1.out
       case qc4 => have := HN.out; unfold maxLen; omega
       case qc5 => have := HN.out; omega
       case qc6 => simp
       intro v' w1 hown hgrow hnil)
    go_wp2_with fail
    go_ret
    refine ⟨v', rfl, by rw [HN.out]; simpa using hown, ((Below.refl _ w).alloc (Nat.le_refl _) _).grown hgrow (by simp) (by intro k hk; injection hk with hk; exact Nat.le_of_eq hk)⟩

/-- What the loop of Scheme has made: symbols, functions, the box of both. -/
structure RdI (B B1 b8 : Nat) (sy : List Sy) (fs : List Fn) (v0 v1 : Value) (us : List Value) (w : World) : Prop where
  osy : w.ownsRow B1 57 2 v0 sy.length (syCells sy)
  ofn : w.ownsRow B1 46 5 v1 fs.length us
  row : FnMk w (fun b => B ≤ b ∧ b < w.heap.size ∧ b ≠ b8 ∧ v0.ownBlock ≠ some b ∧ v1.ownBlock ≠ some b) fs us
  box : Blk w b8 38 #[v0, v1]
  hb : B ≤ B1 ∧ B1 ≤ b8
section
variable {B B1 b8 : Nat} {sy : List Sy} {fs : List Fn} {v0 v1 : Value} {us : List Value} {w w' : World}
theorem RdI.below (h : RdI B B1 b8 sy fs v0 v1 us w) (hb : Below w.heap.size w w') : RdI B B1 b8 sy fs v0 v1 us w' :=
  ⟨owns_kept3 h.osy fun b hh => hb.block b (h.osy.lt b hh).2, owns_kept3 h.ofn fun b hh => hb.block b (h.ofn.lt b hh).2,
    (h.row.keep (w' := w') (fun b hh => hb.block b hh.2.1) fs).more (fun _ hh => ⟨hh.1, Nat.lt_of_lt_of_le hh.2.1 hb.size, hh.2.2⟩) fs, h.box.below hb h.box.lt, h.hb⟩
theorem RdI.next {W w2 : World} {x : Fn} {u v : Value} {fp : List Nat} {o : Obj} {gg cap : Nat} (h : RdI B B1 b8 sy fs v0 v1 us w) (hbb : Below w.heap.size w W)
    (hs : x.sort.Sep W u fp) (hnd : fp.Nodup) (hfp : ∀ b ∈ fp, B ≤ b ∧ b < B1) (hbd : x.body.NIn W (fun b => w.heap.size ≤ b ∧ b < W.heap.size) v) (hn : x.name.size ≤ maxLen)
    (hown : w2.ownsRow B1 46 5 (.slice (some ⟨gg, 0, none⟩) (fs.length + 1) cap) (fs.length + 1) (us ++ [.string x.name, u, .int .i64 x.body.kind, .int .i64 x.body.num, v]))
    (hgrow : (W.drew.alloc o).grownBy w2 v1.ownBlock) (hat : v1.ownBlock = some gg ∨ gg = W.heap.size + 1) :
    RdI B B1 b8 sy (fs ++ [x]) v0 (.slice (some ⟨gg, 0, none⟩) (fs.length + 1) cap) (us ++ [.string x.name, u, .int .i64 x.body.kind, .int .i64 x.body.num, v]) (w2.setCell ⟨b8, 1, none⟩ (.slice (some ⟨gg, 0, none⟩) (fs.length + 1) cap)) := by
  have hzW := hbb.size
  have hz2 : W.heap.size + 1 ≤ w2.heap.size := by have h1 : (W.drew.alloc o).heap.size ≤ w2.heap.size := hgrow.size; rw [World.size_alloc] at h1; exact h1
  have l0 := h.osy.lt
  have l1 := h.ofn.lt
  have lb := h.box.lt
  have hb1 := h.hb
  have hfar : ∀ b, b < W.heap.size → v1.ownBlock ≠ some b → w2.heap[b]? = W.heap[b]? := fun b hb hne => by
    rw [hgrow.block b (by rw [World.size_alloc]; exact Nat.lt_succ_of_lt hb) (fun e => hne e.symm)]
    exact Below.heap_alloc W.drew o b hb
  have h01 : v0.ownBlock = none ∨ v0.ownBlock ≠ v1.ownBlock := by
    cases hv : v0.ownBlock with
    | none => exact .inl rfl
    | some b => exact .inr (fun e => own_own_ne h.osy h.ofn (by decide) b hv e.symm)
  have h81 : v1.ownBlock ≠ some b8 := own_ne h.ofn h.box (by decide)
  have h80 : v0.ownBlock ≠ some b8 := own_ne h.osy h.box (by decide)
  have hg8 : gg ≠ b8 := by
    rintro rfl
    rcases hat with e | e
    · exact h81 e
    · omega
  have hset : ∀ b, b ≠ b8 → (w2.setCell ⟨b8, 1, none⟩ (.slice (some ⟨gg, 0, none⟩) (fs.length + 1) cap)).heap[b]? = w2.heap[b]? := fun b hb => Below.heap_setCell w2 ⟨b8, 1, none⟩ _ b hb
  have hgo : ∀ b, (Value.slice (some ⟨gg, 0, none⟩) (fs.length + 1) cap).ownBlock = some b → gg = b := fun b hb => by simpa [Value.ownBlock] using hb
  refine ⟨?_, ?_, ?_, ?_, hb1⟩
  · refine owns_kept3 h.osy fun b hb => ?_
    have hlt := (l0 b hb).2
    rw [hset b (fun e => h80 (e ▸ hb)), hfar b (by omega) (fun e => by
      rcases h01 with h2 | h2
      · rw [h2] at hb; cases hb
      · exact h2 (hb.trans e.symm)), hbb.block b hlt]
  · rw [List.length_append]
    exact owns_kept3 hown fun b hb => hset b (fun e => hg8 ((hgo b hb).trans e))
  · have hP : ∀ b, w.heap.size ≤ b → b < W.heap.size → b < (w2.setCell ⟨b8, 1, none⟩ (.slice (some ⟨gg, 0, none⟩) (fs.length + 1) cap)).heap.size ∧ b ≠ b8 ∧ v0.ownBlock ≠ some b ∧ gg ≠ b := fun b h1 h2 =>
      ⟨by simp [World.setCell]; omega, by omega, fun e => by have := l0 b e; omega, fun e => by
        rcases hat with h3 | h3
        · have := l1 gg h3; omega
        · omega⟩
    refine FnMk.snoc ?_ hnd ?_ ?_ hn ?_
    · refine hs.keep _ fun b hb => ?_
      have := hfp b hb
      rw [hset b (by omega), hfar b (by omega) (fun e => by have := l1 b e; omega)]
    · intro b hb
      have := hfp b hb
      refine ⟨this.1, by simp [World.setCell]; omega, by omega, fun e => by have := l0 b e; omega, fun e => ?_⟩
      have e := hgo b e
      rcases hat with h3 | h3
      · have := l1 gg h3; omega
      · omega
    · refine (hbd.keep (w' := w2.setCell ⟨b8, 1, none⟩ (.slice (some ⟨gg, 0, none⟩) (fs.length + 1) cap)) (fun b hb => ?_) _).more (fun b hb => ?_) _
      · rw [hset b (by omega), hfar b hb.2 (fun e => by have := l1 b e; omega)]
      · obtain ⟨g1, g2, g3, g4⟩ := hP b hb.1 hb.2
        exact ⟨by omega, g1, g2, g3, fun e => g4 (hgo b e)⟩
    · refine (h.row.keep (w' := w2.setCell ⟨b8, 1, none⟩ (.slice (some ⟨gg, 0, none⟩) (fs.length + 1) cap)) (fun b hb => ?_) _).more (fun b hb => ?_) _
      · rw [hset b hb.2.2.1, hfar b (by have := hb.2.1; omega) hb.2.2.2.2, hbb.block b hb.2.1]
      · refine ⟨hb.1, by have := hb.2.1; simp [World.setCell]; omega, hb.2.2.1, hb.2.2.2.1, fun e => ?_⟩
        have e := hgo b e
        rcases hat with h3 | h3
        · exact hb.2.2.2.2 (h3.trans (by rw [e]))
        · have := hb.2.1; omega
  · have h1 : Blk w2 b8 38 #[v0, v1] := (hfar b8 (by omega) h81).trans (h.box.below hbb lb)
    exact (h1.set_ 1 _).eq_ rfl
end
theorem S.SepL.at_ {w : World} : ∀ {l : List S} {us : List Value} {fp : List Nat}, S.SepL w l us fp → fp.Nodup → ∀ {k : Nat} {x : S}, l[k]? = some x → ∃ u f1, us[k]? = some u ∧ x.Sep w u f1 ∧ f1.Nodup ∧ ∀ b ∈ f1, b ∈ fp
  | [], us, fp, h, _, k, x, hx => by simp at hx
  | s :: r, us, fp, h, hn, k, x, hx => by
    simp only [S.SepL] at h
    obtain ⟨u, ut, f1, f2, rfl, h1, h2, rfl⟩ := h
    have hnn := List.nodup_append.1 hn
    cases k with
    | zero => simp at hx; subst hx; exact ⟨u, f1, rfl, h1, hnn.1, fun b hb => by simp [hb]⟩
    | succ k =>
      simp at hx
      obtain ⟨u', g, g1, g2, g3, g4⟩ := h2.at_ hnn.2.1 hx
      exact ⟨u', g, by simpa using g1, g2, g3, fun b hb => by simp [g4 b hb]⟩
theorem applyT_nil {t : T} (h : t.count ≤ 100000) : t.applyT [] = t ∧ t.applyE [] = 0 := by
  obtain ⟨k, n, l⟩ := t
  have e : (T.mk k n l).applied [] = .mk k n l := by simp [T.applied, T.kind, T.num, T.args]
  simp only [T.applyT, T.applyE, e, if_pos h, and_self]
/-- What Scheme answers: symbols and functions in memory of their own. -/
def SchIPost (syms : List Sy) (l : List Lz) (w : World) (e : Ending) (w' : World) : Prop :=
  ∃ (E : Int) (lst : List S) (v0 v1 : Value) (us : List Value), e = .returned (.tuple #[.agg #[v0, v1], .int .i64 E]) ∧ Ans syms l E lst ∧ Below w.heap.size w w' ∧
    (E ≠ 0 → v0 = .slice none 0 0 ∧ v1 = .slice none 0 0) ∧
    (E = 0 → w'.ownsRow w.heap.size 57 2 v0 syms.length (syCells syms) ∧ w'.ownsRow w.heap.size 46 5 v1 (fnsOf l lst).length us ∧
      FnMk w' (fun b => w.heap.size ≤ b ∧ b < w'.heap.size ∧ v0.ownBlock ≠ some b ∧ v1.ownBlock ≠ some b) (fnsOf l lst) us)
/-- What is found has a sort for each function, and the functions' bodies are small. -/
theorem Ans.zero {syms : List Sy} {l : List Lz} {lst : List S} (h : Ans syms l 0 lst) : lst.length = l.length ∧ l.length ≤ 64 ∧ syms.length ≤ 24 ∧ (∀ f ∈ l, f.body.count ≤ 400) ∧ checkI syms l = 0 ∧ Solves (l.map Lz.lo) (ranksOf syms) (some lst) ∧ lst.all S.ok = true := by
  rcases h with ⟨h0, h1, _⟩ | ⟨h0, o, h1, h2, h3⟩
  · exact (h0 h1.symm).elim
  · rw [if_pos h2.symm] at h3
    cases o with
    | none => simp [ansE] at h2
    | some a =>
      have h3' : lst = a := h3
      subst h3'
      have hal : lst.all S.ok = true := by
        cases hh : lst.all S.ok with
        | true => rfl
        | false => simp [ansE, hh] at h2
      have hl : lst.length = l.length := by simpa using h1.1.1
      have hc := h0
      unfold checkI at hc
      by_cases g1 : symsB syms = true
      case neg => rw [if_neg g1] at hc; cases hc
      rw [if_pos g1] at hc
      by_cases g2 : lzOk syms l = true
      case neg => rw [if_neg g2] at hc; cases hc
      simp only [lzOk, Bool.and_eq_true, decide_eq_true_eq, List.all_eq_true] at g2
      simp only [symsB, Bool.and_eq_true, decide_eq_true_eq] at g1
      refine ⟨hl, g2.1, g1.1, fun f hf => ?_, h0, h1, hal⟩
      have := g2.2.2.2 f hf
      simp only [Lz.fits, bodyIn, Bool.and_eq_true, decide_eq_true_eq] at this
      exact this.2.2.1
end Go.Proofs.YtkkfdiidneoelaaDoor

namespace Go.Proofs.YtkkfdiidneoelaaDoor
open Go.RowKit

mutual
/-- A term's arguments in arrays of their own, whatever their kinds and numbers. -/
def T.EIn (w : World) (P : Nat → Prop) : T → Value → Prop
  | .mk _ _ l, v => ∃ us, w.ownsRow 0 44 3 v l.length us ∧ (∀ b, v.ownBlock = some b → P b) ∧ T.ERow w P l us
def T.ERow (w : World) (P : Nat → Prop) : List T → List Value → Prop
  | [], us => us = []
  | s :: r, us => ∃ (k m : Int) (u : Value) (ut : List Value), us = .int .i64 k :: .int .i64 m :: u :: ut ∧ s.EIn w P u ∧ T.ERow w P r ut
end
mutual
theorem T.NIn.ein {w : World} {P : Nat → Prop} : ∀ (s : T) {v : Value}, s.NIn w P v → s.EIn w P v
  | .mk _ _ l, v, h => by
    simp only [T.NIn] at h
    simp only [T.EIn]
    obtain ⟨us, h1, h2, h3⟩ := h
    exact ⟨us, h1, h2, T.NRow.erow l h3⟩
theorem T.NRow.erow {w : World} {P : Nat → Prop} : ∀ (l : List T) {us : List Value}, T.NRow w P l us → T.ERow w P l us
  | [], us, h => by simpa [T.NRow, T.ERow] using h
  | s :: r, us, h => by
    simp only [T.NRow] at h
    obtain ⟨u, ut, h1, h2, h3⟩ := h
    simp only [T.ERow]
    exact ⟨_, _, u, ut, h1, T.NIn.ein s h2, T.NRow.erow r h3⟩
end
mutual
theorem T.EIn.keep {w w' : World} {P : Nat → Prop} (hb : ∀ b, P b → w'.heap[b]? = w.heap[b]?) : ∀ (s : T) {v : Value}, s.EIn w P v → s.EIn w' P v
  | .mk _ _ l, v, h => by
    simp only [T.EIn] at h ⊢
    obtain ⟨us, h1, h2, h3⟩ := h
    exact ⟨us, owns_kept3 h1 (fun b hh => hb b (h2 b hh)), h2, T.ERow.keep hb l h3⟩
theorem T.ERow.keep {w w' : World} {P : Nat → Prop} (hb : ∀ b, P b → w'.heap[b]? = w.heap[b]?) : ∀ (l : List T) {us : List Value}, T.ERow w P l us → T.ERow w' P l us
  | [], us, h => by simpa [T.ERow] using h
  | s :: r, us, h => by
    simp only [T.ERow] at h ⊢
    obtain ⟨k, m, u, ut, h1, h2, h3⟩ := h
    exact ⟨k, m, u, ut, h1, T.EIn.keep hb s h2, T.ERow.keep hb r h3⟩
end
mutual
theorem T.EIn.more {w : World} {P Q : Nat → Prop} (hb : ∀ b, P b → Q b) : ∀ (s : T) {v : Value}, s.EIn w P v → s.EIn w Q v
  | .mk _ _ l, v, h => by
    simp only [T.EIn] at h ⊢
    obtain ⟨us, h1, h2, h3⟩ := h
    exact ⟨us, h1, fun b hh => hb b (h2 b hh), T.ERow.more hb l h3⟩
theorem T.ERow.more {w : World} {P Q : Nat → Prop} (hb : ∀ b, P b → Q b) : ∀ (l : List T) {us : List Value}, T.ERow w P l us → T.ERow w Q l us
  | [], us, h => by simpa [T.ERow] using h
  | s :: r, us, h => by
    simp only [T.ERow] at h ⊢
    obtain ⟨k, m, u, ut, h1, h2, h3⟩ := h
    exact ⟨k, m, u, ut, h1, T.EIn.more hb s h2, T.ERow.more hb r h3⟩
end
theorem T.ERow.set_ {w : World} {P : Nat → Prop} (x : Int) : ∀ {l : List T} {us : List Value} (j : Nat), T.ERow w P l us → T.ERow w P l (us.set (j * 3 + 1) (.int .i64 x))
  | [], us, j, h => by simp only [T.ERow] at h ⊢; subst h; rfl
  | s :: r, us, 0, h => by
    simp only [T.ERow] at h ⊢
    obtain ⟨k, m, u, ut, rfl, h2, h3⟩ := h
    exact ⟨k, x, u, ut, rfl, h2, h3⟩
  | s :: r, us, j + 1, h => by
    simp only [T.ERow] at h ⊢
    obtain ⟨k, m, u, ut, rfl, h2, h3⟩ := h
    refine ⟨k, m, u, ut.set (j * 3 + 1) (.int .i64 x), ?_, h2, T.ERow.set_ x j h3⟩
    rw [show (j + 1) * 3 + 1 = j * 3 + 1 + 1 + 1 + 1 from by omega]
    rfl
theorem T.ERow.at_ {w : World} {P : Nat → Prop} : ∀ {l : List T} {us : List Value}, T.ERow w P l us → ∀ {k : Nat} {x : T}, l[k]? = some x →
    ∃ (m : Int) (u : Value), us[k * 3 + 1]? = some (.int .i64 m) ∧ us[k * 3 + 2]? = some u ∧ x.EIn w P u
  | [], us, h, k, x, hx => by simp at hx
  | s :: r, us, h, k, x, hx => by
    simp only [T.ERow] at h
    obtain ⟨k0, m, u, ut, rfl, h2, h3⟩ := h
    cases k with
    | zero => simp at hx; subst hx; exact ⟨m, u, rfl, rfl, h2⟩
    | succ k =>
      simp at hx
      obtain ⟨m', u', g1, g2, g3⟩ := h3.at_ hx
      refine ⟨m', u', ?_, ?_, g3⟩
      · rw [show (k + 1) * 3 + 1 = k * 3 + 1 + 1 + 1 + 1 from by omega]; simpa using g1
      · rw [show (k + 1) * 3 + 2 = k * 3 + 2 + 1 + 1 + 1 from by omega]; simpa using g2
mutual
/-- A number's cell is stored. -/
theorem T.EIn.store {w : World} {P : Nat → Prop} (g j : Nat) (x : Int) : ∀ (s : T) {v : Value}, s.EIn w P v → s.EIn (w.setCell ⟨g, j * 3 + 1, none⟩ (.int .i64 x)) P v
  | .mk _ _ l, v, h => by
    simp only [T.EIn] at h ⊢
    obtain ⟨us, h1, h2, h3⟩ := h
    have h3' := T.ERow.store g j x l h3
    by_cases hg : v.ownBlock = some g
    · refine ⟨us.set (j * 3 + 1) (.int .i64 x), ⟨by simpa using h1.1, ?_⟩, h2, h3'.set_ x j⟩
      rcases h1.2 with ⟨rfl, h0⟩ | ⟨g', cap, cur, rfl, hB, hh, hn, hc, hz, ht⟩
      · simp [Value.ownBlock] at hg
      · have e : g' = g := by simpa [Value.ownBlock] using hg
        subst e
        refine .inr ⟨g', cap, cur.setIfInBounds (j * 3 + 1) (.int .i64 x), rfl, hB, Blk.set_ (show Blk w g' 44 cur from hh) (j * 3 + 1) (.int .i64 x), hn, hc, by simpa using hz, ?_⟩
        rw [Array.toList_setIfInBounds, List.take_set, ht]
    · exact ⟨us, owns_kept3 h1 (fun b hb => Below.heap_setCell w ⟨g, j * 3 + 1, none⟩ _ b (fun e => hg (by rw [hb, e]))), h2, h3'⟩
theorem T.ERow.store {w : World} {P : Nat → Prop} (g j : Nat) (x : Int) : ∀ (l : List T) {us : List Value}, T.ERow w P l us → T.ERow (w.setCell ⟨g, j * 3 + 1, none⟩ (.int .i64 x)) P l us
  | [], us, h => by simpa [T.ERow] using h
  | s :: r, us, h => by
    simp only [T.ERow] at h ⊢
    obtain ⟨k, m, u, ut, h1, h2, h3⟩ := h
    exact ⟨k, m, u, ut, h1, T.EIn.store g j x s h2, T.ERow.store g j x r h3⟩
end
/-- What can be turned can be turned afterwards. -/
def Keeps (P : Nat → Prop) (w w' : World) : Prop := ∀ (s : T) (u : Value), s.EIn w P u → s.EIn w' P u
theorem T.EIn.form {w : World} {P : Nat → Prop} {s : T} {v : Value} (h : s.EIn w P v) : ∃ A c, v = .slice A s.args.length c ∧ s.args.length ≤ c ∧ c ≤ 9223372036854775807 := by
  obtain ⟨_, _, l⟩ := s
  simp only [T.EIn] at h
  obtain ⟨us, h1, _, _⟩ := h
  rcases h1.2 with ⟨rfl, h0⟩ | ⟨g, cap, cur, rfl, _, _, hn, hc, _⟩
  · exact ⟨none, 0, by simp [T.args, h0], by simp [T.args, h0], by omega⟩
  · exact ⟨_, cap, rfl, hn, by simpa [maxLen] using hc⟩
/-- The cells of one of the terms. -/
theorem T.EIn.cells {w : World} {P : Nat → Prop} {l : List T} {A : Option Addr} {n c : Nat} (h : (T.mk 0 0 l).EIn w P (.slice A n c)) {k : Nat} {x : T} (hx : l[k]? = some x) :
    ∃ (g : Nat) (m : Int) (u : Value), A = some ⟨g, 0, none⟩ ∧ P g ∧ g < w.heap.size ∧ w.cell? ⟨g, k * 3 + 1, none⟩ = some (.int .i64 m) ∧ w.cell? ⟨g, k * 3 + 2, none⟩ = some u ∧ w.frozen? ⟨g, k * 3 + 1, none⟩ = false ∧ x.EIn w P u := by
  simp only [T.EIn] at h
  obtain ⟨us, h1, h2, h3⟩ := h
  obtain ⟨m, u, e1, e2, e3⟩ := h3.at_ hx
  rcases h1.2 with ⟨he, h0⟩ | ⟨g, cap, cur, he, _, hh, _⟩
  · have : l = [] := List.eq_nil_of_length_eq_zero h0
    subst this; simp at hx
  · injection he with e4 e5 e6
    subst e4
    have hadd : ∀ j, j ≠ 0 → (⟨g, 0, none⟩ : Addr).add j = ⟨g, j, none⟩ := fun j hj => by unfold Addr.add; rw [if_neg hj]; simp
    have c1 := World.ownsRow.cells h1 (g := g) rfl _ _ e1
    have c2 := World.ownsRow.cells h1 (g := g) rfl _ _ e2
    rw [hadd _ (by omega)] at c1 c2
    exact ⟨g, m, u, rfl, h2 g rfl, (h1.lt g rfl).2, c1, c2, Blk.frozen (show Blk w g 44 cur from hh) _, e3⟩
/-- What turn's loop holds. -/
def Trn (P : Nat → Prop) (l : List T) (v : Value) (w0 : World) (i : Value) (w : World) : Prop :=
  ∃ k : Nat, k ≤ l.length ∧ i = .int .i64 k ∧ (T.mk 0 0 l).EIn w P v ∧ Saves P w0 w ∧ Keeps P w0 w

set_option maxHeartbeats 1600000 in
theorem turnT_any (P : Nat → Prop) (K : Nat) : ∀ (l : List T) (v : Value) (w : World), T.countL l ≤ K → (T.mk 0 0 l).EIn w P v →
    Calls Tryd.prog 22 #[v] w fun e w' => e = .returned (.tuple #[]) ∧ Saves P w w' ∧ Keeps P w w' := by
  induction K with
  | zero =>
    intro l v w hK hin
    have hl : l = [] := List.eq_nil_of_length_eq_zero (by have := T.length_le l; omega)
    subst hl
    obtain ⟨A, c, rfl, _, _⟩ := hin.form
    simp only [T.args, List.length_nil]
    clear hin
    go_enter Tryd.func22, Tryd.ntmps22
    go_wp2_with fail
    go_loopw [5] (fun i wr => i = .int .i64 0 ∧ w = wr) (fun _ _ => 0)
    case atStart => exact ⟨rfl, rfl⟩
    case round =>
      obtain ⟨rfl, rfl⟩ := hrel
      go_wp2_with fail
      go_end0
      exact ⟨rfl, Saves.refl _ _, fun _ _ h => h⟩
  | succ K ih =>
    intro l v w hK hin
    obtain ⟨A, c, rfl, hlc, hcm⟩ := hin.form
    simp only [T.args] at hlc ⊢
    have HIH := Lib.hid ih
    clear ih
    go_enter Tryd.func22, Tryd.ntmps22
    go_wp2_with fail
    go_loopw [5] (fun i wr => Trn P l (.slice A l.length c) w i wr) (fun i _ => l.length - (intOf i).toNat)
    case atStart => exact ⟨0, Nat.zero_le _, rfl, hin, Saves.refl _ _, fun _ _ h => h⟩
    case round =>
      obtain ⟨k, hk, rfl, hin1, hsv, hkp⟩ := hrel
      clear hin
      by_cases hlt : k < l.length
      · have hx : l[k]? = some l[k] := List.getElem?_eq_getElem hlt
        have hcl := T.count_mem (List.getElem_mem hlt)
        obtain ⟨g, m, u, rfl, hPg, hg, r1, r2, r3, hinx⟩ := hin1.cells hx
        have HX := Lib.hid hx
        generalize l[k] = x at *
        obtain ⟨kx, nx, lx⟩ := x
        simp only [T.count] at hcl
        have hinx' : (T.mk 0 0 lx).EIn wr P u := by simpa only [T.EIn] using hinx
        have HC := Lib.hid (HIH.out lx u wr (by omega) hinx')
        obtain ⟨A1, c1, rfl, _, _⟩ := hinx'.form
        simp only [T.args] at *
        clear hx hinx hinx' r1 r3
        go_wp2_with fail
        refine HC.out.mono ?_
        rintro e w2 ⟨rfl, hs2, hk2⟩
        have hin2 := hk2 _ _ hin1
        obtain ⟨g', m2, u2, he, _, hg2, q1, q2, q3, _⟩ := hin2.cells HX.out
        injection he with he
        injection he with he _ _
        subst he
        clear r2
        go_wp2_with fail
        go_roundw
        case rel => exact ⟨k + 1, by omega, by go_num, T.EIn.store _ _ _ _ hin2, (hsv.trans hs2).setCell (.inl hPg) _, fun s u h => T.EIn.store _ _ _ _ (hk2 _ _ (hkp _ _ h))⟩
        case measure => simp [intOf]; omega
      · go_wp2_with fail
        go_end0
        exact ⟨rfl, hsv, hkp⟩
end Go.Proofs.YtkkfdiidneoelaaDoor
