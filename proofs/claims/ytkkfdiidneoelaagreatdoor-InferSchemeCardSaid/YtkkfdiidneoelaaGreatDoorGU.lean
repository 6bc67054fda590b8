/-
  Functions of schemes that a call has made, in memory of its own.
  slices.Clone of symbols, and infer.Scheme: contracts.
-/
import Derived.Test.YtkkfdiidneoelaaGreatDoorGH
import Derived.Test.YtkkfdiidneoelaaGreatDoorGB
import Derived.Test.YtkkfdiidneoelaaGreatDoorGD
import Derived.Test.YtkkfdiidneoelaaGreatDoorGR
import Derived.Test.YtkkfdiidneoelaaGreatDoorGI
import Derived.Test.YtkkfdiidneoelaaGreatDoorGE
import Derived.Deep.RegionLaw
import Derived.Laws.OwnMore
namespace Go.Proofs.YtkkfdiidneoelaaGreatDoor
open Go.RowKit

theorem sep_len {w : World} {P : Nat → Prop} : ∀ (s : S) {u : Value} {fp : List Nat}, s.Sep w u fp → (∀ k ∈ fp, P k) → (∀ k, P k → k < w.heap.size) → s.In w 0 w.heap.size u :=
  fun _ _ _ h h1 h2 => h.in_ _ (fun k hk => ⟨Nat.zero_le _, h2 k (h1 k hk)⟩)
/-- The cells of functions that the reader has made; what they hold lies in blocks of P. -/
def FnMk (w : World) (P : Nat → Prop) : List Fn → List Value → Prop
  | [], us => us = []
  | f :: r, us => ∃ u v fp ut, us = .string f.name :: u :: .int .i64 f.body.kind :: .int .i64 f.body.num :: v :: ut ∧ f.sort.Sep w u fp ∧ fp.Nodup ∧ (∀ k ∈ fp, P k) ∧ f.body.NIn w P v ∧ f.name.size ≤ maxLen ∧ FnMk w P r ut
theorem FnMk.keep {w w' : World} {P : Nat → Prop} (hb : ∀ b, P b → w'.heap[b]? = w.heap[b]?) : ∀ (l : List Fn) {us : List Value}, FnMk w P l us → FnMk w' P l us
  | [], us, h => by simpa [FnMk] using h
  | f :: r, us, h => by
    simp only [FnMk] at h ⊢
    obtain ⟨u, v, fp, ut, h1, h2, h3, h4, h5, h6, h7⟩ := h
    exact ⟨u, v, fp, ut, h1, h2.keep _ (fun b hh => hb b (h4 b hh)), h3, h4, h5.keep hb _, h6, FnMk.keep hb r h7⟩
theorem FnMk.more {w : World} {P Q : Nat → Prop} (hb : ∀ b, P b → Q b) : ∀ (l : List Fn) {us : List Value}, FnMk w P l us → FnMk w Q l us
  | [], us, h => by simpa [FnMk] using h
  | f :: r, us, h => by
    simp only [FnMk] at h ⊢
    obtain ⟨u, v, fp, ut, h1, h2, h3, h4, h5, h6, h7⟩ := h
    exact ⟨u, v, fp, ut, h1, h2, h3, fun b hh => hb b (h4 b hh), h5.more hb _, h6, FnMk.more hb r h7⟩
theorem FnMk.row {w : World} {P : Nat → Prop} (hP : ∀ b, P b → b < w.heap.size) : ∀ (l : List Fn) {us : List Value}, FnMk w P l us → FnRow w w.heap.size l us
  | [], us, h => by simpa [FnMk, FnRow] using h
  | f :: r, us, h => by
    simp only [FnMk] at h
    obtain ⟨u, v, fp, ut, h1, h2, h3, h4, h5, h6, h7⟩ := h
    simp only [FnRow]
    exact ⟨u, v, ut, h1, sep_len _ h2 h4 hP, (T.NIn.in_ _ h5).more hP _, h6, FnMk.row hP r h7⟩
theorem FnMk.snoc {w : World} {P : Nat → Prop} {f : Fn} {u v : Value} {fp : List Nat} (hs : f.sort.Sep w u fp) (hn : fp.Nodup) (hp : ∀ k ∈ fp, P k) (ht : f.body.NIn w P v) (hl : f.name.size ≤ maxLen) : ∀ {l : List Fn} {us : List Value}, FnMk w P l us →
    FnMk w P (l ++ [f]) (us ++ [.string f.name, u, .int .i64 f.body.kind, .int .i64 f.body.num, v])
  | [], us, h => by
    simp only [FnMk] at h
    subst h
    simp only [List.nil_append, FnMk]
    exact ⟨u, v, fp, [], rfl, hs, hn, hp, ht, hl, rfl⟩
  | g :: r, us, h => by
    simp only [FnMk] at h
    obtain ⟨u', v', fp', ut, rfl, h2, h3, h4, h5, h6, h7⟩ := h
    simp only [List.cons_append, FnMk]
    exact ⟨u', v', fp', _, rfl, h2, h3, h4, h5, h6, h7.snoc hs hn hp ht hl⟩
/-- A function with another body. -/
def Fn.withBody (f : Fn) (x : T) : Fn := ⟨f.name, f.sort, x⟩
theorem FnMk.put {w : World} {P : Nat → Prop} {x : T} {v : Value} (ht : x.NIn w P v) : ∀ {l : List Fn} {us : List Value}, FnMk w P l us → ∀ {k : Nat} {f : Fn}, l[k]? = some f →
    FnMk w P (l.set k (f.withBody x)) (((us.set (k * 5 + 2) (.int .i64 x.kind)).set (k * 5 + 3) (.int .i64 x.num)).set (k * 5 + 4) v)
  | [], us, h, k, f, hx => by simp at hx
  | g :: r, us, h, k, f, hx => by
    simp only [FnMk] at h
    obtain ⟨u', v', fp', ut, rfl, h2, h3, h4, h5, h6, h7⟩ := h
    cases k with
    | zero =>
      simp at hx
      subst hx
      simp only [List.set_cons_zero, FnMk]
      exact ⟨u', v, fp', ut, rfl, h2, h3, h4, ht, h6, h7⟩
    | succ k =>
      simp at hx
      have := h7.put ht hx
      rw [show (k + 1) * 5 + 2 = k * 5 + 2 + 1 + 1 + 1 + 1 + 1 from by omega, show (k + 1) * 5 + 3 = k * 5 + 3 + 1 + 1 + 1 + 1 + 1 from by omega, show (k + 1) * 5 + 4 = k * 5 + 4 + 1 + 1 + 1 + 1 + 1 from by omega]
      simp only [List.set_cons_succ, FnMk]
      exact ⟨u', v', fp', _, rfl, h2, h3, h4, h5, h6, this⟩
end Go.Proofs.YtkkfdiidneoelaaGreatDoor

namespace Go.Proofs.YtkkfdiidneoelaaGreatDoor
open Go.RowKit

theorem syI_info : (Tryz.prog.info? 65).map (fun i => (i.zero, i.size, i.bytes)) = some (some (.agg #[.string ⟨#[]⟩, .int .i64 0]), 2, 24) := by kernel_rfl
theorem syI_one : ∀ (l : List Sy), ∀ u ∈ syCells l, u.oneCell' = true
  | [], u, h => by simp [syCells] at h
  | x :: r, u, h => by
    simp only [syCells, List.mem_cons] at h
    rcases h with rfl | rfl | h
    · rfl
    · rfl
    · exact syI_one r u h
theorem syI_length : ∀ (l : List Sy), (syCells l).length = l.length * 2
  | [] => rfl
  | x :: r => by simp only [syCells, List.length_cons, syI_length r]; omega
/-- A copy of symbols, in an array of its own. -/
def CloneSy (l : List Sy) (w : World) (e : Ending) (w' : World) : Prop :=
  ∃ v, e = .returned v ∧ w'.ownsRow w.heap.size 65 2 v l.length (syCells l) ∧ Below w.heap.size w w'
set_option maxHeartbeats 1600000 in
theorem cloneSy_any (l : List Sy) (v : Value) (w : World) (hi : Nat) (hin : SyIn w (fun b => b < hi) l v) (hlen : l.length ≤ 1000) :
    Calls Tryz.prog 26 #[v] w (CloneSy l w) := by
  obtain ⟨i0, hi0, hz0, hz1, hz2⟩ := info_parts syI_info
  obtain ⟨A, n, c, rfl, hn, hnc, hc, hrd, hnm⟩ := hin
  have hs := syI_length l
  cases A with
  | none =>
    have h0 : l = [] := by
      rcases hrd with e | ⟨ad, e, _⟩
      · rw [e] at hs
        exact List.eq_nil_of_length_eq_zero (by simp at hs; omega)
      · cases e
    subst h0
    clear hrd hnm hs
    go_enter Tryz.func26, Tryz.ntmps26
    have q : ∀ (w : World), (binOp .eql 22 (.slice none n c) (.slice none 0 0)).run Tryz.prog w = .ok (.bool true) w := fun w => Lib.run_eql_slice_nil w _ _ none n c 0 0 Tryz.underlying22
    go_wp2_with fail
    go_ret
    exact ⟨_, rfl, by simpa [syCells] using World.ownsRow_nil _ _ _ _, Below.refl _ _⟩
  | some ad =>
    have hcell : ∀ j u, (syCells l)[j]? = some u → w.cell? (ad.add j) = some u := by
      rcases hrd with e | ⟨ad', e, _, h⟩
      · intro j u hu; rw [e] at hu; simp at hu
      · injection e with e; subst e; exact h
    have H1 := Lib.hid (syI_one l)
    have HCE := Lib.hid hcell
    have HS := Lib.hid hs
    have HN := Lib.hid hn
    have HZ1 := Lib.hid hz1
    have HZ2 := Lib.hid hz2
    clear hrd hnm hs hcell hn hz1 hz2
    have q : ∀ (w : World), (binOp .eql 22 (.slice (some ad) n c) (.slice none 0 0)).run Tryz.prog w = .ok (.bool false) w := fun w => Lib.run_eql_slice_nil w _ _ (some ad) n c 0 0 Tryz.underlying22
    go_enter Tryz.func26, Tryz.ntmps26
    go_wp2_with
      (at_builtin
       refine wpList_append_own _ rfl _ _ 22 rfl w.heap.size 65 i0 (.agg #[.string ⟨#[]⟩, .int .i64 0]) 2 24 Tryz.underlying22 hi0 hz0 HZ1.out HZ2.out rfl (by omega) _ _ _ rfl (World.ownsRow_made w #[] 0 (Nat.le_refl _) (Nat.zero_le _) (by simp)) ad n c (syCells l) rfl ?qc1 ?qc2 ?qc3 ?qc4 ?qc5 ?qc6 ?_
       case qc1 => rw [HS.out, HN.out]
       case qc2 =>
         intro j u hj
         exact Lib.cell?_alloc_some _ (HCE.out j u hj)
       case qc3 => exact H1.out
       case qc4 => have := HN.out; unfold maxLen; omega
       case qc5 => have := HN.out; omega
       case qc6 => simp
       intro v' w1 hown hgrow hnil)
    go_wp2_with fail
    go_ret
    refine ⟨v', rfl, by rw [HN.out]; simpa using hown, ((Below.refl _ w).alloc (Nat.le_refl _) _).grown hgrow (by simp) (by intro k hk; injection hk with hk; exact Nat.le_of_eq hk)⟩

/-- What the loop of Scheme has made: symbols, functions, the box of both. -/
structure RdI (B B1 b8 : Nat) (sy : List Sy) (fs : List Fn) (v0 v1 : Value) (us : List Value) (w : World) : Prop where
  osy : w.ownsRow B1 65 2 v0 sy.length (syCells sy)
  ofn : w.ownsRow B1 55 5 v1 fs.length us
  row : FnMk w (fun b => B ≤ b ∧ b < w.heap.size ∧ b ≠ b8 ∧ v0.ownBlock ≠ some b ∧ v1.ownBlock ≠ some b) fs us
  box : Blk w b8 25 #[v0, v1]
  hb : B ≤ B1 ∧ B1 ≤ b8
section
variable {B B1 b8 : Nat} {sy : List Sy} {fs : List Fn} {v0 v1 : Value} {us : List Value} {w w' : World}
theorem RdI.below (h : RdI B B1 b8 sy fs v0 v1 us w) (hb : Below w.heap.size w w') : RdI B B1 b8 sy fs v0 v1 us w' :=
  ⟨owns_kept3 h.osy fun b hh => hb.block b (h.osy.lt b hh).2, owns_kept3 h.ofn fun b hh => hb.block b (h.ofn.lt b hh).2,
    (h.row.keep (w' := w') (fun b hh => hb.block b hh.2.1) fs).more (fun _ hh => ⟨hh.1, Nat.lt_of_lt_of_le hh.2.1 hb.size, hh.2.2⟩) fs, h.box.below hb h.box.lt, h.hb⟩
theorem RdI.next {W w2 : World} {x : Fn} {u v : Value} {fp : List Nat} {o : Obj} {gg cap : Nat} (h : RdI B B1 b8 sy fs v0 v1 us w) (hbb : Below w.heap.size w W)
    (hs : x.sort.Sep W u fp) (hnd : fp.Nodup) (hfp : ∀ b ∈ fp, B ≤ b ∧ b < B1) (hbd : x.body.NIn W (fun b => w.heap.size ≤ b ∧ b < W.heap.size) v) (hn : x.name.size ≤ maxLen)
    (hown : w2.ownsRow B1 55 5 (.slice (some ⟨gg, 0, none⟩) (fs.length + 1) cap) (fs.length + 1) (us ++ [.string x.name, u, .int .i64 x.body.kind, .int .i64 x.body.num, v]))
    (hgrow : (W.drew.alloc o).grownBy w2 v1.ownBlock) (hat : v1.ownBlock = some gg ∨ gg = W.heap.size + 1) :
    RdI B B1 b8 sy (fs ++ [x]) v0 (.slice (some ⟨gg, 0, none⟩) (fs.length + 1) cap) (us ++ [.string x.name, u, .int .i64 x.body.kind, .int .i64 x.body.num, v]) (w2.setCell ⟨b8, 1, none⟩ (.slice (some ⟨gg, 0, none⟩) (fs.length + 1) cap)) := by
  have hzW := hbb.size
  have hz2 : W.heap.size + 1 ≤ w2.heap.size := by have h1 : (W.drew.alloc o).heap.size ≤ w2.heap.size := hgrow.size; rw [World.size_alloc] at h1; exact h1
  have l0 := h.osy.lt
  have l1 := h.ofn.lt
  have lb := h.box.lt
  have hb1 := h.hb
  have hfar : ∀ b, b < W.heap.size → v1.ownBlock ≠ some b → w2.heap[b]? = W.heap[b]? := fun b hb hne => by
    rw [hgrow.block b (by rw [World.size_alloc]; exact Nat.lt_succ_of_lt hb) (fun e => hne e.symm)]
    exact Below.heap_alloc W.drew o b hb
  have h01 : v0.ownBlock = none ∨ v0.ownBlock ≠ v1.ownBlock := by
    cases hv : v0.ownBlock with
    | none => exact .inl rfl
    | some b => exact .inr (fun e => own_own_ne h.osy h.ofn (by decide) b hv e.symm)
  have h81 : v1.ownBlock ≠ some b8 := own_ne h.ofn h.box (by decide)
  have h80 : v0.ownBlock ≠ some b8 := own_ne h.osy h.box (by decide)
  have hg8 : gg ≠ b8 := by
    rintro rfl
    rcases hat with e | e
    · exact h81 e
    · omega
  have hset : ∀ b, b ≠ b8 → (w2.setCell ⟨b8, 1, none⟩ (.slice (some ⟨gg, 0, none⟩) (fs.length + 1) cap)).heap[b]? = w2.heap[b]? := fun b hb => Below.heap_setCell w2 ⟨b8, 1, none⟩ _ b hb
  have hgo : ∀ b, (Value.slice (some ⟨gg, 0, none⟩) (fs.length + 1) cap).ownBlock = some b → gg = b := fun b hb => by simpa [Value.ownBlock] using hb
  refine ⟨?_, ?_, ?_, ?_, hb1⟩
  · refine owns_kept3 h.osy fun b hb => ?_
    have hlt := (l0 b hb).2
    rw [hset b (fun e => h80 (e ▸ hb)), hfar b (by omega) (fun e => by
      rcases h01 with h2 | h2
      · rw [h2] at hb; cases hb
      · exact h2 (hb.trans e.symm)), hbb.block b hlt]
  · rw [List.length_append]
    exact owns_kept3 hown fun b hb => hset b (fun e => hg8 ((hgo b hb).trans e))
  · have hP : ∀ b, w.heap.size ≤ b → b < W.heap.size → b < (w2.setCell ⟨b8, 1, none⟩ (.slice (some ⟨gg, 0, none⟩) (fs.length + 1) cap)).heap.size ∧ b ≠ b8 ∧ v0.ownBlock ≠ some b ∧ gg ≠ b := fun b h1 h2 =>
      ⟨by simp [World.setCell]; omega, by omega, fun e => by have := l0 b e; omega, fun e => by
        rcases hat with h3 | h3
        · have := l1 gg h3; omega
        · omega⟩
    refine FnMk.snoc ?_ hnd ?_ ?_ hn ?_
    · refine hs.keep _ fun b hb => ?_
      have := hfp b hb
      rw [hset b (by omega), hfar b (by omega) (fun e => by have := l1 b e; omega)]
    · intro b hb
      have := hfp b hb
      refine ⟨this.1, by simp [World.setCell]; omega, by omega, fun e => by have := l0 b e; omega, fun e => ?_⟩
      have e := hgo b e
      rcases hat with h3 | h3
      · have := l1 gg h3; omega
      · omega
    · refine (hbd.keep (w' := w2.setCell ⟨b8, 1, none⟩ (.slice (some ⟨gg, 0, none⟩) (fs.length + 1) cap)) (fun b hb => ?_) _).more (fun b hb => ?_) _
      · rw [hset b (by omega), hfar b hb.2 (fun e => by have := l1 b e; omega)]
      · obtain ⟨g1, g2, g3, g4⟩ := hP b hb.1 hb.2
        exact ⟨by omega, g1, g2, g3, fun e => g4 (hgo b e)⟩
    · refine (h.row.keep (w' := w2.setCell ⟨b8, 1, none⟩ (.slice (some ⟨gg, 0, none⟩) (fs.length + 1) cap)) (fun b hb => ?_) _).more (fun b hb => ?_) _
      · rw [hset b hb.2.2.1, hfar b (by have := hb.2.1; omega) hb.2.2.2.2, hbb.block b hb.2.1]
      · refine ⟨hb.1, by have := hb.2.1; simp [World.setCell]; omega, hb.2.2.1, hb.2.2.2.1, fun e => ?_⟩
        have e := hgo b e
        rcases hat with h3 | h3
        · exact hb.2.2.2.2 (h3.trans (by rw [e]))
        · have := hb.2.1; omega
  · have h1 : Blk w2 b8 25 #[v0, v1] := (hfar b8 (by omega) h81).trans (h.box.below hbb lb)
    exact (h1.set_ 1 _).eq_ rfl
end
theorem S.SepL.at_ {w : World} : ∀ {l : List S} {us : List Value} {fp : List Nat}, S.SepL w l us fp → fp.Nodup → ∀ {k : Nat} {x : S}, l[k]? = some x → ∃ u f1, us[k]? = some u ∧ x.Sep w u f1 ∧ f1.Nodup ∧ ∀ b ∈ f1, b ∈ fp
  | [], us, fp, h, _, k, x, hx => by simp at hx
  | s :: r, us, fp, h, hn, k, x, hx => by
    simp only [S.SepL] at h
    obtain ⟨u, ut, f1, f2, rfl, h1, h2, rfl⟩ := h
    have hnn := List.nodup_append.1 hn
    cases k with
    | zero => simp at hx; subst hx; exact ⟨u, f1, rfl, h1, hnn.1, fun b hb => by simp [hb]⟩
    | succ k =>
      simp at hx
      obtain ⟨u', g, g1, g2, g3, g4⟩ := h2.at_ hnn.2.1 hx
      exact ⟨u', g, by simpa using g1, g2, g3, fun b hb => by simp [g4 b hb]⟩
theorem applyT_nil {t : T} (h : t.count ≤ 100000) : t.applyT [] = t ∧ t.applyE [] = 0 := by
  obtain ⟨k, n, l⟩ := t
  have e : (T.mk k n l).applied [] = .mk k n l := by simp [T.applied, T.kind, T.num, T.args]
  simp only [T.applyT, T.applyE, e, if_pos h, and_self]
/-- What Scheme answers: symbols and functions in memory of their own. -/
def SchIPost (syms : List Sy) (l : List Lz) (w : World) (e : Ending) (w' : World) : Prop :=
  ∃ (E : Int) (lst : List S) (v0 v1 : Value) (us : List Value), e = .returned (.tuple #[.agg #[v0, v1], .int .i64 E]) ∧ Ans syms l E lst ∧ Below w.heap.size w w' ∧
    (E ≠ 0 → v0 = .slice none 0 0 ∧ v1 = .slice none 0 0) ∧
    (E = 0 → w'.ownsRow w.heap.size 65 2 v0 syms.length (syCells syms) ∧ w'.ownsRow w.heap.size 55 5 v1 (fnsOf l lst).length us ∧
      FnMk w' (fun b => w.heap.size ≤ b ∧ b < w'.heap.size ∧ v0.ownBlock ≠ some b ∧ v1.ownBlock ≠ some b) (fnsOf l lst) us)
/-- What is found has a sort for each function, and the functions' bodies are small. -/
theorem Ans.zero {syms : List Sy} {l : List Lz} {lst : List S} (h : Ans syms l 0 lst) : lst.length = l.length ∧ l.length ≤ 64 ∧ syms.length ≤ 24 ∧ (∀ f ∈ l, f.body.count ≤ 400) ∧ checkI syms l = 0 ∧ Solves (l.map Lz.lo) (ranksOf syms) (some lst) ∧ lst.all S.ok = true := by
  rcases h with ⟨h0, h1, _⟩ | ⟨h0, o, h1, h2, h3⟩
  · exact (h0 h1.symm).elim
  · rw [if_pos h2.symm] at h3
    cases o with
    | none => simp [ansE] at h2
    | some a =>
      have h3' : lst = a := h3
      subst h3'
      have hal : lst.all S.ok = true := by
        cases hh : lst.all S.ok with
        | true => rfl
        | false => simp [ansE, hh] at h2
      have hl : lst.length = l.length := by simpa using h1.1.1
      have hc := h0
      unfold checkI at hc
      by_cases g1 : symsB syms = true
      case neg => rw [if_neg g1] at hc; cases hc
      rw [if_pos g1] at hc
      by_cases g2 : lzOk syms l = true
      case neg => rw [if_neg g2] at hc; cases hc
      simp only [lzOk, Bool.and_eq_true, decide_eq_true_eq, List.all_eq_true] at g2
      simp only [symsB, Bool.and_eq_true, decide_eq_true_eq] at g1
      refine ⟨hl, g2.1, g1.1, fun f hf => ?_, h0, h1, hal⟩
      have := g2.2.2.2 f hf
      simp only [Lz.fits, bodyIn, Bool.and_eq_true, decide_eq_true_eq] at this
      exact this.2.2.1
end Go.Proofs.YtkkfdiidneoelaaGreatDoor
