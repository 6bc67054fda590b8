/-
  sorts' reader: skip, must, part, sort: what they return, or that they panic, by the plain parser.
-/
import Derived.Test.YtbifnkjfjndjjaaParse
import Derived.Test.YtbifnkjfjndjjaaClone
import Derived.Maps.AppendAt
import Derived.Defers
import Derived.Recover
import Derived.Laws.Pointers
namespace Go.Proofs.Ytbifnkjfjndjjaa
open Go.RowKit

/-- The panic of must. -/
def pan : Ending := .panicked [{ v := .iface 27 (.int .i64 4), recovered := false }]

theorem hasPrefix_strip : ∀ (p t : List UInt8), Lib.hasPrefix t p = (strip p t).isSome
  | [], t => by cases t <;> rfl
  | a :: p, [] => rfl
  | a :: p, b :: t => by
    have ih := hasPrefix_strip p t
    simp only [Lib.hasPrefix, List.isPrefixOf, strip] at ih ⊢
    by_cases h : a = b
    · subst h; simpa using ih
    · simp [h]
theorem trimPrefix_strip (p t : List UInt8) : Lib.trimPrefix t p = (strip p t).getD t := by
  rw [Lib.trimPrefix, hasPrefix_strip]
  cases h : strip p t with
  | none => simp
  | some r => rw [strip_eq h]; simp

set_option maxHeartbeats 400000 in
theorem must_yes (b : Nat) (w : World) : Calls Try.prog 60 #[.pointer (some ⟨b, 0, none⟩), .bool true] w fun e w' => e = .returned (.tuple #[]) ∧ w = w' := by
  go_enter Try.func60, Try.ntmps60
  go_wp2_with fail
  go_end0
  exact ⟨rfl, rfl⟩
set_option maxHeartbeats 400000 in
theorem must_no (b : Nat) (w : World) : Calls Try.prog 60 #[.pointer (some ⟨b, 0, none⟩), .bool false] w fun e w' => e = pan ∧ w = w' := by
  go_enter Try.func60, Try.ntmps60
  go_wp2_with fail
  exact ⟨rfl, rfl, rfl⟩

set_option maxHeartbeats 400000 in
theorem skip_any (b : Nat) (p t : List UInt8) (w : World) (h : Blk w b 80 #[.string ⟨t.toArray⟩]) :
    Calls Try.prog 59 #[.pointer (some ⟨b, 0, none⟩), .string ⟨p.toArray⟩] w fun e w' =>
      e = .returned (.bool (strip p t).isSome) ∧ w.setCell ⟨b, 0, none⟩ (.string ⟨((strip p t).getD t).toArray⟩) = w' := by
  have hc := h.cell 0
  have hf := h.frozen 0
  have HC := Try.strings_CutPrefix ⟨t.toArray⟩ ⟨p.toArray⟩ w
  simp only [trimPrefix_strip, hasPrefix_strip] at HC
  go_enter Try.func59, Try.ntmps59
  go_wp2_with fail
  refine HC.mono ?_
  rintro e w1 ⟨rfl, rfl⟩
  go_wp2_with fail
  go_ret
  exact ⟨rfl, rfl⟩

/-- What the reader's loop holds of the sort that it builds: acc's elements are us, in blocks from lo on; gc holds the slice, gr the result. -/
structure Built (acc : List S) (lo gc gr : Nat) (cv : Value) (us : List Value) (fp : List Nat) (w : World) : Prop where
  own : w.ownsRow lo 24 1 cv acc.length us
  sep : S.SepL w acc us fp
  nod : (cv.ownBlock.toList ++ fp).Nodup
  rng : ∀ x ∈ fp, lo ≤ x ∧ x < w.heap.size
  blk : Blk w gc 24 #[cv]
  res : Blk w gr 24 #[.slice none 0 0]
  gcl : gc < lo
  grl : gr < lo
  ne_ : gc ≠ gr
  lol : lo ≤ w.heap.size
theorem Built.own_lt {acc : List S} {lo gc gr : Nat} {cv : Value} {us : List Value} {fp : List Nat} {w : World} (h : Built acc lo gc gr cv us fp w) : ∀ x, cv.ownBlock = some x → lo ≤ x ∧ x < w.heap.size := fun x hx => h.own.lt x hx
/-- Behind what changes block b alone. -/
theorem Built.saves {acc : List S} {lo gc gr b : Nat} {cv : Value} {us : List Value} {fp : List Nat} {w w' : World} (h : Built acc lo gc gr cv us fp w) (hs : Saves (fun k => k = b) w w') (hb : b < lo) (hc : b ≠ gc) (hr : b ≠ gr) : Built acc lo gc gr cv us fp w' :=
  ⟨owns_kept h.own (fun x hx => hs.block x (h.own_lt x hx).2 (by have := h.own_lt x hx; omega)), h.sep.keep _ (fun x hx => hs.block x (h.rng x hx).2 (by have := h.rng x hx; omega)), h.nod,
    fun x hx => by have := h.rng x hx; have := hs.size; omega, h.blk.saves hs (fun e => hc e.symm), h.res.saves hs (fun e => hr e.symm), h.gcl, h.grl, h.ne_, by have := hs.size; have := h.lol; omega⟩
/-- One more: what was there and the new part stand, the row has grown, the slice is stored. -/
theorem Built.next {acc : List S} {lo gc gr : Nat} {cv : Value} {us : List Value} {fp fp1 : List Nat} {w w1 w2 : World} {x : S} {v1 v' : Value} {o1 : Obj}
    (h : Built acc lo gc gr cv us fp w) (hk : ∀ k, k < w.heap.size → lo ≤ k ∨ k = gc ∨ k = gr → w1.heap[k]? = w.heap[k]?) (hz : w.heap.size ≤ w1.heap.size)
    (hsep1 : x.Sep w1 v1 fp1) (hnod1 : fp1.Nodup) (hrng1 : ∀ k ∈ fp1, w.heap.size ≤ k ∧ k < w1.heap.size)
    (hown2 : w2.ownsRow lo 24 1 v' (acc.length + 1) (us ++ [v1])) (hgrow : (w1.alloc o1).grownBy w2 cv.ownBlock) (hat : v'.ownBlock = cv.ownBlock ∨ v'.ownBlock = some (w1.heap.size + 1)) :
    Built (acc ++ [x]) lo gc gr v' (us ++ [v1]) (fp ++ fp1) (w2.setCell ⟨gc, 0, none⟩ v') := by
  have hsz2 : w1.heap.size + 1 ≤ w2.heap.size := by have := hgrow.size; simpa using this
  have hgcw : gc < w.heap.size := h.blk.lt
  have hfar : ∀ k, k < w1.heap.size → cv.ownBlock ≠ some k → k ≠ gc → (w2.setCell ⟨gc, 0, none⟩ v').heap[k]? = w1.heap[k]? := by
    intro k hk1 hc hne
    rw [Below.heap_setCell _ _ _ _ hne, hgrow.block k (by simp; omega) (fun e => hc e.symm), Below.heap_alloc _ _ _ hk1]
  have hnod := List.nodup_append.1 h.nod
  have hnf : ∀ k ∈ fp, cv.ownBlock ≠ some k := fun k hk1 he => hnod.2.2 k (by simp [he]) k hk1 rfl
  have hv : ∀ k, v'.ownBlock = some k → lo ≤ k := fun k hk1 => (hown2.lt k hk1).1
  have hgcl := h.gcl
  have hgrl := h.grl
  refine ⟨?_, ?_, ?_, ?_, ?_, ?_, h.gcl, h.grl, h.ne_, by have := h.lol; simp [World.setCell]; omega⟩
  · rw [List.length_append]
    exact owns_kept hown2 (fun k hk1 => Below.heap_setCell _ _ _ _ (by have := hv k hk1; show k ≠ gc; omega))
  · refine S.SepL.snoc (hsep1.keep _ (fun k hk1 => hfar k (hrng1 k hk1).2 (fun he => by have := h.own_lt k he; have := hrng1 k hk1; omega) (by have := hrng1 k hk1; omega))) _
      (h.sep.keep _ (fun k hk1 => (hfar k (by have := h.rng k hk1; omega) (hnf k hk1) (by have := h.rng k hk1; omega)).trans (hk k (h.rng k hk1).2 (.inl (h.rng k hk1).1))))
  · have hdis : ∀ a ∈ fp, ∀ c ∈ fp1, a ≠ c := fun a ha c hc => by have := h.rng a ha; have := hrng1 c hc; omega
    have h2 : (fp ++ fp1).Nodup := List.nodup_append.2 ⟨hnod.2.1, hnod1, hdis⟩
    refine List.nodup_append.2 ⟨by cases v'.ownBlock <;> simp, h2, fun a ha c hc => ?_⟩
    have ha' : v'.ownBlock = some a := by simpa using ha
    rintro rfl
    rcases List.mem_append.1 hc with hm | hm
    · rcases hat with he | he
      · exact hnf a hm (by rw [← he]; exact ha')
      · rw [ha'] at he
        have := h.rng a hm
        simp at he
        omega
    · rcases hat with he | he
      · rw [ha'] at he
        have := h.own_lt a he.symm
        have := hrng1 a hm
        omega
      · rw [ha'] at he
        have := hrng1 a hm
        simp at he
        omega
  · intro k hk1
    have hsz : w2.heap.size = (w2.setCell ⟨gc, 0, none⟩ v').heap.size := by simp [World.setCell]
    rcases List.mem_append.1 hk1 with hm | hm
    · have := h.rng k hm; omega
    · have := hrng1 k hm
      refine ⟨?_, by omega⟩
      have := h.lol
      omega
  · have h1 : Blk w2 gc 24 #[cv] := (hgrow.block _ (by simp; omega) (fun e => by have := h.own_lt _ e.symm; omega)).trans ((Below.heap_alloc _ _ _ (by omega)).trans ((hk gc hgcw (.inr (.inl rfl))).trans h.blk))
    exact h1.set_ 0 _
  · exact (hfar gr (by have := h.res.lt; omega) (fun e => by have := h.own_lt _ e; omega) (fun e => h.ne_ e.symm)).trans ((hk gr h.res.lt (.inr (.inr rfl))).trans h.res)
end Go.Proofs.Ytbifnkjfjndjjaa
