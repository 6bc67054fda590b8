/-
  What stays while a law runs.
-/
import Derived.Test.YtbifnkjfjndjjaaAlive
import Derived.Test.YtbifnkjfjndjjaaEq
namespace Go.Proofs.Ytbifnkjfjndjjaa
open Go.RowKit

/-- What stays while a law runs: the sort that came in, and the box that holds it. -/
structure Kept (s : S) (v : Value) (lo hi : Nat) (w0 : World) (g : Nat) (w : World) : Prop where
  bel : Below w0.heap.size w0 w
  blk : Blk w g 24 #[v]
  ins : s.In w lo hi v
  hle : hi ≤ w0.heap.size
theorem Kept.drew {s : S} {v : Value} {lo hi : Nat} {w0 w : World} {g : Nat} (h : Kept s v lo hi w0 g w) : Kept s v lo hi w0 g w.drew :=
  ⟨h.bel.drew, h.blk, h.ins.below (Below.refl hi w).drew (Nat.le_refl _), h.hle⟩
theorem Kept.next {s : S} {v : Value} {lo hi : Nat} {w0 w w' : World} {g : Nat} (h : Kept s v lo hi w0 g w) (hb : Below w.heap.size w w') : Kept s v lo hi w0 g w' :=
  ⟨h.bel.trans (hb.mono h.bel.size), h.blk.below hb h.blk.lt, h.ins.below hb (Nat.le_trans h.hle h.bel.size), h.hle⟩
theorem Kept.cell {s : S} {v : Value} {lo hi : Nat} {w0 w : World} {g : Nat} (h : Kept s v lo hi w0 g w) : w.cell? ⟨g, 0, none⟩ = some v := h.blk.cell 0
theorem Kept.hw {s : S} {v : Value} {lo hi : Nat} {w0 w : World} {g : Nat} (h : Kept s v lo hi w0 g w) : hi ≤ w.heap.size := Nat.le_trans h.hle h.bel.size
theorem Kept.start {s : S} {v : Value} {lo hi : Nat} {w : World} (h : s.In w lo hi v) (hhi : hi ≤ w.heap.size) : Kept s v lo hi w w.heap.size (w.alloc (.cells #[v] 24)) :=
  ⟨(Below.refl _ _).alloc (Nat.le_refl _) _, Blk.new _ _ _, h.below ((Below.refl _ _).alloc (Nat.le_refl _) _) hhi, hhi⟩

end Go.Proofs.Ytbifnkjfjndjjaa
