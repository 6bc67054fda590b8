/-
  The chapter's examples, on plain data.
  The statements' check that the chapter's examples come out.
-/
import Derived.Test.YtkkfdiidneoelaaGreatDoorGR
import Derived.Deep.RegionHeld3
import Derived.Deep.CutRange
namespace Go.Proofs.YtkkfdiidneoelaaGreatDoor

def exSy : List Sy := [⟨⟨#[97]⟩, 2⟩, ⟨⟨#[98]⟩, 1⟩, ⟨⟨#[99]⟩, 0⟩]
def exX : T := .mk 0 0 []
def exB : T := .mk 2 0 [exX, .mk 1 1 [.mk 2 1 [exX]]]
def exL1 : List Lz := [⟨⟨#[115]⟩, 0, .mk 1 1 [.mk 2 2 []]⟩, ⟨⟨#[102]⟩, 1, exB⟩]
def exL2 : List Lz := [⟨⟨#[115]⟩, 0, .mk 2 2 []⟩, ⟨⟨#[102]⟩, 1, .mk 0 0 [exX]⟩]
def exL3 : List Lz := [⟨⟨#[115]⟩, 0, .mk 2 2 []⟩, ⟨⟨#[107]⟩, 2, exX⟩]
theorem ex_ck1 : checkI exSy exL1 = 0 := by decide +kernel
theorem ex_ck2 : checkI exSy exL2 = 0 := by decide +kernel
theorem ex_ck3 : checkI exSy exL3 = 0 := by decide +kernel
/-- A sort of so many arguments asks at least that of as many o. -/
theorem rank_le (s : S) : (rankS s.args.length).emb.le s.emb := by
  obtain ⟨l⟩ := s
  simp only [rankS, S.args, S.emb]
  induction l with
  | nil => intro p h; exact h
  | cons x r ih =>
    intro p h
    simp only [List.length_cons, List.replicate_succ, S.embL] at h ⊢
    cases p with
    | nil => rfl
    | cons c q =>
      cases c with
      | false => simp [D.arr, S.emb, S.embL, D.o] at h
      | true => exact ih q h
theorem asg_ranks {ls : List Lo} {rs : List Nat} (h : Asg ls rs (ls.map fun l => rankS l.1)) : Solves ls rs (some (ls.map fun l => rankS l.1)) := by
  refine ⟨h, fun b hb j s t hs ht => ?_⟩
  rw [List.getElem?_map] at hs
  cases hl : ls[j]? with
  | none => rw [hl] at hs; cases hs
  | some l =>
    rw [hl] at hs
    cases hs
    show (rankS l.1).emb.le t.emb
    rw [← (hb.2 j l t hl ht).1]
    exact rank_le t
theorem asg_of {ls : List Lo} {rs : List Nat} (h : (ls.zip (ls.map fun l => rankS l.1)).all (fun p => decide (p.2.args.length = p.1.1) && (match p.1.2.ty (pickH p.2.args (ls.map fun l => rankS l.1) (rs.map rankS)) with | some y => y.eqb (.mk []) | none => false)) = true) :
    Asg ls rs (ls.map fun l => rankS l.1) := by
  refine ⟨by simp, fun j l s hl hs => ?_⟩
  rw [List.all_eq_true] at h
  have hm : (l, s) ∈ ls.zip (ls.map fun l => rankS l.1) := List.mem_of_getElem? (i := j) (by rw [List.getElem?_zip_eq_some]; exact ⟨hl, hs⟩)
  have := h _ hm
  simp only [Bool.and_eq_true, decide_eq_true_eq] at this
  refine ⟨this.1, ?_⟩
  cases hy : l.2.ty (pickH s.args (ls.map fun l => rankS l.1) (rs.map rankS)) with
  | none => rw [hy] at this; cases this.2
  | some y =>
    rw [hy] at this
    rw [(S.eqb_iff _ _).1 this.2]
theorem ex_an1 : Ans exSy exL1 0 [.mk [], .mk [.mk []]] :=
  .inr ⟨ex_ck1, _, asg_ranks (asg_of (by decide +kernel)), by decide +kernel, by rw [if_pos (by decide +kernel)]; rfl⟩
theorem ex_an3 : Ans exSy exL3 0 [.mk [], .mk [.mk [], .mk []]] :=
  .inr ⟨ex_ck3, _, asg_ranks (asg_of (by decide +kernel)), by decide +kernel, by rw [if_pos (by decide +kernel)]; rfl⟩
theorem ex_an2 : Ans exSy exL2 6 [] := by
  refine .inr ⟨ex_ck2, none, ?_, rfl, rfl⟩
  intro a ha
  have h1 : (exL2.map Lz.lo)[1]? = some (1, .mk 0 0 [exX]) := rfl
  have hl : a.length = 2 := ha.1
  have h2 : a[1]? = some (a[1]'(by omega)) := List.getElem?_eq_getElem _
  obtain ⟨h3, h4⟩ := ha.2 1 _ _ h1 h2
  generalize a[1] = s at *
  obtain ⟨q⟩ := s
  match q, h3, h4 with
  | [x], _, h4 =>
    obtain ⟨y⟩ := x
    simp only [T.ty, pickH, S.args, exX] at h4
    simp only [show ¬ ((0 : Int) < 0) from by decide, if_false, if_true, Int.toNat_zero, List.getElem?_cons_zero] at h4
    by_cases h5 : T.tyL (pickH [S.mk y] a (List.map rankS (ranksOf exSy))) [T.mk 0 0 []] y = true
    · cases y with
      | nil => simp [T.tyL] at h5
      | cons z r =>
        simp only [T.tyL, T.ty, pickH, Bool.and_eq_true] at h5
        simp only [show ¬ ((0 : Int) < 0) from by decide, if_false, if_true, Int.toNat_zero, List.getElem?_cons_zero, List.length_nil] at h5
        have := (S.eqb_iff _ _).1 h5.1
        have h6 := congrArg S.count this
        simp only [S.args, S.count, S.countL, List.drop] at h6
        have := z.count_pos
        omega
    · first
        | (rw [if_neg h5] at h4; cases h4)
        | (simp only [h5] at h4; cases h4)
end Go.Proofs.YtkkfdiidneoelaaGreatDoor

namespace Go.Proofs.YtkkfdiidneoelaaGreatDoor
open Go.RowKit

theorem term_results {tmps : Array Value} {w : World} {a : Nat} {x y z : Value} (h2 : tmps.getD 6 undef = .pointer (some ⟨a, 0, none⟩))
    (ha : Blk w a 53 #[x, y, z]) : (results Tryz.f24 tmps).run Tryz.prog w = .ok (.agg #[x, y, z]) w := by
  have h4 := ha.cell 0
  have h5 := ha.cell 1
  have h6 := ha.cell 2
  simp at h4 h5 h6
  have h2' : tmps[6]?.getD undef = .pointer (some ⟨a, 0, none⟩) := by simpa using h2
  simp [results, Tryz.results24, go_sem, h2', h4, h5, h6]
set_option maxHeartbeats 400000 in
theorem term_any (k n : Int) (A : Option Addr) (m c : Nat) (w : World) : Calls Tryz.prog 24 #[.int .i64 k, .int .i64 n, .slice A m c] w fun e w' => e = .returned (.agg #[.int .i64 k, .int .i64 n, .slice A m c]) ∧ Below w.heap.size w w' := by
  go_enter Tryz.func24, Tryz.ntmps24
  go_wp2_with fail
  exact bodyPost_ret (term_results rfl (Blk.new _ _ _)) rfl ⟨rfl, (Below.refl _ _).alloc (Nat.le_refl _) _⟩

/-- A list of terms in a block that is known whole. -/
theorem InL_blkI {w : World} {g : Nat} {l : List T} {us : List Value} (hb : Blk w g 53 us.toArray) (hrow : T.Row w (fun b => b < w.heap.size) l us) (n : Nat) (hn : l.length = n) (hl : n ≤ 100) : T.InL w (fun b => b < w.heap.size) l (.slice (some ⟨g, 0, none⟩) n n) := by
  unfold T.InL
  refine T.In.mk_ hn (Nat.le_refl _) (by omega) (.inr ⟨_, rfl, hb.lt, fun j u hj => ?_⟩) hrow
  have hadd : (⟨g, 0, none⟩ : Addr).add j = ⟨g, j, none⟩ := by unfold Addr.add; split <;> simp_all
  rw [hadd, hb.cell]
  simpa using hj
theorem InI_nil {w : World} {P : Nat → Prop} {k n : Int} : (T.mk k n []).In w P (.slice none 0 0) := T.In.mk_ rfl (Nat.le_refl _) (by omega) (.inl rfl) (by simp [T.Row])
theorem RowI1 {w : World} {P : Nat → Prop} {k n : Int} {l : List T} {v : Value} (h : T.InL w P l v) : T.Row w P [.mk k n l] [.int .i64 k, .int .i64 n, v] := by
  simp only [T.Row]; exact ⟨v, [], rfl, T.InL.to h, rfl⟩
theorem RowI2 {w : World} {P : Nat → Prop} {k n k' n' : Int} {l l' : List T} {v v' : Value} (h : T.InL w P l v) (h' : T.InL w P l' v') : T.Row w P [.mk k n l, .mk k' n' l'] [.int .i64 k, .int .i64 n, v, .int .i64 k', .int .i64 n', v'] := by
  simp only [T.Row]; exact ⟨v, _, rfl, T.InL.to h, v', [], rfl, T.InL.to h', rfl⟩
theorem InLI_nil {w : World} {P : Nat → Prop} : T.InL w P [] (.slice none 0 0) := InI_nil
theorem Blk.first {w w' : World} {t : TypeId} {cs : Array Value} (b : Below (w.alloc (.cells cs t)).heap.size (w.alloc (.cells cs t)) w') : Blk w' w.heap.size t cs := (Blk.new w t cs).below b (by simp)
theorem Blk.first_drew {w w' : World} {t : TypeId} {cs : Array Value} (b : Below (w.alloc (.cells cs t)).drew.heap.size (w.alloc (.cells cs t)).drew w') : Blk w' w.heap.size t cs := (Blk.new w t cs).drew.below b (by show _ < (w.alloc _).heap.size; simp)
theorem Blk.both {w w' : World} {t t' : TypeId} {cs cs' : Array Value} (b : Below ((w.alloc (.cells cs t)).alloc (.cells cs' t')).heap.size ((w.alloc (.cells cs t)).alloc (.cells cs' t')) w') : Blk w' w.heap.size t cs ∧ Blk w' (w.heap.size + 1) t' cs' :=
  ⟨((Blk.new w t cs).alloc _).below b (by simp; omega), (by simpa using Blk.new (w.alloc (.cells cs t)) t' cs' : Blk ((w.alloc (.cells cs t)).alloc (.cells cs' t')) (w.heap.size + 1) t' cs').below b (by simp)⟩
theorem Blk.both_drew {w w' : World} {t t' : TypeId} {cs cs' : Array Value} (b : Below ((w.alloc (.cells cs t)).alloc (.cells cs' t')).drew.heap.size ((w.alloc (.cells cs t)).alloc (.cells cs' t')).drew w') : Blk w' w.heap.size t cs ∧ Blk w' (w.heap.size + 1) t' cs' := Blk.both ⟨b.os, b.tape, b.output, b.size, b.block⟩
theorem Blk.next2 {w x w' : World} {g : Nat} {t : TypeId} {cs : Array Value} (h : Blk w g t cs) (b : Below x.heap.size x w') (hx : Below w.heap.size w x) : Blk w' g t cs := (h.below hx h.lt).below b (Nat.lt_of_lt_of_le h.lt hx.size)

theorem Blk.tri {w : World} {g : Nat} {t : TypeId} {a b c : Value} (h : Blk w g t #[a, b, c]) : (w.cell? ⟨g, 0, none⟩ = some a ∧ w.cell? ⟨g, 1, none⟩ = some b ∧ w.cell? ⟨g, 2, none⟩ = some c) ∧ w.frozen? ⟨g, 0, none⟩ = false ∧ w.frozen? ⟨g, 1, none⟩ = false ∧ w.frozen? ⟨g, 2, none⟩ = false := by
  have x := h.cell 0
  have y := h.cell 1
  have z := h.cell 2
  simp at x y z
  exact ⟨⟨x, y, z⟩, h.frozen 0, h.frozen 1, h.frozen 2⟩
theorem set3 {w : World} {g b : Nat} {x y z p q r : Value} (h : w.cell? ⟨g, 0, none⟩ = some p ∧ w.cell? ⟨g, 1, none⟩ = some q ∧ w.cell? ⟨g, 2, none⟩ = some r) (hne : b ≠ g) :
    (((w.setCell ⟨b, 0, none⟩ x).setCell ⟨b, 1, none⟩ y).setCell ⟨b, 2, none⟩ z).cell? ⟨g, 0, none⟩ = some p ∧ (((w.setCell ⟨b, 0, none⟩ x).setCell ⟨b, 1, none⟩ y).setCell ⟨b, 2, none⟩ z).cell? ⟨g, 1, none⟩ = some q ∧
      (((w.setCell ⟨b, 0, none⟩ x).setCell ⟨b, 1, none⟩ y).setCell ⟨b, 2, none⟩ z).cell? ⟨g, 2, none⟩ = some r := by
  have e : ∀ i, (((w.setCell ⟨b, 0, none⟩ x).setCell ⟨b, 1, none⟩ y).setCell ⟨b, 2, none⟩ z).cell? ⟨g, i, none⟩ = w.cell? ⟨g, i, none⟩ := fun i => by
    rw [World.cell?_setCell_far _ _ _ _ hne, World.cell?_setCell_far _ _ _ _ hne, World.cell?_setCell_far _ _ _ _ hne]
  rw [e, e, e]
  exact h
/-- What stays: the symbols, the box of the first term, what was below. -/
structure Al (w0 : World) (g0 bx : Nat) (w : World) : Prop where
  sy : Blk w g0 65 #[.string ⟨#[97]⟩, .int .i64 2, .string ⟨#[98]⟩, .int .i64 1, .string ⟨#[99]⟩, .int .i64 0]
  bx : Blk w bx 53 #[.int .i64 0, .int .i64 0, .slice none 0 0]
  bel : Below w0.heap.size w0 w
theorem Al.next {w0 : World} {g0 bx : Nat} {w w' : World} (h : Al w0 g0 bx w) (hb : Below w.heap.size w w') : Al w0 g0 bx w' := ⟨h.sy.below hb h.sy.lt, h.bx.below hb h.bx.lt, h.bel.trans (hb.mono h.bel.size)⟩
theorem Al.next2 {w0 : World} {g0 bx : Nat} {w x w' : World} (h : Al w0 g0 bx w) (b : Below x.heap.size x w') (hx : Below w.heap.size w x) : Al w0 g0 bx w' := (h.next hx).next b
theorem Al.three {w0 : World} {g0 bx : Nat} {w : World} (h : Al w0 g0 bx w) : w.cell? ⟨bx, 0, none⟩ = some (.int .i64 0) ∧ w.cell? ⟨bx, 1, none⟩ = some (.int .i64 0) ∧ w.cell? ⟨bx, 2, none⟩ = some (.slice none 0 0) := by
  have a := h.bx.cell 0
  have b := h.bx.cell 1
  have c := h.bx.cell 2
  simp at a b c
  exact ⟨a, b, c⟩
theorem Al.syms {w0 : World} {g0 bx : Nat} {w : World} (h : Al w0 g0 bx w) : SyIn w (fun b => b < w.heap.size) exSy (.slice (some ⟨g0, 0, none⟩) 3 3) := by
  refine ⟨_, _, _, rfl, rfl, Nat.le_refl _, by omega, .inr ⟨_, rfl, h.sy.lt, fun j u hj => ?_⟩, fun x hx => ?_⟩
  · have hadd : (⟨g0, 0, none⟩ : Addr).add j = ⟨g0, j, none⟩ := by unfold Addr.add; split <;> simp_all
    rw [hadd, h.sy.cell]
    simpa [syCells, exSy] using hj
  · simp [exSy] at hx
    rcases hx with rfl | rfl | rfl <;> decide

theorem Al.s3 {w0 : World} {g0 bx : Nat} {w W : World} (h : Al w0 g0 bx w) (hb : Below w.heap.size w W) : W.cell? ⟨bx, 0, none⟩ = some (.int .i64 0) ∧ W.cell? ⟨bx, 1, none⟩ = some (.int .i64 0) ∧ W.cell? ⟨bx, 2, none⟩ = some (.slice none 0 0) := (h.next hb).three
theorem Blk.far3 {w : World} {g b : Nat} {t : TypeId} {cs : Array Value} {x y z : Value} (h : Blk w g t cs) (hne : g ≠ b) : Blk (((w.setCell ⟨b, 0, none⟩ x).setCell ⟨b, 1, none⟩ y).setCell ⟨b, 2, none⟩ z) g t cs := ((h.far (p := ⟨b, 0, none⟩) hne _).far (p := ⟨b, 1, none⟩) hne _).far (p := ⟨b, 2, none⟩) hne _
theorem exB_in {W : World} {g1 g2 g3 : Nat} (n1 : Blk W g1 53 #[.int .i64 0, .int .i64 0, .slice none 0 0]) (n2 : Blk W g2 53 #[.int .i64 2, .int .i64 1, .slice (some ⟨g1, 0, none⟩) 1 1])
    (n3 : Blk W g3 53 #[.int .i64 0, .int .i64 0, .slice none 0 0, .int .i64 1, .int .i64 1, .slice (some ⟨g2, 0, none⟩) 1 1]) : T.InL W (fun b => b < W.heap.size) exB.args (.slice (some ⟨g3, 0, none⟩) 2 2) :=
  InL_blkI n3 (RowI2 InLI_nil (InL_blkI n2 (RowI1 (InL_blkI n1 (RowI1 InLI_nil) 1 rfl (by omega))) 1 rfl (by omega))) 2 rfl (by omega)

theorem alive_one {l : List Lz} {E0 : Int} {lst0 : List S} {W w' : World} {e : Ending} (hl : Ans exSy l E0 lst0) (h : SortsPost exSy l W e w') :
    ∃ A n c, e = .returned (.tuple #[.slice A n c, .int .i64 E0]) ∧ (S.mk lst0).In w' 0 w'.heap.size (.slice A n c) ∧ Below W.heap.size W w' := by
  obtain ⟨E, lst, v, fp, rfl, h1, h2, h3, h4, h5⟩ := h
  obtain ⟨rfl, rfl⟩ := hl.one h1
  obtain ⟨A, n, c, rfl⟩ := h2.form
  exact ⟨A, n, c, rfl, S.Sep.in_ _ h2 (fun b hb => ⟨Nat.zero_le _, (h4 b hb).2⟩), h5⟩
theorem LzIn_blk {w : World} {g : Nat} {f f' : Lz} {v v' : Value} (hb : Blk w g 70 ((f.cells v).toList ++ (f'.cells v').toList).toArray) (h : f.body.In w (fun b => b < w.heap.size) v) (h' : f'.body.In w (fun b => b < w.heap.size) v') (hn : f.name.size ≤ maxLen) (hn' : f'.name.size ≤ maxLen) :
    LzIn w w.heap.size [f, f'] (.slice (some ⟨g, 0, none⟩) 2 2) := by
  refine ⟨_, _, _, (f.cells v).toList ++ (f'.cells v').toList, rfl, rfl, Nat.le_refl _, by omega, .inr ⟨_, rfl, hb.lt, fun j u hj => ?_⟩, ?_⟩
  · have hadd : (⟨g, 0, none⟩ : Addr).add j = ⟨g, j, none⟩ := by unfold Addr.add; split <;> simp_all
    rw [hadd, hb.cell]
    simpa using hj
  · simp only [Lz.cells, List.cons_append, List.nil_append, LzRow]
    exact ⟨v, _, rfl, h, hn, v', [], rfl, h', hn', rfl⟩
theorem ex_fit1 : ∀ f ∈ exL1, f.body.fit ∧ fit64 f.params := by
  intro f hf
  simp only [exL1, List.mem_cons, List.not_mem_nil, or_false] at hf
  rcases hf with rfl | rfl <;> simp [T.fit, T.fitL, fit64, exB, exX]
theorem ex_fit2 : ∀ f ∈ exL2, f.body.fit ∧ fit64 f.params := by
  intro f hf
  simp only [exL2, List.mem_cons, List.not_mem_nil, or_false] at hf
  rcases hf with rfl | rfl <;> simp [T.fit, T.fitL, fit64, exX]
theorem ex_fit3 : ∀ f ∈ exL3, f.body.fit ∧ fit64 f.params := by
  intro f hf
  simp only [exL3, List.mem_cons, List.not_mem_nil, or_false] at hf
  rcases hf with rfl | rfl <;> simp [T.fit, T.fitL, fit64, exX]
theorem exX_in {W : World} {g : Nat} (n : Blk W g 53 #[.int .i64 0, .int .i64 0, .slice none 0 0]) : T.InL W (fun b => b < W.heap.size) [exX] (.slice (some ⟨g, 0, none⟩) 1 1) := InL_blkI n (RowI1 InLI_nil) 1 rfl (by omega)
theorem ex_mem0 {W : World} {lo hi : Nat} {A : Option Addr} {n c : Nat} (h : (S.mk []).In W lo hi (.slice A n c)) : n = 0 := by
  simp only [S.In] at h
  obtain ⟨_, _, _, h1, h2, _⟩ := h
  simp at h1 h2
  omega
theorem ex_mem {W : World} {lo hi : Nat} {x : S} {l : List S} {A : Option Addr} {n c : Nat} (h : (S.mk (x :: l)).In W lo hi (.slice A n c)) : n = l.length + 1 ∧ ∃ ad, A = some ad ∧ ∀ j y, (x :: l)[j]? = some y → ∃ u, W.cell? (ad.add j) = some u ∧ y.In W lo hi u := by
  simp only [S.In] at h
  obtain ⟨A', n', c', h1, h2, h3, h4, h5⟩ := h
  cases h1
  obtain ⟨ad, u, rfl, _⟩ := h5.at_ (j := 0) (x := x) rfl
  refine ⟨by simpa using h2.symm, ad, rfl, fun j y hy => ?_⟩
  obtain ⟨ad', u', e, _, _, g1, g2⟩ := h5.at_ hy
  cases e
  exact ⟨u', by simpa using g1, g2⟩
theorem ex_len {W : World} {lo hi : Nat} {l : List S} {u : Value} (h : (S.mk l).In W lo hi u) : ∃ A c, u = .slice A l.length c := by
  simp only [S.In] at h
  obtain ⟨A', n', c', h1, h2, _⟩ := h
  exact ⟨A', c', by rw [h1, h2]⟩
theorem ex_mem1 {W : World} {lo hi : Nat} {A : Option Addr} {n c : Nat} (h : (S.mk [.mk [], .mk [.mk []]]).In W lo hi (.slice A n c)) :
    n = 2 ∧ ∃ ad a1 c1 ad2 c2 a3 c3, A = some ad ∧ W.cell? ad = some (.slice a1 0 c1) ∧ W.cell? ⟨ad.block, ad.off + 1, none⟩ = some (.slice (some ad2) 1 c2) ∧ W.cell? ad2 = some (.slice a3 0 c3) := by
  have add0 : ∀ p : Addr, p.add 0 = p := fun p => by unfold Addr.add; split <;> simp_all
  obtain ⟨h0, ad, rfl, q⟩ := ex_mem h
  obtain ⟨u, h1, h2⟩ := q 0 _ rfl
  obtain ⟨v, h3, h4⟩ := q 1 _ rfl
  obtain ⟨a1, c1, rfl⟩ := ex_len h2
  obtain ⟨a2, c2, rfl⟩ := ex_len h4
  obtain ⟨_, ad2, rfl, q5⟩ := ex_mem h4
  obtain ⟨z, h6, h7⟩ := q5 0 _ rfl
  obtain ⟨a3, c3, rfl⟩ := ex_len h7
  rw [add0] at h1 h6
  exact ⟨h0, ad, a1, c1, ad2, c2, a3, c3, rfl, h1, h3, h6⟩
theorem ex_mem3 {W : World} {lo hi : Nat} {A : Option Addr} {n c : Nat} (h : (S.mk [.mk [], .mk [.mk [], .mk []]]).In W lo hi (.slice A n c)) :
    n = 2 ∧ ∃ ad a2 c2, A = some ad ∧ W.cell? ⟨ad.block, ad.off + 1, none⟩ = some (.slice a2 2 c2) := by
  obtain ⟨h0, ad, rfl, q⟩ := ex_mem h
  obtain ⟨v, h3, h4⟩ := q 1 _ rfl
  obtain ⟨a2, c2, rfl⟩ := ex_len h4
  exact ⟨h0, ad, a2, c2, rfl, h3⟩
/-- The call on one of the examples. -/
theorem alive_call {l : List Lz} {E0 : Int} {lst0 : List S} (ha : Ans exSy l E0 lst0) (hf : ∀ f ∈ l, f.body.fit ∧ fit64 f.params) {w0 W : World} {g0 bx : Nat} {v : Value} (h : Al w0 g0 bx W) (hl : LzIn W W.heap.size l v) :
    Calls Tryz.prog 25 #[.slice (some ⟨g0, 0, none⟩) 3 3, v] W fun e w' => ∃ A n c, e = .returned (.tuple #[.slice A n c, .int .i64 E0]) ∧ (S.mk lst0).In w' 0 w'.heap.size (.slice A n c) ∧ Below W.heap.size W w' :=
  (sortsI_any exSy l _ v W W.heap.size h.syms hl (Nat.le_refl _) hf).mono fun _ _ hp => alive_one ha hp
theorem exC_in {W : World} {g : Nat} (n : Blk W g 53 #[.int .i64 2, .int .i64 2, .slice none 0 0]) : T.InL W (fun b => b < W.heap.size) [.mk 2 2 []] (.slice (some ⟨g, 0, none⟩) 1 1) := InL_blkI n (RowI1 InLI_nil) 1 rfl (by omega)

set_option maxRecDepth 100000 in
set_option maxHeartbeats 25600000 in
theorem aliveI_any (w : World) : Calls Tryz.prog 9 #[] w fun e w' => e = .returned (.bool true) ∧ Below w.heap.size w w' := by
  go_enter Tryz.func9, Tryz.ntmps9
  go_wp2_with fail
  refine (term_any 0 0 none 0 0 _).mono ?_
  rintro e w1 ⟨rfl, b1⟩
  have k2 : Al w w.heap.size w1.heap.size (w1.alloc (.cells #[.int .i64 0, .int .i64 0, .slice none 0 0] 53)) :=
    ⟨(Blk.first b1).alloc _, Blk.new _ _ _, ((Below.refl _ _).alloc (Nat.le_refl _) _ |>.trans (b1.mono (by simp))).alloc (by have := b1.size; simp at this; omega) _⟩
  clear b1
  go_wp2_with fail
  generalize w1.alloc (.cells #[.int .i64 0, .int .i64 0, .slice none 0 0] 53) = w2 at *
  generalize hbx : w1.heap.size = bx at *
  clear hbx
  go_cut [3] from 15 to 22 (fun s3 wx => ∃ B3 A3, s3 = .pointer (some ⟨B3, 0, none⟩) ∧ Blk wx B3 53 #[.int .i64 2, .int .i64 0, .slice A3 2 2] ∧ T.InL wx (fun b => b < wx.heap.size) exB.args (.slice A3 2 2) ∧ Al w w.heap.size bx wx)
  case first =>
    have hbl := k2.bx.lt
    have HT := Lib.hid term_any
    refine wp_region_held_drew (S := (fun W : World => W.cell? ⟨bx, 0, none⟩ = some (.int .i64 0) ∧ W.cell? ⟨bx, 1, none⟩ = some (.int .i64 0) ∧ W.cell? ⟨bx, 2, none⟩ = some (.slice none 0 0))) (by kernel_rfl) k2.three (fun hHeld => ?_)
    refine wpAnyH_take (i := 0) (oi := { dst := some 15, op := Op.load 53 (Operand.tmp 2), type := 53, pos := "law.go:31", after := #[], guard := none }) (v := ?_) rfl (by kernel_rfl) (by kernel_rfl) (by kernel_rfl) (fun _ _ _ h => h) (Or.inl ⟨by rfl, ?_⟩) (by assumption) ?_
    rotate_left 1
    · intro w hSw
      (try dsimp only at hSw)
      go_simp <;> with_reducible rfl
    try simp only [Act.put, List.setIfInBounds_toArray, List.set_cons_zero, List.set_cons_succ]
    refine wpAnyH_take (i := 1) (oi := { dst := some 16, op := Op.load 53 (Operand.tmp 2), type := 53, pos := "law.go:31", after := #[], guard := none }) (v := ?_) rfl (by kernel_rfl) (by kernel_rfl) (by kernel_rfl) (fun _ _ _ h => h) (Or.inl ⟨by rfl, ?_⟩) (by assumption) ?_
    rotate_left 1
    · intro w hSw
      (try dsimp only at hSw)
      go_simp <;> with_reducible rfl
    try simp only [Act.put, List.setIfInBounds_toArray, List.set_cons_zero, List.set_cons_succ]
    refine wpAnyH_ready (rs := [2, 8]) (by kernel_rfl) (by simp) ?_
    refine AllReadyH.cons (o := { dst := some 17, op := Op.buildSlice 51 1 #[(0, Operand.tmp 16)], type := 51, pos := "law.go:31", after := #[{ on := 1, ground := Ground.data }], guard := none }) rfl (fun K hK => ?_) ?_
    · skip
      go_simp
      refine hK.out _ _ (k2.s3 (by exact ((Below.refl _ _).alloc (Nat.le_refl _) _).drew)) (fun hHeld => ?_)
      clear hK K
      try simp only [Act.put, List.setIfInBounds_toArray, List.set_cons_zero, List.set_cons_succ]
      refine wpAnyH_ready (rs := [3, 8]) (by kernel_rfl) (by simp) ?_
      refine AllReadyH.cons (o := { dst := some 18, op := Op.call { callee := Callee.value (Operand.func 24), args := #[Operand.const (Value.int IntKind.i64 2), Operand.const (Value.int IntKind.i64 1), Operand.tmp 17], argTypes := #[3, 3, 51] }, type := 53, pos := "law.go:31", after := #[{ on := 2, ground := Ground.data }], guard := none }) rfl (fun K hK => ?_) ?_
      · skip
        go_simp
        go_at_call 24
        refine (HT.out 2 1 _ 1 1 _).mono ?_
        rintro e x2 ⟨rfl, bx2⟩
        have hx2 : Below w2.heap.size w2 x2 := by
          have q : Below w2.heap.size w2 (w2.alloc (.cells #[.int .i64 0, .int .i64 0, .slice none 0 0] 53)).drew := ((Below.refl _ _).alloc (Nat.le_refl _) _).drew
          exact q.trans (bx2.mono q.size)
        have zx2 := hx2.size
        have yx2 := bx2.size
        try simp at yx2
        have n1_x2 := Blk.first_drew bx2
        go_wp2_with fail
        refine hK.out _ _ (k2.s3 hx2) (fun hHeld => ?_)
        clear hK K
        try simp only [Act.put, List.setIfInBounds_toArray, List.set_cons_zero, List.set_cons_succ]
        refine wpAnyH_ready (rs := [4, 8]) (by kernel_rfl) (by simp) ?_
        refine AllReadyH.cons (o := { dst := some 19, op := Op.buildSlice 51 1 #[(0, Operand.tmp 18)], type := 51, pos := "law.go:31", after := #[{ on := 3, ground := Ground.data }], guard := none }) rfl (fun K hK => ?_) ?_
        · skip
          go_simp
          refine hK.out _ _ (k2.s3 (by exact (hx2.trans ((((Below.refl _ _).alloc (Nat.le_refl _) _)).mono hx2.size)))) (fun hHeld => ?_)
          clear hK K
          try simp only [Act.put, List.setIfInBounds_toArray, List.set_cons_zero, List.set_cons_succ]
          refine wpAnyH_ready (rs := [5, 8]) (by kernel_rfl) (by simp) ?_
          refine AllReadyH.cons (o := { dst := some 20, op := Op.call { callee := Callee.value (Operand.func 24), args := #[Operand.const (Value.int IntKind.i64 1), Operand.const (Value.int IntKind.i64 1), Operand.tmp 19], argTypes := #[3, 3, 51] }, type := 53, pos := "law.go:31", after := #[{ on := 4, ground := Ground.data }, { on := 3, ground := Ground.chain }], guard := none }) rfl (fun K hK => ?_) ?_
          · skip
            go_simp
            go_at_call 24
            refine (HT.out 1 1 _ 1 1 _).mono ?_
            rintro e x4 ⟨rfl, bx4⟩
            have hx4 : Below w2.heap.size w2 x4 := by
              have q : Below w2.heap.size w2 (x2.alloc (.cells #[.int .i64 2, .int .i64 1, .slice (some ⟨w2.heap.size, 0, none⟩) 1 1] 53)) := (hx2.trans ((((Below.refl _ _).alloc (Nat.le_refl _) _)).mono hx2.size))
              exact q.trans (bx4.mono q.size)
            have zx4 := hx4.size
            have yx4 := bx4.size
            try simp at yx4
            have n1_x4 := n1_x2.next2 bx4 ((Below.refl _ _).alloc (Nat.le_refl _) _)
            have n2_x4 := Blk.first bx4
            go_wp2_with fail
            refine hK.out _ _ (k2.s3 hx4) (fun hHeld => ?_)
            clear hK K
            try simp only [Act.put, List.setIfInBounds_toArray, List.set_cons_zero, List.set_cons_succ]
            refine wpAnyH_ready (rs := [6, 8]) (by kernel_rfl) (by simp) ?_
            refine AllReadyH.cons (o := { dst := some 21, op := Op.buildSlice 51 2 #[(0, Operand.tmp 15), (1, Operand.tmp 20)], type := 51, pos := "law.go:31", after := #[{ on := 0, ground := Ground.data }, { on := 5, ground := Ground.data }], guard := none }) rfl (fun K hK => ?_) ?_
            · skip
              go_simp
              refine hK.out _ _ (k2.s3 (by exact (hx4.trans ((((Below.refl _ _).alloc (Nat.le_refl _) _)).mono hx4.size)))) (fun hHeld => ?_)
              clear hK K
              try simp only [Act.put, List.setIfInBounds_toArray, List.set_cons_zero, List.set_cons_succ]
              refine wpAnyH_ready (rs := [7, 8]) (by kernel_rfl) (by simp) ?_
              refine AllReadyH.cons (o := { dst := some 22, op := Op.call { callee := Callee.value (Operand.func 24), args := #[Operand.const (Value.int IntKind.i64 2), Operand.const (Value.int IntKind.i64 0), Operand.tmp 21], argTypes := #[3, 3, 51] }, type := 53, pos := "law.go:31", after := #[{ on := 6, ground := Ground.data }, { on := 5, ground := Ground.chain }], guard := none }) rfl (fun K hK => ?_) ?_
              · skip
                go_simp
                go_at_call 24
                refine (HT.out 2 0 _ 2 2 _).mono ?_
                rintro e x6 ⟨rfl, bx6⟩
                have hx6 : Below w2.heap.size w2 x6 := by
                  have q : Below w2.heap.size w2 (x4.alloc (.cells #[.int .i64 0, .int .i64 0, .slice none 0 0, .int .i64 1, .int .i64 1, .slice (some ⟨x2.heap.size, 0, none⟩) 1 1] 53)) := (hx4.trans ((((Below.refl _ _).alloc (Nat.le_refl _) _)).mono hx4.size))
                  exact q.trans (bx6.mono q.size)
                have zx6 := hx6.size
                have yx6 := bx6.size
                try simp at yx6
                have n1_x6 := n1_x4.next2 bx6 ((Below.refl _ _).alloc (Nat.le_refl _) _)
                have n2_x6 := n2_x4.next2 bx6 ((Below.refl _ _).alloc (Nat.le_refl _) _)
                have n3_x6 := Blk.first bx6
                go_wp2_with fail
                refine hK.out _ _ (k2.s3 hx6) (fun hHeld => ?_)
                clear hK K
                try simp only [Act.put, List.setIfInBounds_toArray, List.set_cons_zero, List.set_cons_succ]
                refine wpAnyH_ready (rs := [8]) (by kernel_rfl) (by simp) ?_
                refine AllReadyH.cons (o := { dst := some 3, op := Op.alloc 53, type := 0, pos := "law.go:31", after := #[], guard := none }) rfl (fun K hK => ?_) ?_
                · skip
                  go_simp
                  refine hK.out _ _ (k2.s3 (by exact (hx6.trans ((((Below.refl _ _).alloc (Nat.le_refl _) _)).mono hx6.size)))) (fun hHeld => ?_)
                  clear hK K
                  try simp only [Act.put, List.setIfInBounds_toArray, List.set_cons_zero, List.set_cons_succ]
                  refine wpAnyH_ready (rs := [9]) (by kernel_rfl) (by simp) ?_
                  refine AllReadyH.cons (o := { dst := none, op := Op.store 53 (Operand.tmp 3) (Operand.tmp 22), type := 0, pos := "law.go:31", after := #[{ on := 8, ground := Ground.data }, { on := 7, ground := Ground.data }, { on := 7, ground := Ground.chain }, { on := 0, ground := Ground.phase }, { on := 1, ground := Ground.phase }, { on := 2, ground := Ground.phase }, { on := 3, ground := Ground.phase }, { on := 4, ground := Ground.phase }, { on := 5, ground := Ground.phase }, { on := 6, ground := Ground.phase }, { on := 7, ground := Ground.phase }, { on := 8, ground := Ground.phase }], guard := none }) rfl (fun K hK => ?_) ?_
                  · skip
                    go_simp
                    refine hK.out _ _ (k2.s3 (by exact (hx6.trans ((((Below.refl _ _).alloc (Nat.le_refl _) _)).mono hx6.size)))) (fun hHeld => ?_)
                    clear hK K
                    try simp only [Act.put, List.setIfInBounds_toArray, List.set_cons_zero, List.set_cons_succ]
                    refine wpAnyH_done (by kernel_rfl) ?_ _
                    go_wp2_with fail
                    go_meet
                    exact ⟨_, _, rfl, Blk.new _ _ _, exB_in (n1_x6.alloc _) (n2_x6.alloc _) (n3_x6.alloc _), k2.next (by exact (hx6.trans ((((Below.refl _ _).alloc (Nat.le_refl _) _)).mono hx6.size)))⟩
                  exact AllReadyH.nil
                exact AllReadyH.nil
              refine AllReadyH.cons (o := { dst := some 3, op := Op.alloc 53, type := 0, pos := "law.go:31", after := #[], guard := none }) rfl (fun K hK => ?_) ?_
              · skip
                go_simp
                refine hK.out _ _ (k2.s3 (by exact (hx4.trans (((((Below.refl _ _).alloc (Nat.le_refl _) _).alloc (by simp) _)).mono hx4.size)))) (fun hHeld => ?_)
                clear hK K
                try simp only [Act.put, List.setIfInBounds_toArray, List.set_cons_zero, List.set_cons_succ]
                refine wpAnyH_ready (rs := [7]) (by kernel_rfl) (by simp) ?_
                refine AllReadyH.cons (o := { dst := some 22, op := Op.call { callee := Callee.value (Operand.func 24), args := #[Operand.const (Value.int IntKind.i64 2), Operand.const (Value.int IntKind.i64 0), Operand.tmp 21], argTypes := #[3, 3, 51] }, type := 53, pos := "law.go:31", after := #[{ on := 6, ground := Ground.data }, { on := 5, ground := Ground.chain }], guard := none }) rfl (fun K hK => ?_) ?_
                · skip
                  go_simp
                  go_at_call 24
                  refine (HT.out 2 0 _ 2 2 _).mono ?_
                  rintro e x10 ⟨rfl, bx10⟩
                  have hx10 : Below w2.heap.size w2 x10 := by
                    have q : Below w2.heap.size w2 ((x4.alloc (.cells #[.int .i64 0, .int .i64 0, .slice none 0 0, .int .i64 1, .int .i64 1, .slice (some ⟨x2.heap.size, 0, none⟩) 1 1] 53)).alloc (.cells #[.int .i64 0, .int .i64 0, .slice none 0 0] 53)) := (hx4.trans (((((Below.refl _ _).alloc (Nat.le_refl _) _).alloc (by simp) _)).mono hx4.size))
                    exact q.trans (bx10.mono q.size)
                  have zx10 := hx10.size
                  have yx10 := bx10.size
                  try simp at yx10
                  have n1_x10 := n1_x4.next2 bx10 (((Below.refl _ _).alloc (Nat.le_refl _) _).alloc (by simp) _)
                  have n2_x10 := n2_x4.next2 bx10 (((Below.refl _ _).alloc (Nat.le_refl _) _).alloc (by simp) _)
                  obtain ⟨n3_x10, nB_x10⟩ := Blk.both bx10
                  go_wp2_with fail
                  refine hK.out _ _ (k2.s3 hx10) (fun hHeld => ?_)
                  clear hK K
                  try simp only [Act.put, List.setIfInBounds_toArray, List.set_cons_zero, List.set_cons_succ]
                  refine wpAnyH_ready (rs := [9]) (by kernel_rfl) (by simp) ?_
                  refine AllReadyH.cons (o := { dst := none, op := Op.store 53 (Operand.tmp 3) (Operand.tmp 22), type := 0, pos := "law.go:31", after := #[{ on := 8, ground := Ground.data }, { on := 7, ground := Ground.data }, { on := 7, ground := Ground.chain }, { on := 0, ground := Ground.phase }, { on := 1, ground := Ground.phase }, { on := 2, ground := Ground.phase }, { on := 3, ground := Ground.phase }, { on := 4, ground := Ground.phase }, { on := 5, ground := Ground.phase }, { on := 6, ground := Ground.phase }, { on := 7, ground := Ground.phase }, { on := 8, ground := Ground.phase }], guard := none }) rfl (fun K hK => ?_) ?_
                  · skip
                    have hF := nB_x10.tri
                    have hS : Below w2.heap.size w2 (((x10.setCell ⟨x4.heap.size + 1, 0, none⟩ (.int .i64 2)).setCell ⟨x4.heap.size + 1, 1, none⟩ (.int .i64 0)).setCell ⟨x4.heap.size + 1, 2, none⟩ (.slice (some ⟨x4.heap.size, 0, none⟩) 2 2)) := ((hx10.setCell (p := ⟨x4.heap.size + 1, 0, none⟩) (by show _ ≤ x4.heap.size + 1; omega) _).setCell (p := ⟨x4.heap.size + 1, 1, none⟩) (by show _ ≤ x4.heap.size + 1; omega) _).setCell (p := ⟨x4.heap.size + 1, 2, none⟩) (by show _ ≤ x4.heap.size + 1; omega) _
                    go_simp
                    refine hK.out _ _ (k2.s3 hS) (fun hHeld => ?_)
                    clear hK K
                    try simp only [Act.put, List.setIfInBounds_toArray, List.set_cons_zero, List.set_cons_succ]
                    refine wpAnyH_done (by kernel_rfl) ?_ _
                    go_wp2_with fail
                    go_meet
                    exact ⟨x4.heap.size + 1, _, rfl, (((nB_x10.set_ 0 _).set_ 1 _).set_ 2 _).eq_ rfl, exB_in (n1_x10.far3 (by omega)) (n2_x10.far3 (by omega)) (n3_x10.far3 (by omega)), k2.next hS⟩
                  exact AllReadyH.nil
                exact AllReadyH.nil
              exact AllReadyH.nil
            refine AllReadyH.cons (o := { dst := some 3, op := Op.alloc 53, type := 0, pos := "law.go:31", after := #[], guard := none }) rfl (fun K hK => ?_) ?_
            · skip
              go_simp
              refine hK.out _ _ (k2.s3 (by exact (hx4.trans ((((Below.refl _ _).alloc (Nat.le_refl _) _)).mono hx4.size)))) (fun hHeld => ?_)
              clear hK K
              try simp only [Act.put, List.setIfInBounds_toArray, List.set_cons_zero, List.set_cons_succ]
              refine wpAnyH_ready (rs := [6]) (by kernel_rfl) (by simp) ?_
              refine AllReadyH.cons (o := { dst := some 21, op := Op.buildSlice 51 2 #[(0, Operand.tmp 15), (1, Operand.tmp 20)], type := 51, pos := "law.go:31", after := #[{ on := 0, ground := Ground.data }, { on := 5, ground := Ground.data }], guard := none }) rfl (fun K hK => ?_) ?_
              · skip
                go_simp
                refine hK.out _ _ (k2.s3 (by exact (hx4.trans (((((Below.refl _ _).alloc (Nat.le_refl _) _).alloc (by simp) _)).mono hx4.size)))) (fun hHeld => ?_)
                clear hK K
                try simp only [Act.put, List.setIfInBounds_toArray, List.set_cons_zero, List.set_cons_succ]
                refine wpAnyH_ready (rs := [7]) (by kernel_rfl) (by simp) ?_
                refine AllReadyH.cons (o := { dst := some 22, op := Op.call { callee := Callee.value (Operand.func 24), args := #[Operand.const (Value.int IntKind.i64 2), Operand.const (Value.int IntKind.i64 0), Operand.tmp 21], argTypes := #[3, 3, 51] }, type := 53, pos := "law.go:31", after := #[{ on := 6, ground := Ground.data }, { on := 5, ground := Ground.chain }], guard := none }) rfl (fun K hK => ?_) ?_
                · skip
                  go_simp
                  go_at_call 24
                  refine (HT.out 2 0 _ 2 2 _).mono ?_
                  rintro e x14 ⟨rfl, bx14⟩
                  have hx14 : Below w2.heap.size w2 x14 := by
                    have q : Below w2.heap.size w2 ((x4.alloc (.cells #[.int .i64 0, .int .i64 0, .slice none 0 0] 53)).alloc (.cells #[.int .i64 0, .int .i64 0, .slice none 0 0, .int .i64 1, .int .i64 1, .slice (some ⟨x2.heap.size, 0, none⟩) 1 1] 53)) := (hx4.trans (((((Below.refl _ _).alloc (Nat.le_refl _) _).alloc (by simp) _)).mono hx4.size))
                    exact q.trans (bx14.mono q.size)
                  have zx14 := hx14.size
                  have yx14 := bx14.size
                  try simp at yx14
                  have n1_x14 := n1_x4.next2 bx14 (((Below.refl _ _).alloc (Nat.le_refl _) _).alloc (by simp) _)
                  have n2_x14 := n2_x4.next2 bx14 (((Below.refl _ _).alloc (Nat.le_refl _) _).alloc (by simp) _)
                  obtain ⟨nB_x14, n3_x14⟩ := Blk.both bx14
                  go_wp2_with fail
                  refine hK.out _ _ (k2.s3 hx14) (fun hHeld => ?_)
                  clear hK K
                  try simp only [Act.put, List.setIfInBounds_toArray, List.set_cons_zero, List.set_cons_succ]
                  refine wpAnyH_ready (rs := [9]) (by kernel_rfl) (by simp) ?_
                  refine AllReadyH.cons (o := { dst := none, op := Op.store 53 (Operand.tmp 3) (Operand.tmp 22), type := 0, pos := "law.go:31", after := #[{ on := 8, ground := Ground.data }, { on := 7, ground := Ground.data }, { on := 7, ground := Ground.chain }, { on := 0, ground := Ground.phase }, { on := 1, ground := Ground.phase }, { on := 2, ground := Ground.phase }, { on := 3, ground := Ground.phase }, { on := 4, ground := Ground.phase }, { on := 5, ground := Ground.phase }, { on := 6, ground := Ground.phase }, { on := 7, ground := Ground.phase }, { on := 8, ground := Ground.phase }], guard := none }) rfl (fun K hK => ?_) ?_
                  · skip
                    have hF := nB_x14.tri
                    have hS : Below w2.heap.size w2 (((x14.setCell ⟨x4.heap.size, 0, none⟩ (.int .i64 2)).setCell ⟨x4.heap.size, 1, none⟩ (.int .i64 0)).setCell ⟨x4.heap.size, 2, none⟩ (.slice (some ⟨x4.heap.size + 1, 0, none⟩) 2 2)) := ((hx14.setCell (p := ⟨x4.heap.size, 0, none⟩) (by show _ ≤ x4.heap.size; omega) _).setCell (p := ⟨x4.heap.size, 1, none⟩) (by show _ ≤ x4.heap.size; omega) _).setCell (p := ⟨x4.heap.size, 2, none⟩) (by show _ ≤ x4.heap.size; omega) _
                    go_simp
                    refine hK.out _ _ (k2.s3 hS) (fun hHeld => ?_)
                    clear hK K
                    try simp only [Act.put, List.setIfInBounds_toArray, List.set_cons_zero, List.set_cons_succ]
                    refine wpAnyH_done (by kernel_rfl) ?_ _
                    go_wp2_with fail
                    go_meet
                    exact ⟨x4.heap.size, _, rfl, (((nB_x14.set_ 0 _).set_ 1 _).set_ 2 _).eq_ rfl, exB_in (n1_x14.far3 (by omega)) (n2_x14.far3 (by omega)) (n3_x14.far3 (by omega)), k2.next hS⟩
                  exact AllReadyH.nil
                exact AllReadyH.nil
              exact AllReadyH.nil
            exact AllReadyH.nil
          refine AllReadyH.cons (o := { dst := some 3, op := Op.alloc 53, type := 0, pos := "law.go:31", after := #[], guard := none }) rfl (fun K hK => ?_) ?_
          · skip
            go_simp
            refine hK.out _ _ (k2.s3 (by exact (hx2.trans (((((Below.refl _ _).alloc (Nat.le_refl _) _).alloc (by simp) _)).mono hx2.size)))) (fun hHeld => ?_)
            clear hK K
            try simp only [Act.put, List.setIfInBounds_toArray, List.set_cons_zero, List.set_cons_succ]
            refine wpAnyH_ready (rs := [5]) (by kernel_rfl) (by simp) ?_
            refine AllReadyH.cons (o := { dst := some 20, op := Op.call { callee := Callee.value (Operand.func 24), args := #[Operand.const (Value.int IntKind.i64 1), Operand.const (Value.int IntKind.i64 1), Operand.tmp 19], argTypes := #[3, 3, 51] }, type := 53, pos := "law.go:31", after := #[{ on := 4, ground := Ground.data }, { on := 3, ground := Ground.chain }], guard := none }) rfl (fun K hK => ?_) ?_
            · skip
              go_simp
              go_at_call 24
              refine (HT.out 1 1 _ 1 1 _).mono ?_
              rintro e x17 ⟨rfl, bx17⟩
              have hx17 : Below w2.heap.size w2 x17 := by
                have q : Below w2.heap.size w2 ((x2.alloc (.cells #[.int .i64 2, .int .i64 1, .slice (some ⟨w2.heap.size, 0, none⟩) 1 1] 53)).alloc (.cells #[.int .i64 0, .int .i64 0, .slice none 0 0] 53)) := (hx2.trans (((((Below.refl _ _).alloc (Nat.le_refl _) _).alloc (by simp) _)).mono hx2.size))
                exact q.trans (bx17.mono q.size)
              have zx17 := hx17.size
              have yx17 := bx17.size
              try simp at yx17
              have n1_x17 := n1_x2.next2 bx17 (((Below.refl _ _).alloc (Nat.le_refl _) _).alloc (by simp) _)
              obtain ⟨n2_x17, nB_x17⟩ := Blk.both bx17
              go_wp2_with fail
              refine hK.out _ _ (k2.s3 hx17) (fun hHeld => ?_)
              clear hK K
              try simp only [Act.put, List.setIfInBounds_toArray, List.set_cons_zero, List.set_cons_succ]
              refine wpAnyH_ready (rs := [6]) (by kernel_rfl) (by simp) ?_
              refine AllReadyH.cons (o := { dst := some 21, op := Op.buildSlice 51 2 #[(0, Operand.tmp 15), (1, Operand.tmp 20)], type := 51, pos := "law.go:31", after := #[{ on := 0, ground := Ground.data }, { on := 5, ground := Ground.data }], guard := none }) rfl (fun K hK => ?_) ?_
              · skip
                go_simp
                refine hK.out _ _ (k2.s3 (by exact (hx17.trans ((((Below.refl _ _).alloc (Nat.le_refl _) _)).mono hx17.size)))) (fun hHeld => ?_)
                clear hK K
                try simp only [Act.put, List.setIfInBounds_toArray, List.set_cons_zero, List.set_cons_succ]
                refine wpAnyH_ready (rs := [7]) (by kernel_rfl) (by simp) ?_
                refine AllReadyH.cons (o := { dst := some 22, op := Op.call { callee := Callee.value (Operand.func 24), args := #[Operand.const (Value.int IntKind.i64 2), Operand.const (Value.int IntKind.i64 0), Operand.tmp 21], argTypes := #[3, 3, 51] }, type := 53, pos := "law.go:31", after := #[{ on := 6, ground := Ground.data }, { on := 5, ground := Ground.chain }], guard := none }) rfl (fun K hK => ?_) ?_
                · skip
                  go_simp
                  go_at_call 24
                  refine (HT.out 2 0 _ 2 2 _).mono ?_
                  rintro e x19 ⟨rfl, bx19⟩
                  have hx19 : Below w2.heap.size w2 x19 := by
                    have q : Below w2.heap.size w2 (x17.alloc (.cells #[.int .i64 0, .int .i64 0, .slice none 0 0, .int .i64 1, .int .i64 1, .slice (some ⟨x2.heap.size, 0, none⟩) 1 1] 53)) := (hx17.trans ((((Below.refl _ _).alloc (Nat.le_refl _) _)).mono hx17.size))
                    exact q.trans (bx19.mono q.size)
                  have zx19 := hx19.size
                  have yx19 := bx19.size
                  try simp at yx19
                  have n1_x19 := n1_x17.next2 bx19 ((Below.refl _ _).alloc (Nat.le_refl _) _)
                  have n2_x19 := n2_x17.next2 bx19 ((Below.refl _ _).alloc (Nat.le_refl _) _)
                  have nB_x19 := nB_x17.next2 bx19 ((Below.refl _ _).alloc (Nat.le_refl _) _)
                  have n3_x19 := Blk.first bx19
                  go_wp2_with fail
                  refine hK.out _ _ (k2.s3 hx19) (fun hHeld => ?_)
                  clear hK K
                  try simp only [Act.put, List.setIfInBounds_toArray, List.set_cons_zero, List.set_cons_succ]
                  refine wpAnyH_ready (rs := [9]) (by kernel_rfl) (by simp) ?_
                  refine AllReadyH.cons (o := { dst := none, op := Op.store 53 (Operand.tmp 3) (Operand.tmp 22), type := 0, pos := "law.go:31", after := #[{ on := 8, ground := Ground.data }, { on := 7, ground := Ground.data }, { on := 7, ground := Ground.chain }, { on := 0, ground := Ground.phase }, { on := 1, ground := Ground.phase }, { on := 2, ground := Ground.phase }, { on := 3, ground := Ground.phase }, { on := 4, ground := Ground.phase }, { on := 5, ground := Ground.phase }, { on := 6, ground := Ground.phase }, { on := 7, ground := Ground.phase }, { on := 8, ground := Ground.phase }], guard := none }) rfl (fun K hK => ?_) ?_
                  · skip
                    have hF := nB_x19.tri
                    have hS : Below w2.heap.size w2 (((x19.setCell ⟨x2.heap.size + 1, 0, none⟩ (.int .i64 2)).setCell ⟨x2.heap.size + 1, 1, none⟩ (.int .i64 0)).setCell ⟨x2.heap.size + 1, 2, none⟩ (.slice (some ⟨x17.heap.size, 0, none⟩) 2 2)) := ((hx19.setCell (p := ⟨x2.heap.size + 1, 0, none⟩) (by show _ ≤ x2.heap.size + 1; omega) _).setCell (p := ⟨x2.heap.size + 1, 1, none⟩) (by show _ ≤ x2.heap.size + 1; omega) _).setCell (p := ⟨x2.heap.size + 1, 2, none⟩) (by show _ ≤ x2.heap.size + 1; omega) _
                    go_simp
                    refine hK.out _ _ (k2.s3 hS) (fun hHeld => ?_)
                    clear hK K
                    try simp only [Act.put, List.setIfInBounds_toArray, List.set_cons_zero, List.set_cons_succ]
                    refine wpAnyH_done (by kernel_rfl) ?_ _
                    go_wp2_with fail
                    go_meet
                    exact ⟨x2.heap.size + 1, _, rfl, (((nB_x19.set_ 0 _).set_ 1 _).set_ 2 _).eq_ rfl, exB_in (n1_x19.far3 (by omega)) (n2_x19.far3 (by omega)) (n3_x19.far3 (by omega)), k2.next hS⟩
                  exact AllReadyH.nil
                exact AllReadyH.nil
              exact AllReadyH.nil
            exact AllReadyH.nil
          exact AllReadyH.nil
        refine AllReadyH.cons (o := { dst := some 3, op := Op.alloc 53, type := 0, pos := "law.go:31", after := #[], guard := none }) rfl (fun K hK => ?_) ?_
        · skip
          go_simp
          refine hK.out _ _ (k2.s3 (by exact (hx2.trans ((((Below.refl _ _).alloc (Nat.le_refl _) _)).mono hx2.size)))) (fun hHeld => ?_)
          clear hK K
          try simp only [Act.put, List.setIfInBounds_toArray, List.set_cons_zero, List.set_cons_succ]
          refine wpAnyH_ready (rs := [4]) (by kernel_rfl) (by simp) ?_
          refine AllReadyH.cons (o := { dst := some 19, op := Op.buildSlice 51 1 #[(0, Operand.tmp 18)], type := 51, pos := "law.go:31", after := #[{ on := 3, ground := Ground.data }], guard := none }) rfl (fun K hK => ?_) ?_
          · skip
            go_simp
            refine hK.out _ _ (k2.s3 (by exact (hx2.trans (((((Below.refl _ _).alloc (Nat.le_refl _) _).alloc (by simp) _)).mono hx2.size)))) (fun hHeld => ?_)
            clear hK K
            try simp only [Act.put, List.setIfInBounds_toArray, List.set_cons_zero, List.set_cons_succ]
            refine wpAnyH_ready (rs := [5]) (by kernel_rfl) (by simp) ?_
            refine AllReadyH.cons (o := { dst := some 20, op := Op.call { callee := Callee.value (Operand.func 24), args := #[Operand.const (Value.int IntKind.i64 1), Operand.const (Value.int IntKind.i64 1), Operand.tmp 19], argTypes := #[3, 3, 51] }, type := 53, pos := "law.go:31", after := #[{ on := 4, ground := Ground.data }, { on := 3, ground := Ground.chain }], guard := none }) rfl (fun K hK => ?_) ?_
            · skip
              go_simp
              go_at_call 24
              refine (HT.out 1 1 _ 1 1 _).mono ?_
              rintro e x23 ⟨rfl, bx23⟩
              have hx23 : Below w2.heap.size w2 x23 := by
                have q : Below w2.heap.size w2 ((x2.alloc (.cells #[.int .i64 0, .int .i64 0, .slice none 0 0] 53)).alloc (.cells #[.int .i64 2, .int .i64 1, .slice (some ⟨w2.heap.size, 0, none⟩) 1 1] 53)) := (hx2.trans (((((Below.refl _ _).alloc (Nat.le_refl _) _).alloc (by simp) _)).mono hx2.size))
                exact q.trans (bx23.mono q.size)
              have zx23 := hx23.size
              have yx23 := bx23.size
              try simp at yx23
              have n1_x23 := n1_x2.next2 bx23 (((Below.refl _ _).alloc (Nat.le_refl _) _).alloc (by simp) _)
              obtain ⟨nB_x23, n2_x23⟩ := Blk.both bx23
              go_wp2_with fail
              refine hK.out _ _ (k2.s3 hx23) (fun hHeld => ?_)
              clear hK K
              try simp only [Act.put, List.setIfInBounds_toArray, List.set_cons_zero, List.set_cons_succ]
              refine wpAnyH_ready (rs := [6]) (by kernel_rfl) (by simp) ?_
              refine AllReadyH.cons (o := { dst := some 21, op := Op.buildSlice 51 2 #[(0, Operand.tmp 15), (1, Operand.tmp 20)], type := 51, pos := "law.go:31", after := #[{ on := 0, ground := Ground.data }, { on := 5, ground := Ground.data }], guard := none }) rfl (fun K hK => ?_) ?_
              · skip
                go_simp
                refine hK.out _ _ (k2.s3 (by exact (hx23.trans ((((Below.refl _ _).alloc (Nat.le_refl _) _)).mono hx23.size)))) (fun hHeld => ?_)
                clear hK K
                try simp only [Act.put, List.setIfInBounds_toArray, List.set_cons_zero, List.set_cons_succ]
                refine wpAnyH_ready (rs := [7]) (by kernel_rfl) (by simp) ?_
                refine AllReadyH.cons (o := { dst := some 22, op := Op.call { callee := Callee.value (Operand.func 24), args := #[Operand.const (Value.int IntKind.i64 2), Operand.const (Value.int IntKind.i64 0), Operand.tmp 21], argTypes := #[3, 3, 51] }, type := 53, pos := "law.go:31", after := #[{ on := 6, ground := Ground.data }, { on := 5, ground := Ground.chain }], guard := none }) rfl (fun K hK => ?_) ?_
                · skip
                  go_simp
                  go_at_call 24
                  refine (HT.out 2 0 _ 2 2 _).mono ?_
                  rintro e x25 ⟨rfl, bx25⟩
                  have hx25 : Below w2.heap.size w2 x25 := by
                    have q : Below w2.heap.size w2 (x23.alloc (.cells #[.int .i64 0, .int .i64 0, .slice none 0 0, .int .i64 1, .int .i64 1, .slice (some ⟨x2.heap.size + 1, 0, none⟩) 1 1] 53)) := (hx23.trans ((((Below.refl _ _).alloc (Nat.le_refl _) _)).mono hx23.size))
                    exact q.trans (bx25.mono q.size)
                  have zx25 := hx25.size
                  have yx25 := bx25.size
                  try simp at yx25
                  have n1_x25 := n1_x23.next2 bx25 ((Below.refl _ _).alloc (Nat.le_refl _) _)
                  have nB_x25 := nB_x23.next2 bx25 ((Below.refl _ _).alloc (Nat.le_refl _) _)
                  have n2_x25 := n2_x23.next2 bx25 ((Below.refl _ _).alloc (Nat.le_refl _) _)
                  have n3_x25 := Blk.first bx25
                  go_wp2_with fail
                  refine hK.out _ _ (k2.s3 hx25) (fun hHeld => ?_)
                  clear hK K
                  try simp only [Act.put, List.setIfInBounds_toArray, List.set_cons_zero, List.set_cons_succ]
                  refine wpAnyH_ready (rs := [9]) (by kernel_rfl) (by simp) ?_
                  refine AllReadyH.cons (o := { dst := none, op := Op.store 53 (Operand.tmp 3) (Operand.tmp 22), type := 0, pos := "law.go:31", after := #[{ on := 8, ground := Ground.data }, { on := 7, ground := Ground.data }, { on := 7, ground := Ground.chain }, { on := 0, ground := Ground.phase }, { on := 1, ground := Ground.phase }, { on := 2, ground := Ground.phase }, { on := 3, ground := Ground.phase }, { on := 4, ground := Ground.phase }, { on := 5, ground := Ground.phase }, { on := 6, ground := Ground.phase }, { on := 7, ground := Ground.phase }, { on := 8, ground := Ground.phase }], guard := none }) rfl (fun K hK => ?_) ?_
                  · skip
                    have hF := nB_x25.tri
                    have hS : Below w2.heap.size w2 (((x25.setCell ⟨x2.heap.size, 0, none⟩ (.int .i64 2)).setCell ⟨x2.heap.size, 1, none⟩ (.int .i64 0)).setCell ⟨x2.heap.size, 2, none⟩ (.slice (some ⟨x23.heap.size, 0, none⟩) 2 2)) := ((hx25.setCell (p := ⟨x2.heap.size, 0, none⟩) (by show _ ≤ x2.heap.size; omega) _).setCell (p := ⟨x2.heap.size, 1, none⟩) (by show _ ≤ x2.heap.size; omega) _).setCell (p := ⟨x2.heap.size, 2, none⟩) (by show _ ≤ x2.heap.size; omega) _
                    go_simp
                    refine hK.out _ _ (k2.s3 hS) (fun hHeld => ?_)
                    clear hK K
                    try simp only [Act.put, List.setIfInBounds_toArray, List.set_cons_zero, List.set_cons_succ]
                    refine wpAnyH_done (by kernel_rfl) ?_ _
                    go_wp2_with fail
                    go_meet
                    exact ⟨x2.heap.size, _, rfl, (((nB_x25.set_ 0 _).set_ 1 _).set_ 2 _).eq_ rfl, exB_in (n1_x25.far3 (by omega)) (n2_x25.far3 (by omega)) (n3_x25.far3 (by omega)), k2.next hS⟩
                  exact AllReadyH.nil
                exact AllReadyH.nil
              exact AllReadyH.nil
            exact AllReadyH.nil
          exact AllReadyH.nil
        exact AllReadyH.nil
      refine AllReadyH.cons (o := { dst := some 3, op := Op.alloc 53, type := 0, pos := "law.go:31", after := #[], guard := none }) rfl (fun K hK => ?_) ?_
      · skip
        go_simp
        refine hK.out _ _ (k2.s3 (by exact (((Below.refl _ _).alloc (Nat.le_refl _) _).alloc (by simp) _).drew)) (fun hHeld => ?_)
        clear hK K
        try simp only [Act.put, List.setIfInBounds_toArray, List.set_cons_zero, List.set_cons_succ]
        refine wpAnyH_ready (rs := [3]) (by kernel_rfl) (by simp) ?_
        refine AllReadyH.cons (o := { dst := some 18, op := Op.call { callee := Callee.value (Operand.func 24), args := #[Operand.const (Value.int IntKind.i64 2), Operand.const (Value.int IntKind.i64 1), Operand.tmp 17], argTypes := #[3, 3, 51] }, type := 53, pos := "law.go:31", after := #[{ on := 2, ground := Ground.data }], guard := none }) rfl (fun K hK => ?_) ?_
        · skip
          go_simp
          go_at_call 24
          refine (HT.out 2 1 _ 1 1 _).mono ?_
          rintro e x28 ⟨rfl, bx28⟩
          have hx28 : Below w2.heap.size w2 x28 := by
            have q : Below w2.heap.size w2 ((w2.alloc (.cells #[.int .i64 0, .int .i64 0, .slice none 0 0] 53)).alloc (.cells #[.int .i64 0, .int .i64 0, .slice none 0 0] 53)).drew := (((Below.refl _ _).alloc (Nat.le_refl _) _).alloc (by simp) _).drew
            exact q.trans (bx28.mono q.size)
          have zx28 := hx28.size
          have yx28 := bx28.size
          try simp at yx28
          obtain ⟨n1_x28, nB_x28⟩ := Blk.both_drew bx28
          go_wp2_with fail
          refine hK.out _ _ (k2.s3 hx28) (fun hHeld => ?_)
          clear hK K
          try simp only [Act.put, List.setIfInBounds_toArray, List.set_cons_zero, List.set_cons_succ]
          refine wpAnyH_ready (rs := [4]) (by kernel_rfl) (by simp) ?_
          refine AllReadyH.cons (o := { dst := some 19, op := Op.buildSlice 51 1 #[(0, Operand.tmp 18)], type := 51, pos := "law.go:31", after := #[{ on := 3, ground := Ground.data }], guard := none }) rfl (fun K hK => ?_) ?_
          · skip
            go_simp
            refine hK.out _ _ (k2.s3 (by exact (hx28.trans ((((Below.refl _ _).alloc (Nat.le_refl _) _)).mono hx28.size)))) (fun hHeld => ?_)
            clear hK K
            try simp only [Act.put, List.setIfInBounds_toArray, List.set_cons_zero, List.set_cons_succ]
            refine wpAnyH_ready (rs := [5]) (by kernel_rfl) (by simp) ?_
            refine AllReadyH.cons (o := { dst := some 20, op := Op.call { callee := Callee.value (Operand.func 24), args := #[Operand.const (Value.int IntKind.i64 1), Operand.const (Value.int IntKind.i64 1), Operand.tmp 19], argTypes := #[3, 3, 51] }, type := 53, pos := "law.go:31", after := #[{ on := 4, ground := Ground.data }, { on := 3, ground := Ground.chain }], guard := none }) rfl (fun K hK => ?_) ?_
            · skip
              go_simp
              go_at_call 24
              refine (HT.out 1 1 _ 1 1 _).mono ?_
              rintro e x30 ⟨rfl, bx30⟩
              have hx30 : Below w2.heap.size w2 x30 := by
                have q : Below w2.heap.size w2 (x28.alloc (.cells #[.int .i64 2, .int .i64 1, .slice (some ⟨w2.heap.size, 0, none⟩) 1 1] 53)) := (hx28.trans ((((Below.refl _ _).alloc (Nat.le_refl _) _)).mono hx28.size))
                exact q.trans (bx30.mono q.size)
              have zx30 := hx30.size
              have yx30 := bx30.size
              try simp at yx30
              have n1_x30 := n1_x28.next2 bx30 ((Below.refl _ _).alloc (Nat.le_refl _) _)
              have nB_x30 := nB_x28.next2 bx30 ((Below.refl _ _).alloc (Nat.le_refl _) _)
              have n2_x30 := Blk.first bx30
              go_wp2_with fail
              refine hK.out _ _ (k2.s3 hx30) (fun hHeld => ?_)
              clear hK K
              try simp only [Act.put, List.setIfInBounds_toArray, List.set_cons_zero, List.set_cons_succ]
              refine wpAnyH_ready (rs := [6]) (by kernel_rfl) (by simp) ?_
              refine AllReadyH.cons (o := { dst := some 21, op := Op.buildSlice 51 2 #[(0, Operand.tmp 15), (1, Operand.tmp 20)], type := 51, pos := "law.go:31", after := #[{ on := 0, ground := Ground.data }, { on := 5, ground := Ground.data }], guard := none }) rfl (fun K hK => ?_) ?_
              · skip
                go_simp
                refine hK.out _ _ (k2.s3 (by exact (hx30.trans ((((Below.refl _ _).alloc (Nat.le_refl _) _)).mono hx30.size)))) (fun hHeld => ?_)
                clear hK K
                try simp only [Act.put, List.setIfInBounds_toArray, List.set_cons_zero, List.set_cons_succ]
                refine wpAnyH_ready (rs := [7]) (by kernel_rfl) (by simp) ?_
                refine AllReadyH.cons (o := { dst := some 22, op := Op.call { callee := Callee.value (Operand.func 24), args := #[Operand.const (Value.int IntKind.i64 2), Operand.const (Value.int IntKind.i64 0), Operand.tmp 21], argTypes := #[3, 3, 51] }, type := 53, pos := "law.go:31", after := #[{ on := 6, ground := Ground.data }, { on := 5, ground := Ground.chain }], guard := none }) rfl (fun K hK => ?_) ?_
                · skip
                  go_simp
                  go_at_call 24
                  refine (HT.out 2 0 _ 2 2 _).mono ?_
                  rintro e x32 ⟨rfl, bx32⟩
                  have hx32 : Below w2.heap.size w2 x32 := by
                    have q : Below w2.heap.size w2 (x30.alloc (.cells #[.int .i64 0, .int .i64 0, .slice none 0 0, .int .i64 1, .int .i64 1, .slice (some ⟨x28.heap.size, 0, none⟩) 1 1] 53)) := (hx30.trans ((((Below.refl _ _).alloc (Nat.le_refl _) _)).mono hx30.size))
                    exact q.trans (bx32.mono q.size)
                  have zx32 := hx32.size
                  have yx32 := bx32.size
                  try simp at yx32
                  have n1_x32 := n1_x30.next2 bx32 ((Below.refl _ _).alloc (Nat.le_refl _) _)
                  have nB_x32 := nB_x30.next2 bx32 ((Below.refl _ _).alloc (Nat.le_refl _) _)
                  have n2_x32 := n2_x30.next2 bx32 ((Below.refl _ _).alloc (Nat.le_refl _) _)
                  have n3_x32 := Blk.first bx32
                  go_wp2_with fail
                  refine hK.out _ _ (k2.s3 hx32) (fun hHeld => ?_)
                  clear hK K
                  try simp only [Act.put, List.setIfInBounds_toArray, List.set_cons_zero, List.set_cons_succ]
                  refine wpAnyH_ready (rs := [9]) (by kernel_rfl) (by simp) ?_
                  refine AllReadyH.cons (o := { dst := none, op := Op.store 53 (Operand.tmp 3) (Operand.tmp 22), type := 0, pos := "law.go:31", after := #[{ on := 8, ground := Ground.data }, { on := 7, ground := Ground.data }, { on := 7, ground := Ground.chain }, { on := 0, ground := Ground.phase }, { on := 1, ground := Ground.phase }, { on := 2, ground := Ground.phase }, { on := 3, ground := Ground.phase }, { on := 4, ground := Ground.phase }, { on := 5, ground := Ground.phase }, { on := 6, ground := Ground.phase }, { on := 7, ground := Ground.phase }, { on := 8, ground := Ground.phase }], guard := none }) rfl (fun K hK => ?_) ?_
                  · skip
                    have hF := nB_x32.tri
                    have hS : Below w2.heap.size w2 (((x32.setCell ⟨w2.heap.size + 1, 0, none⟩ (.int .i64 2)).setCell ⟨w2.heap.size + 1, 1, none⟩ (.int .i64 0)).setCell ⟨w2.heap.size + 1, 2, none⟩ (.slice (some ⟨x30.heap.size, 0, none⟩) 2 2)) := ((hx32.setCell (p := ⟨w2.heap.size + 1, 0, none⟩) (by show _ ≤ w2.heap.size + 1; omega) _).setCell (p := ⟨w2.heap.size + 1, 1, none⟩) (by show _ ≤ w2.heap.size + 1; omega) _).setCell (p := ⟨w2.heap.size + 1, 2, none⟩) (by show _ ≤ w2.heap.size + 1; omega) _
                    go_simp
                    refine hK.out _ _ (k2.s3 hS) (fun hHeld => ?_)
                    clear hK K
                    try simp only [Act.put, List.setIfInBounds_toArray, List.set_cons_zero, List.set_cons_succ]
                    refine wpAnyH_done (by kernel_rfl) ?_ _
                    go_wp2_with fail
                    go_meet
                    exact ⟨w2.heap.size + 1, _, rfl, (((nB_x32.set_ 0 _).set_ 1 _).set_ 2 _).eq_ rfl, exB_in (n1_x32.far3 (by omega)) (n2_x32.far3 (by omega)) (n3_x32.far3 (by omega)), k2.next hS⟩
                  exact AllReadyH.nil
                exact AllReadyH.nil
              exact AllReadyH.nil
            exact AllReadyH.nil
          exact AllReadyH.nil
        exact AllReadyH.nil
      exact AllReadyH.nil
    refine AllReadyH.cons (o := { dst := some 3, op := Op.alloc 53, type := 0, pos := "law.go:31", after := #[], guard := none }) rfl (fun K hK => ?_) ?_
    · skip
      go_simp
      refine hK.out _ _ (k2.s3 (by exact ((Below.refl _ _).alloc (Nat.le_refl _) _).drew)) (fun hHeld => ?_)
      clear hK K
      try simp only [Act.put, List.setIfInBounds_toArray, List.set_cons_zero, List.set_cons_succ]
      refine wpAnyH_ready (rs := [2]) (by kernel_rfl) (by simp) ?_
      refine AllReadyH.cons (o := { dst := some 17, op := Op.buildSlice 51 1 #[(0, Operand.tmp 16)], type := 51, pos := "law.go:31", after := #[{ on := 1, ground := Ground.data }], guard := none }) rfl (fun K hK => ?_) ?_
      · skip
        go_simp
        refine hK.out _ _ (k2.s3 (by exact (((Below.refl _ _).alloc (Nat.le_refl _) _).alloc (by simp) _).drew)) (fun hHeld => ?_)
        clear hK K
        try simp only [Act.put, List.setIfInBounds_toArray, List.set_cons_zero, List.set_cons_succ]
        refine wpAnyH_ready (rs := [3]) (by kernel_rfl) (by simp) ?_
        refine AllReadyH.cons (o := { dst := some 18, op := Op.call { callee := Callee.value (Operand.func 24), args := #[Operand.const (Value.int IntKind.i64 2), Operand.const (Value.int IntKind.i64 1), Operand.tmp 17], argTypes := #[3, 3, 51] }, type := 53, pos := "law.go:31", after := #[{ on := 2, ground := Ground.data }], guard := none }) rfl (fun K hK => ?_) ?_
        · skip
          go_simp
          go_at_call 24
          refine (HT.out 2 1 _ 1 1 _).mono ?_
          rintro e x36 ⟨rfl, bx36⟩
          have hx36 : Below w2.heap.size w2 x36 := by
            have q : Below w2.heap.size w2 ((w2.alloc (.cells #[.int .i64 0, .int .i64 0, .slice none 0 0] 53)).alloc (.cells #[.int .i64 0, .int .i64 0, .slice none 0 0] 53)).drew := (((Below.refl _ _).alloc (Nat.le_refl _) _).alloc (by simp) _).drew
            exact q.trans (bx36.mono q.size)
          have zx36 := hx36.size
          have yx36 := bx36.size
          try simp at yx36
          obtain ⟨nB_x36, n1_x36⟩ := Blk.both_drew bx36
          go_wp2_with fail
          refine hK.out _ _ (k2.s3 hx36) (fun hHeld => ?_)
          clear hK K
          try simp only [Act.put, List.setIfInBounds_toArray, List.set_cons_zero, List.set_cons_succ]
          refine wpAnyH_ready (rs := [4]) (by kernel_rfl) (by simp) ?_
          refine AllReadyH.cons (o := { dst := some 19, op := Op.buildSlice 51 1 #[(0, Operand.tmp 18)], type := 51, pos := "law.go:31", after := #[{ on := 3, ground := Ground.data }], guard := none }) rfl (fun K hK => ?_) ?_
          · skip
            go_simp
            refine hK.out _ _ (k2.s3 (by exact (hx36.trans ((((Below.refl _ _).alloc (Nat.le_refl _) _)).mono hx36.size)))) (fun hHeld => ?_)
            clear hK K
            try simp only [Act.put, List.setIfInBounds_toArray, List.set_cons_zero, List.set_cons_succ]
            refine wpAnyH_ready (rs := [5]) (by kernel_rfl) (by simp) ?_
            refine AllReadyH.cons (o := { dst := some 20, op := Op.call { callee := Callee.value (Operand.func 24), args := #[Operand.const (Value.int IntKind.i64 1), Operand.const (Value.int IntKind.i64 1), Operand.tmp 19], argTypes := #[3, 3, 51] }, type := 53, pos := "law.go:31", after := #[{ on := 4, ground := Ground.data }, { on := 3, ground := Ground.chain }], guard := none }) rfl (fun K hK => ?_) ?_
            · skip
              go_simp
              go_at_call 24
              refine (HT.out 1 1 _ 1 1 _).mono ?_
              rintro e x38 ⟨rfl, bx38⟩
              have hx38 : Below w2.heap.size w2 x38 := by
                have q : Below w2.heap.size w2 (x36.alloc (.cells #[.int .i64 2, .int .i64 1, .slice (some ⟨w2.heap.size + 1, 0, none⟩) 1 1] 53)) := (hx36.trans ((((Below.refl _ _).alloc (Nat.le_refl _) _)).mono hx36.size))
                exact q.trans (bx38.mono q.size)
              have zx38 := hx38.size
              have yx38 := bx38.size
              try simp at yx38
              have nB_x38 := nB_x36.next2 bx38 ((Below.refl _ _).alloc (Nat.le_refl _) _)
              have n1_x38 := n1_x36.next2 bx38 ((Below.refl _ _).alloc (Nat.le_refl _) _)
              have n2_x38 := Blk.first bx38
              go_wp2_with fail
              refine hK.out _ _ (k2.s3 hx38) (fun hHeld => ?_)
              clear hK K
              try simp only [Act.put, List.setIfInBounds_toArray, List.set_cons_zero, List.set_cons_succ]
              refine wpAnyH_ready (rs := [6]) (by kernel_rfl) (by simp) ?_
              refine AllReadyH.cons (o := { dst := some 21, op := Op.buildSlice 51 2 #[(0, Operand.tmp 15), (1, Operand.tmp 20)], type := 51, pos := "law.go:31", after := #[{ on := 0, ground := Ground.data }, { on := 5, ground := Ground.data }], guard := none }) rfl (fun K hK => ?_) ?_
              · skip
                go_simp
                refine hK.out _ _ (k2.s3 (by exact (hx38.trans ((((Below.refl _ _).alloc (Nat.le_refl _) _)).mono hx38.size)))) (fun hHeld => ?_)
                clear hK K
                try simp only [Act.put, List.setIfInBounds_toArray, List.set_cons_zero, List.set_cons_succ]
                refine wpAnyH_ready (rs := [7]) (by kernel_rfl) (by simp) ?_
                refine AllReadyH.cons (o := { dst := some 22, op := Op.call { callee := Callee.value (Operand.func 24), args := #[Operand.const (Value.int IntKind.i64 2), Operand.const (Value.int IntKind.i64 0), Operand.tmp 21], argTypes := #[3, 3, 51] }, type := 53, pos := "law.go:31", after := #[{ on := 6, ground := Ground.data }, { on := 5, ground := Ground.chain }], guard := none }) rfl (fun K hK => ?_) ?_
                · skip
                  go_simp
                  go_at_call 24
                  refine (HT.out 2 0 _ 2 2 _).mono ?_
                  rintro e x40 ⟨rfl, bx40⟩
                  have hx40 : Below w2.heap.size w2 x40 := by
                    have q : Below w2.heap.size w2 (x38.alloc (.cells #[.int .i64 0, .int .i64 0, .slice none 0 0, .int .i64 1, .int .i64 1, .slice (some ⟨x36.heap.size, 0, none⟩) 1 1] 53)) := (hx38.trans ((((Below.refl _ _).alloc (Nat.le_refl _) _)).mono hx38.size))
                    exact q.trans (bx40.mono q.size)
                  have zx40 := hx40.size
                  have yx40 := bx40.size
                  try simp at yx40
                  have nB_x40 := nB_x38.next2 bx40 ((Below.refl _ _).alloc (Nat.le_refl _) _)
                  have n1_x40 := n1_x38.next2 bx40 ((Below.refl _ _).alloc (Nat.le_refl _) _)
                  have n2_x40 := n2_x38.next2 bx40 ((Below.refl _ _).alloc (Nat.le_refl _) _)
                  have n3_x40 := Blk.first bx40
                  go_wp2_with fail
                  refine hK.out _ _ (k2.s3 hx40) (fun hHeld => ?_)
                  clear hK K
                  try simp only [Act.put, List.setIfInBounds_toArray, List.set_cons_zero, List.set_cons_succ]
                  refine wpAnyH_ready (rs := [9]) (by kernel_rfl) (by simp) ?_
                  refine AllReadyH.cons (o := { dst := none, op := Op.store 53 (Operand.tmp 3) (Operand.tmp 22), type := 0, pos := "law.go:31", after := #[{ on := 8, ground := Ground.data }, { on := 7, ground := Ground.data }, { on := 7, ground := Ground.chain }, { on := 0, ground := Ground.phase }, { on := 1, ground := Ground.phase }, { on := 2, ground := Ground.phase }, { on := 3, ground := Ground.phase }, { on := 4, ground := Ground.phase }, { on := 5, ground := Ground.phase }, { on := 6, ground := Ground.phase }, { on := 7, ground := Ground.phase }, { on := 8, ground := Ground.phase }], guard := none }) rfl (fun K hK => ?_) ?_
                  · skip
                    have hF := nB_x40.tri
                    have hS : Below w2.heap.size w2 (((x40.setCell ⟨w2.heap.size, 0, none⟩ (.int .i64 2)).setCell ⟨w2.heap.size, 1, none⟩ (.int .i64 0)).setCell ⟨w2.heap.size, 2, none⟩ (.slice (some ⟨x38.heap.size, 0, none⟩) 2 2)) := ((hx40.setCell (p := ⟨w2.heap.size, 0, none⟩) (by show _ ≤ w2.heap.size; omega) _).setCell (p := ⟨w2.heap.size, 1, none⟩) (by show _ ≤ w2.heap.size; omega) _).setCell (p := ⟨w2.heap.size, 2, none⟩) (by show _ ≤ w2.heap.size; omega) _
                    go_simp
                    refine hK.out _ _ (k2.s3 hS) (fun hHeld => ?_)
                    clear hK K
                    try simp only [Act.put, List.setIfInBounds_toArray, List.set_cons_zero, List.set_cons_succ]
                    refine wpAnyH_done (by kernel_rfl) ?_ _
                    go_wp2_with fail
                    go_meet
                    exact ⟨w2.heap.size, _, rfl, (((nB_x40.set_ 0 _).set_ 1 _).set_ 2 _).eq_ rfl, exB_in (n1_x40.far3 (by omega)) (n2_x40.far3 (by omega)) (n3_x40.far3 (by omega)), k2.next hS⟩
                  exact AllReadyH.nil
                exact AllReadyH.nil
              exact AllReadyH.nil
            exact AllReadyH.nil
          exact AllReadyH.nil
        exact AllReadyH.nil
      exact AllReadyH.nil
    exact AllReadyH.nil
  case rest =>
    obtain ⟨B3, A3, rfl, h3, hin3, k3⟩ := ‹∃ B3 A3, _›
    have HA : Hid (∀ W, Below wc.heap.size wc W → W.cell? ⟨B3, 0, none⟩ = some (.int .i64 2) ∧ W.cell? ⟨B3, 1, none⟩ = some (.int .i64 0) ∧ W.cell? ⟨B3, 2, none⟩ = some (.slice A3 2 2)) := Lib.hid fun W hW => (h3.below hW h3.lt).tri.1
    have HT := Lib.hid term_any
    have HK := Lib.hid k3
    have HI := Lib.hid hin3
    have hx3 := h3.tri.1
    go_upto_region 4 with fail
    go_cut [4, 5] from 23 to 34 (fun s4 s5 wx => ∃ A n c, s4 = .slice A n c ∧ s5 = .int .i64 0 ∧ (S.mk [.mk [], .mk [.mk []]]).In wx 0 wx.heap.size (.slice A n c) ∧ Al w w.heap.size bx wx)
    case first =>
      go_region_held3 (fun w' => w'.cell? ⟨B3, 0, none⟩ = some (.int .i64 2) ∧ w'.cell? ⟨B3, 1, none⟩ = some (.int .i64 0) ∧ w'.cell? ⟨B3, 2, none⟩ = some (.slice A3 2 2))
        (first | assumption | exact HA.out _ (by assumption) | exact HA.out _ (Below.drew (Below.refl _ _)) | exact HA.out _ (Below.alloc (by assumption) (by omega) _))
        (first
          | (go_at_call 24; ((with_reducible refine (HT.out 2 2 _ 0 0 _).mono ?_); rintro e wA ⟨rfl, bA⟩)
             have hA : Below wc.heap.size wc wA := (Below.refl _ _).drew.trans (bA.mono (Nat.le_refl _))
             have zA := hA.size)
          | (go_at_call 24; ((with_reducible refine (HT.out 1 1 _ 1 1 _).mono ?_); rintro e wB ⟨rfl, bB⟩)
             have nB := Blk.first bB
             have hB : Below wc.heap.size wc wB := (hA.alloc zA _).trans (bB.mono (by simp; omega))
             have zB := hB.size)
          | (go_at_call 25
             have hD : Below wc.heap.size wc (wB.alloc (.cells #[.string ⟨#[115]⟩, .int .i64 0, .int .i64 1, .int .i64 1, .slice (some ⟨wA.heap.size, 0, none⟩) 1 1, .string ⟨#[102]⟩, .int .i64 1, .int .i64 2, .int .i64 0, .slice A3 2 2] 70)) := hB.alloc zB _
             refine (alive_call ex_an1 ex_fit1 (HK.out.next hD) (LzIn_blk (Blk.new wB _ _) (T.InL.to (exC_in (nB.alloc _))) (T.In.more (fun b hb => Nat.lt_of_lt_of_le hb hD.size) _ (T.In.below (T.InL.to HI.out) hD (fun b hb => hb))) (by decide) (by decide))).mono ?_
             rintro e wE ⟨A, n, c, rfl, iE, bE⟩
             have hE : Below wc.heap.size wc wE := hD.trans (bE.mono hD.size)))
      go_wp2_with fail
      go_meet
      exact ⟨A, n, c, rfl, rfl, iE, HK.out.next hE⟩
    case rest =>
      obtain ⟨A1, n1, c1, rfl, rfl, i1, k4⟩ := ‹∃ A n c, _›
      clear HA HK HI hx3 h3 hin3 k3
      go_upto_region 5 with fail
      have HK := Lib.hid k4
      have HI := Lib.hid i1
      have HA : Hid (∀ W, Below wc.heap.size wc W → W.cell? ⟨bx, 0, none⟩ = some (.int .i64 0) ∧ W.cell? ⟨bx, 1, none⟩ = some (.int .i64 0) ∧ W.cell? ⟨bx, 2, none⟩ = some (.slice none 0 0)) := Lib.hid fun W hW => k4.s3 hW
      have hx3 := k4.three
      go_cut [6, 7] from 35 to 46 (fun s6 s7 wx => ∃ A n c, s6 = .slice A n c ∧ s7 = .int .i64 6 ∧ (S.mk []).In wx 0 wx.heap.size (.slice A n c) ∧ Below wc.heap.size wc wx)
      case first =>
        go_region_held3 (fun w' => w'.cell? ⟨bx, 0, none⟩ = some (.int .i64 0) ∧ w'.cell? ⟨bx, 1, none⟩ = some (.int .i64 0) ∧ w'.cell? ⟨bx, 2, none⟩ = some (.slice none 0 0))
          (first | assumption | exact HA.out _ (by assumption) | exact HA.out _ (Below.drew (Below.refl _ _)) | exact HA.out _ (Below.drew (Below.alloc (Below.refl _ _) (Nat.le_refl _) _)) | exact HA.out _ (Below.alloc (by assumption) (by omega) _))
          (first
            | (go_at_call 24; ((with_reducible refine (HT.out 2 2 _ 0 0 _).mono ?_); rintro e wA ⟨rfl, bA⟩)
               have hA : Below wc.heap.size wc wA := by
                 first
                   | exact (Below.refl _ _).drew.trans (bA.mono (Nat.le_refl _))
                   | exact ((Below.refl _ _).alloc (Nat.le_refl _) _).drew.trans (bA.mono (by simp [World.drew]))
               have zA := hA.size
               first
                 | (have nA := Blk.first_drew bA)
                 | skip)
            | (go_at_call 24; ((with_reducible refine (HT.out 0 0 _ 1 1 _).mono ?_); rintro e wB ⟨rfl, bB⟩)
               first
                 | (have nB := Blk.first bB
                    have hB : Below wc.heap.size wc wB := (hA.alloc zA _).trans (bB.mono (by simp; omega)))
                 | (have nB := nA.next2 bB (Below.refl _ _)
                    have hB : Below wc.heap.size wc wB := hA.trans (bB.mono zA))
               have zB := hB.size)
            | (go_at_call 25
               first
                 | (have hD : Below wc.heap.size wc (wB.alloc (.cells #[.string ⟨#[115]⟩, .int .i64 0, .int .i64 2, .int .i64 2, .slice none 0 0, .string ⟨#[102]⟩, .int .i64 1, .int .i64 0, .int .i64 0, .slice (some ⟨wA.heap.size, 0, none⟩) 1 1] 70)) := hB.alloc zB _
                    refine (alive_call ex_an2 ex_fit2 (HK.out.next hD) (LzIn_blk (Blk.new wB _ _) (T.InL.to InLI_nil) (T.InL.to (exX_in (nB.alloc _))) (by decide) (by decide))).mono ?_
                    rintro e wE ⟨A, n, c, rfl, iE, bE⟩
                    have hE : Below wc.heap.size wc wE := hD.trans (bE.mono hD.size))
                 | (have hD : Below wc.heap.size wc (wB.alloc (.cells #[.string ⟨#[115]⟩, .int .i64 0, .int .i64 2, .int .i64 2, .slice none 0 0, .string ⟨#[102]⟩, .int .i64 1, .int .i64 0, .int .i64 0, .slice (some ⟨wc.heap.size, 0, none⟩) 1 1] 70)) := hB.alloc zB _
                    refine (alive_call ex_an2 ex_fit2 (HK.out.next hD) (LzIn_blk (Blk.new wB _ _) (T.InL.to InLI_nil) (T.InL.to (exX_in (nB.alloc _))) (by decide) (by decide))).mono ?_
                    rintro e wE ⟨A, n, c, rfl, iE, bE⟩
                    have hE : Below wc.heap.size wc wE := hD.trans (bE.mono hD.size))))
        all_goals
          go_wp2_with fail
          go_meet
          exact ⟨A, n, c, rfl, rfl, iE, hE⟩
      case rest =>
        obtain ⟨A2, n2, c2, rfl, rfl, i2, b2⟩ := ‹∃ A n c, _›
        have i1' := S.In.below HI.out b2 (Nat.le_refl _)
        have k5 := HK.out.next b2
        have z2 := b2.size
        have i1'' := S.In.more (Nat.le_refl _) z2 _ i1'
        clear HA HK HI hx3 i1 k4 i1' b2 z2
        go_upto_region 6 with fail
        have HK := Lib.hid k5
        have HI := Lib.hid i1''
        have HJ := Lib.hid i2
        have HA : Hid (∀ W, Below wc.heap.size wc W → W.cell? ⟨bx, 0, none⟩ = some (.int .i64 0) ∧ W.cell? ⟨bx, 1, none⟩ = some (.int .i64 0) ∧ W.cell? ⟨bx, 2, none⟩ = some (.slice none 0 0)) := Lib.hid fun W hW => k5.s3 hW
        have hx3 := k5.three
        go_cut [8, 9] from 47 to 56 (fun s8 s9 wx => ∃ A n c, s8 = .slice A n c ∧ s9 = .int .i64 0 ∧ (S.mk [.mk [], .mk [.mk [], .mk []]]).In wx 0 wx.heap.size (.slice A n c) ∧ Below wc.heap.size wc wx)
        case first =>
          go_region_held3 (fun w' => w'.cell? ⟨bx, 0, none⟩ = some (.int .i64 0) ∧ w'.cell? ⟨bx, 1, none⟩ = some (.int .i64 0) ∧ w'.cell? ⟨bx, 2, none⟩ = some (.slice none 0 0))
            (first | assumption | exact HA.out _ (by assumption) | exact HA.out _ (Below.drew (Below.refl _ _)) | exact HA.out _ (Below.alloc (by assumption) (by omega) _))
            (first
              | (go_at_call 24; ((with_reducible refine (HT.out 2 2 _ 0 0 _).mono ?_); rintro e wA ⟨rfl, bA⟩)
                 have hA : Below wc.heap.size wc wA := (Below.refl _ _).drew.trans (bA.mono (Nat.le_refl _))
                 have zA := hA.size)
              | (go_at_call 25
                 have hD : Below wc.heap.size wc (wA.alloc (.cells #[.string ⟨#[115]⟩, .int .i64 0, .int .i64 2, .int .i64 2, .slice none 0 0, .string ⟨#[107]⟩, .int .i64 2, .int .i64 0, .int .i64 0, .slice none 0 0] 70)) := hA.alloc zA _
                 refine (alive_call ex_an3 ex_fit3 (HK.out.next hD) (LzIn_blk (Blk.new wA _ _) (T.InL.to InLI_nil) (T.InL.to InLI_nil) (by decide) (by decide))).mono ?_
                 rintro e wE ⟨A, n, c, rfl, iE, bE⟩
                 have hE : Below wc.heap.size wc wE := hD.trans (bE.mono hD.size)))
          go_wp2_with fail
          go_meet
          exact ⟨A, n, c, rfl, rfl, iE, hE⟩
        case rest =>
          obtain ⟨A4, n4, c4, rfl, rfl, i4, b4⟩ := ‹∃ A n c, _›
          have hend := (HK.out.next b4).bel
          have j1 := S.In.below HI.out b4 (Nat.le_refl _)
          have j2 := S.In.below HJ.out b4 (Nat.le_refl _)
          clear HA HK HI HJ hx3 i1'' k5 i2 b4
          obtain ⟨rfl, ad, a1, e1, ad2, e2, a3, e3, rfl, x1, x2, x3⟩ := ex_mem1 j1
          obtain rfl := ex_mem0 j2
          obtain ⟨rfl, ad4, a5, e5, rfl, y1⟩ := ex_mem3 i4
          clear j1 j2 i4
          go_wp2_with fail
          go_ret
          exact ⟨rfl, hend⟩
end Go.Proofs.YtkkfdiidneoelaaGreatDoor
