/-
  term.sizesOf, and the visits of term.Subst: contracts.
-/
import Derived.Test.YtmggccgjhjknpaaTFill
import Derived.Test.YtmggccgjhjknpaaTVisits
namespace Go.Proofs.Ytmggccgjhjknpaa
open Go.RowKit

/-- A slice of numbers, of an array of its own. -/
def Ints (B : Nat) (w : World) (l : List Nat) (v : Value) : Prop := w.ownsRow B 3 1 v l.length (l.map fun n : Nat => Value.int .i64 (n : Int))
theorem Ints.lt {B : Nat} {w : World} {l : List Nat} {v : Value} (h : Ints B w l v) {b : Nat} (hb : v.ownBlock = some b) : B ≤ b ∧ b < w.heap.size := World.ownsRow.lt h b hb
theorem Ints.keep {B : Nat} {w w' : World} {l : List Nat} {v : Value} (h : Ints B w l v) (hk : ∀ b, B ≤ b → b < w.heap.size → w'.heap[b]? = w.heap[b]?) : Ints B w' l v :=
  owns_kept3 h (fun b hb => hk b (h.lt hb).1 (h.lt hb).2)
theorem Ints.below {B : Nat} {w w' : World} {l : List Nat} {v : Value} (h : Ints B w l v) (hb : Below w.heap.size w w') : Ints B w' l v := h.keep (fun b _ hl => hb.block b hl)
theorem Ints.form {B : Nat} {w : World} {l : List Nat} {v : Value} (h : Ints B w l v) : ∃ A c, v = .slice A l.length c := by
  rcases h.2 with ⟨rfl, h0⟩ | ⟨g, cap, cur, rfl, _⟩
  · exact ⟨none, 0, by rw [h0]⟩
  · exact ⟨_, cap, rfl⟩
theorem Ints.cell {B : Nat} {w : World} {l : List Nat} {A : Option Addr} {n c : Nat} (h : Ints B w l (.slice A n c)) {j x : Nat} (hj : l[j]? = some x) : ∃ ad, A = some ad ∧ B ≤ ad.block ∧ ad.block < w.heap.size ∧ w.cell? (ad.add j) = some (.int .i64 (x : Int)) := by
  rcases h.2 with ⟨_, h0⟩ | ⟨g, cap, cur, he, _⟩
  · have : l = [] := List.eq_nil_of_length_eq_zero h0
    subst this; simp at hj
  · injection he with e1 e2 e3
    subst e1
    have hg := h.lt (b := g) rfl
    exact ⟨_, rfl, hg.1, hg.2, World.ownsRow.cells h (g := g) rfl j _ (by simp [hj])⟩
theorem int_info : (Try.prog.info? 3).map (fun i => (i.zero, i.size, i.bytes)) = some (some (.int .i64 0), 1, 8) := by kernel_rfl

/-- What the loop of sizesOf holds behind k rounds. -/
def Sizing (B : Nat) (w : World) (gs : List T) (i v : Value) (wr : World) : Prop :=
  ∃ k : Nat, k ≤ gs.length ∧ i = .int .i64 k ∧ Hid ((gs.take k).any T.large = false) ∧ Ints B wr ((gs.take k).map T.count) v ∧ Below B w wr

theorem any_take_succ {gs : List T} {k : Nat} {x : T} (hx : gs[k]? = some x) : (gs.take (k + 1)).any T.large = ((gs.take k).any T.large || x.large) := by
  rw [List.take_add_one, hx, List.any_append]; simp
theorem any_of_take {gs : List T} {k : Nat} (h : (gs.take k).any T.large = true) : gs.any T.large = true := by
  rw [List.any_eq_true] at h ⊢
  obtain ⟨x, hx, hl⟩ := h
  exact ⟨x, List.mem_of_mem_take hx, hl⟩

set_option maxRecDepth 100000 in
set_option maxHeartbeats 1600000 in
theorem sizesOf_any (gs : List T) (u : Value) (w : World) (Q : Nat → Prop) (hins : T.InL w Q gs u) (holds : Old Q w) (hlen : gs.length ≤ 3600000000000) :
    Calls Try.prog 62 #[u] w fun e w' => ∃ v, e = .returned (.tuple #[v, .bool (!gs.any T.large)]) ∧ (gs.any T.large = false → Ints w.heap.size w' (gs.map T.count) v) ∧ (∃ A n c, v = .slice A n c) ∧ Below w.heap.size w w' := by
  obtain ⟨i0, hi0, hz0, hz1, hz2⟩ := info_parts int_info
  unfold T.InL at hins
  simp only [T.In] at hins
  obtain ⟨A, _, c, us, rfl, rfl, hnc, hc, hrd, hrow⟩ := hins
  have hmk := fun W => run_make (P := Try.prog) W 47 3 i0 _ Try.underlying47 hi0 hz0 .i64 .i64 0 (gs.length : Int) (by omega) (by omega) (by rw [hz2]; omega) (by omega)
  simp only [hz1, Int.toNat_natCast, Nat.mul_one] at hmk
  generalize hcs : madeCells (Value.int IntKind.i64 0).cells gs.length = cs at *
  have hsz : cs.size = gs.length := by rw [← hcs]; exact size_madeCells _ _
  clear hcs
  have HSZ := Lib.hid hsz
  have HZ1 := Lib.hid hz1
  have HZ2 := Lib.hid hz2
  clear hsz
  go_enter Try.func62, Try.ntmps62
  go_wp2_with fail
  go_loopw [14, 4] (fun i v wr => Sizing w.heap.size w gs i v wr) (fun i _ _ => gs.length - (intOf i).toNat)
  case atStart =>
    refine ⟨0, Nat.zero_le _, rfl, Lib.hid (by simp), ?_, (Below.refl _ _).alloc (Nat.le_refl _) _⟩
    exact World.ownsRow_made (size := 1) w cs gs.length (Nat.le_refl _) (by simp only [maxLen]; omega) (by rw [HSZ.out]; omega)
  case round =>
    obtain ⟨k, hk, rfl, hf, hsv, hbel⟩ := hrel
    have hzr := hbel.size
    clear hmk
    by_cases hlt : k < gs.length
    · have hx : gs[k]? = some gs[k] := List.getElem?_eq_getElem hlt
      obtain ⟨ad, u1, rfl, hPa, hel, hinx⟩ := T.In.el hrd hrow hx
      obtain ⟨r0, r1, r2⟩ := hel.keep (hbel.block _ (holds _ hPa))
      have hw2 := hbel.alloc hzr (.cells #[.int .i64 gs[k].kind, .int .i64 gs[k].num, u1] 35)
      have hct := sizeT_any gs[k] u1 _ Q (hinx.below hw2 holds) (holds.bel hw2)
      have hsucc := any_take_succ hx
      have hmapS : (gs.take (k + 1)).map T.count = (gs.take k).map T.count ++ [gs[k].count] := by rw [List.take_add_one, hx, List.map_append]; rfl
      have hlk : ((gs.take k).map T.count).length = k := by simp; omega
      have hall := any_of_take (gs := gs) (k := k + 1)
      generalize gs[k] = x at *
      obtain ⟨A', n', c', rfl⟩ := hinx.form
      cases hxl : x.large with
      | true =>
        have hs : x.sizes = (100001, 0) := by
          have : 100000 < x.count := by simpa [T.large] using hxl
          simp [T.sizes]; omega
        rw [hs] at hct
        have HA : Hid (gs.any T.large = true) := Lib.hid (hall (by rw [hsucc, hxl]; simp))
        have HC := Lib.hid hct
        clear hx hel hct hsucc hmapS hlk hall hxl hs
        go_wp2_with fail
        refine HC.out.mono ?_
        rintro e w2 ⟨rfl, hb2⟩
        simp only [World.size_alloc] at hb2
        go_wp2_with fail
        go_ret2
        exact ⟨.slice none 0 0, by rw [HA.out]; rfl, fun h => (by rw [HA.out] at h; cases h), ⟨_, _, _, rfl⟩, hw2.trans (hb2.mono (by omega))⟩
      | false =>
        have hxc : x.count ≤ 100000 := by
          have : ¬ 100000 < x.count := by simpa [T.large] using hxl
          omega
        have hs : x.sizes = (x.count, x.deep) := by simp [T.sizes, hxc]
        rw [hs] at hct
        have HA : Hid ((gs.take (k + 1)).any T.large = false) := Lib.hid (by rw [hsucc, hf.out, hxl]; rfl)
        have HC := Lib.hid hct
        have HM := Lib.hid hmapS
        generalize (gs.take k).map T.count = ml at *
        have HL := Lib.hid hlk
        have hvl : ∀ b, u4.ownBlock = some b → w.heap.size ≤ b ∧ b < wr.heap.size := fun b hb => hsv.lt hb
        clear hx hel hct hsucc hmapS hlk hall hxl hs
        go_wp2_with fail
        refine HC.out.mono ?_
        rintro e w2 ⟨rfl, hb2⟩
        have hz2' := hb2.size
        simp only [World.size_alloc] at hb2 hz2'
        have hown1 : w2.ownsRow w.heap.size 3 1 u4 ml.length (ml.map fun n : Nat => Value.int .i64 (n : Int)) := owns_kept3 hsv (fun b hb => (hb2.block b (by have := (hvl b hb).2; omega)).trans (Below.heap_alloc wr _ b (hvl b hb).2))
        go_wp2_with
          (at_builtin
           refine wpList_append_lies _ rfl _ _ _ rfl w.heap.size 3 i0 _ 1 8 Try.underlying47 hi0 hz0 HZ1.out HZ2.out rfl (by omega) u4 _ (ml.map fun n : Nat => Value.int .i64 (n : Int)) (by rfl) (hown1.alloc _)
             ⟨w2.heap.size, 0, none⟩ 1 1 [.int .i64 (x.count : Int)] (by rfl) (by rfl) (World.news_of_block (cs := #[.int .i64 (x.count : Int)]) (t := 3) (fr := (0, 0)) (heap_alloc_new w2 _)) (fun u hu => by rw [List.mem_singleton.1 hu]; rfl) (by omega) (by rw [HL.out]; simp only [maxLen]; omega) (by rw [HL.out]; omega) (by simp; omega) (w2.heap.size + 1) (by simp) ?_
           intro gg cap2 w3 hown3 hgrow hat3 hlt3)
        go_roundw
        case rel =>
          refine ⟨k + 1, by omega, by go_num, HA, ?_, ?_⟩
          · rw [HM.out]
            unfold Ints
            rw [List.map_append, List.length_append]
            exact hown3
          · exact ((hw2.trans (hb2.mono (by omega))).alloc (by omega) _).grown hgrow (by simp; omega) (fun b hb => (hvl b hb).1)
        case measure => simp [intOf]; omega
    · have hll : gs.take k = gs := List.take_of_length_le (by omega)
      rw [hll] at hf hsv
      obtain ⟨A4, c4, rfl⟩ := hsv.form
      clear hll
      go_wp2_with fail
      go_ret2
      exact ⟨_, by rw [hf.out]; rfl, fun _ => hsv, ⟨_, _, _, rfl⟩, hbel⟩
end Go.Proofs.Ytmggccgjhjknpaa
