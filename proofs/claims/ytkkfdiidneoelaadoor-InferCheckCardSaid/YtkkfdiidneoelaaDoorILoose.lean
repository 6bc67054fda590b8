/-
  Functions without sorts in memory; the law's conversion of a list of them.
-/
import Derived.Test.YtkkfdiidneoelaaDoorPlace
import Derived.Test.YtkkfdiidneoelaaDoorTMake
namespace Go.Proofs.YtkkfdiidneoelaaDoor
open Go.RowKit

/-- A function without a sort. -/
structure Lz where
  name : ByteArray
  params : Int
  body : T
/-- Its value, by the slice of its body. -/
def Lz.val (f : Lz) (v : Value) : Value := .agg #[.string f.name, .int .i64 f.params, .int .i64 f.body.kind, .int .i64 f.body.num, v]
/-- Its cells. -/
def Lz.cells (f : Lz) (v : Value) : Array Value := #[.string f.name, .int .i64 f.params, .int .i64 f.body.kind, .int .i64 f.body.num, v]
/-- The cells of a row of functions, five for each; all that they reach lies below hi. -/
def LzRow (w : World) (hi : Nat) : List Lz → List Value → Prop
  | [], us => us = []
  | f :: r, us => ∃ v ut, us = .string f.name :: .int .i64 f.params :: .int .i64 f.body.kind :: .int .i64 f.body.num :: v :: ut ∧ f.body.In w (fun b => b < hi) v ∧ f.name.size ≤ maxLen ∧ LzRow w hi r ut
/-- A slice of functions. -/
def LzIn (w : World) (hi : Nat) (l : List Lz) (v : Value) : Prop :=
  ∃ A n c us, v = .slice A n c ∧ l.length = n ∧ n ≤ c ∧ c ≤ 9223372036854775807 ∧ Rd w (fun b => b < hi) A us ∧ LzRow w hi l us
theorem LzRow.keep {w w' : World} {hi : Nat} (hb : ∀ b, b < hi → w'.heap[b]? = w.heap[b]?) : ∀ (l : List Lz) {us : List Value}, LzRow w hi l us → LzRow w' hi l us
  | [], us, h => by simpa [LzRow] using h
  | f :: r, us, h => by
    simp only [LzRow] at h ⊢
    obtain ⟨v, ut, h1, h3, h4, h5⟩ := h
    exact ⟨v, ut, h1, T.In.keep hb _ h3, h4, LzRow.keep hb r h5⟩
theorem LzRow.more {w : World} {hi hi' : Nat} (hb : hi ≤ hi') : ∀ (l : List Lz) {us : List Value}, LzRow w hi l us → LzRow w hi' l us
  | [], us, h => by simpa [LzRow] using h
  | f :: r, us, h => by
    simp only [LzRow] at h ⊢
    obtain ⟨v, ut, h1, h3, h4, h5⟩ := h
    exact ⟨v, ut, h1, T.In.more (fun b h => Nat.lt_of_lt_of_le h hb) _ h3, h4, LzRow.more hb r h5⟩
theorem LzIn.below {w w' : World} {B hi : Nat} {l : List Lz} {v : Value} (h : LzIn w hi l v) (hb : Below B w w') (hB : hi ≤ B) : LzIn w' hi l v := by
  obtain ⟨A, n, c, us, h1, h2, h3, h4, h5, h6⟩ := h
  exact ⟨A, n, c, us, h1, h2, h3, h4, h5.keep (fun b hb' => hb.block b (by omega)), LzRow.keep (fun b hb' => hb.block b (by omega)) l h6⟩
theorem LzIn.more {w : World} {hi hi' : Nat} {l : List Lz} {v : Value} (h : LzIn w hi l v) (hb : hi ≤ hi') : LzIn w hi' l v := by
  obtain ⟨A, n, c, us, h1, h2, h3, h4, h5, h6⟩ := h
  exact ⟨A, n, c, us, h1, h2, h3, h4, h5.more (fun b h => Nat.lt_of_lt_of_le h hb), LzRow.more hb l h6⟩
theorem LzIn.form {w : World} {hi : Nat} {l : List Lz} {v : Value} (h : LzIn w hi l v) : ∃ A n c, v = .slice A n c := by
  obtain ⟨A, n, c, us, h1, _⟩ := h
  exact ⟨A, n, c, h1⟩
/-- The five cells of an element. -/
structure LzEl (w : World) (ad : Addr) (k : Nat) (f : Lz) (v : Value) : Prop where
  c0 : w.cell? (ad.add (k * 5)) = some (.string f.name)
  c1 : w.cell? ⟨(ad.add (k * 5)).block, (ad.add (k * 5)).off + 1, none⟩ = some (.int .i64 f.params)
  c2 : w.cell? ⟨(ad.add (k * 5)).block, (ad.add (k * 5)).off + 2, none⟩ = some (.int .i64 f.body.kind)
  c3 : w.cell? ⟨(ad.add (k * 5)).block, (ad.add (k * 5)).off + 3, none⟩ = some (.int .i64 f.body.num)
  c4 : w.cell? ⟨(ad.add (k * 5)).block, (ad.add (k * 5)).off + 4, none⟩ = some v
theorem LzEl.keep {w w' : World} {ad : Addr} {k : Nat} {f : Lz} {v : Value} (h : LzEl w ad k f v) (hb : w'.heap[ad.block]? = w.heap[ad.block]?) : LzEl w' ad k f v := by
  have hh : ∀ i, w'.cell? ⟨(ad.add (k * 5)).block, (ad.add (k * 5)).off + i, none⟩ = w.cell? ⟨(ad.add (k * 5)).block, (ad.add (k * 5)).off + i, none⟩ := fun i => World.cell?_of_block (by show w'.heap[(ad.add (k * 5)).block]? = _; rw [block_of_add]; exact hb)
  exact ⟨(World.cell?_of_block (by rw [block_of_add]; exact hb)).trans h.c0, (hh 1).trans h.c1, (hh 2).trans h.c2, (hh 3).trans h.c3, (hh 4).trans h.c4⟩
theorem LzRow.length {w : World} {hi : Nat} : ∀ {l : List Lz} {us : List Value}, LzRow w hi l us → us.length = l.length * 5
  | [], us, h => by simp only [LzRow] at h; simp [h]
  | f :: r, us, h => by
    simp only [LzRow] at h
    obtain ⟨v, ut, rfl, _, _, h5⟩ := h
    have := h5.length
    simp [this]; omega
theorem LzRow.at_ {w : World} {hi : Nat} : ∀ {l : List Lz} {us : List Value}, LzRow w hi l us → ∀ {k : Nat} {f : Lz}, l[k]? = some f →
    ∃ v, us[k * 5]? = some (.string f.name) ∧ us[k * 5 + 1]? = some (.int .i64 f.params) ∧ us[k * 5 + 2]? = some (.int .i64 f.body.kind) ∧ us[k * 5 + 3]? = some (.int .i64 f.body.num) ∧ us[k * 5 + 4]? = some v ∧
      f.body.In w (fun b => b < hi) v ∧ f.name.size ≤ maxLen
  | [], us, h, k, f, hx => by simp at hx
  | g :: r, us, h, k, f, hx => by
    simp only [LzRow] at h
    obtain ⟨v, ut, rfl, h3, h4, h5⟩ := h
    cases k with
    | zero => simp at hx; subst hx; exact ⟨v, rfl, rfl, rfl, rfl, rfl, h3, h4⟩
    | succ k =>
      simp at hx
      obtain ⟨v', g0, g1, g2, g3, g4, g5⟩ := h5.at_ hx
      rw [show (k + 1) * 5 = k * 5 + 1 + 1 + 1 + 1 + 1 from by omega]
      exact ⟨v', by simpa using g0, by simpa using g1, by simpa using g2, by simpa using g3, by simpa using g4, g5⟩
theorem lz_el {w : World} {hi : Nat} {A : Option Addr} {us : List Value} {l : List Lz} (hr : Rd w (fun b => b < hi) A us) (h : LzRow w hi l us) {k : Nat} {f : Lz} (hx : l[k]? = some f) :
    ∃ ad v, A = some ad ∧ ad.block < hi ∧ LzEl w ad k f v ∧ f.body.In w (fun b => b < hi) v ∧ f.name.size ≤ maxLen := by
  obtain ⟨v, g0, g1, g2, g3, g4, g5⟩ := h.at_ hx
  rcases hr with rfl | ⟨ad, h1, h2, h3⟩
  · simp at g0
  · exact ⟨ad, v, h1, h2, ⟨h3 _ _ g0, by rw [← add_one_more ad (k * 5) 0]; exact h3 _ _ g1, by rw [← add_one_more ad (k * 5) 1]; exact h3 _ _ g2, by rw [← add_one_more ad (k * 5) 2]; exact h3 _ _ g3, by rw [← add_one_more ad (k * 5) 3]; exact h3 _ _ g4⟩, g5⟩

theorem LzRow.snoc {w : World} {hi : Nat} {f : Lz} {v : Value} (hv : f.body.In w (fun b => b < hi) v) (hn : f.name.size ≤ maxLen) : ∀ {l : List Lz} {us : List Value}, LzRow w hi l us → LzRow w hi (l ++ [f]) (us ++ (f.cells v).toList)
  | [], us, h => by
    simp only [LzRow] at h
    subst h
    simp only [List.nil_append, LzRow]
    exact ⟨v, [], rfl, hv, hn, rfl⟩
  | g :: r, us, h => by
    simp only [LzRow] at h
    obtain ⟨v', ut, rfl, h3, h4, h5⟩ := h
    simp only [List.cons_append, LzRow]
    exact ⟨v', _, rfl, h3, h4, h5.snoc hv hn⟩

theorem lz_info : (Tryd.prog.info? 48).map (fun i => (i.zero, i.size, i.bytes)) = some (some (.agg #[.string ⟨#[]⟩, .int .i64 0, .int .i64 0, .int .i64 0, .slice none 0 0]), 5, 64) := by kernel_rfl
theorem looseName_any (f : Lz) (v : Value) (hv : ∃ A n c, v = .slice A n c) (w : World) :
    Calls Tryd.prog 27 #[f.val v] w fun e w' => e = .returned (.string f.name) ∧ Below w.heap.size w w' := by
  obtain ⟨A', n', c', rfl⟩ := hv
  unfold Lz.val
  go_enter Tryd.func27, Tryd.ntmps27
  go_wp2_with fail
  go_ret
  exact ⟨rfl, (Below.refl _ _).alloc (Nat.le_refl _) _⟩

/-- What the loop of given holds behind k rounds: an array of its own; what its elements' bodies reach lies below hi. -/
def GvnAt (hi : Nat) (l : List Lz) (w : World) (v i : Value) (wr : World) : Prop :=
  ∃ (k : Nat) (us : List Value), k ≤ l.length ∧ i = .int .i64 (k : Int) ∧ wr.ownsRow w.heap.size 48 5 v (l.take k).length us ∧ LzRow wr hi (l.take k) us ∧ Below w.heap.size w wr
/-- What given answers. -/
def GvnPost (l : List Lz) (w : World) (e : Ending) (w' : World) : Prop := ∃ v, e = .returned v ∧ LzIn w' w'.heap.size l v ∧ Below w.heap.size w w'
theorem LzIn.of_own {w : World} {B hi : Nat} {l : List Lz} {v : Value} {us : List Value} (h : w.ownsRow B 48 5 v l.length us) (hr : LzRow w hi l us) (hh : hi ≤ w.heap.size) : LzIn w w.heap.size l v := by
  rcases h.2 with ⟨rfl, h0⟩ | ⟨g, cap, cur, rfl, _, _, h1, h2, _⟩
  · have hl : l = [] := List.eq_nil_of_length_eq_zero h0
    subst hl
    simp only [LzRow] at hr
    exact ⟨none, 0, 0, us, rfl, rfl, Nat.le_refl _, by omega, .inl hr, by simp only [LzRow]; exact hr⟩
  · have hg := World.ownsRow.lt h g rfl
    exact ⟨_, _, cap, us, rfl, rfl, h1, by simpa [maxLen] using h2, .inr ⟨_, rfl, hg.2, World.ownsRow.cells h (g := g) rfl⟩, LzRow.more hh l hr⟩

set_option maxRecDepth 100000 in
set_option maxHeartbeats 1600000 in
theorem given_any (l : List Lz) (v : Value) (w : World) (hi : Nat) (hin : LzIn w hi l v) (hhi : hi ≤ w.heap.size) (hlen : l.length ≤ 100000) :
    Calls Tryd.prog 10 #[v] w (GvnPost l w) := by
  obtain ⟨i0, hi0, hz0, hz1, hz2⟩ := info_parts lz_info
  obtain ⟨A, _, c, us, rfl, rfl, hnc, hc, hrd, hrow⟩ := hin
  have HZ1 := Lib.hid hz1
  have HZ2 := Lib.hid hz2
  clear hz1 hz2
  go_enter Tryd.func10, Tryd.ntmps10
  go_wp2_with fail
  go_loopw [3, 8] (fun v i wr => GvnAt hi l w v i wr) (fun _ i _ => l.length - (intOf i).toNat)
  case atStart => exact ⟨0, [], Nat.zero_le _, rfl, by simpa using World.ownsRow_nil _ _ _ _, by simp [LzRow], Below.refl _ _⟩
  case round =>
    obtain ⟨k, us1, hk, rfl, hown, hrw, hbel⟩ := hrel
    have hzr := hbel.size
    by_cases hlt : k < l.length
    · have hx : l[k]? = some l[k] := List.getElem?_eq_getElem hlt
      obtain ⟨ad, u, rfl, hPa, hel, hbv, hnm⟩ := lz_el hrd hrow hx
      obtain ⟨r0, r1, r2, r3, r4⟩ := hel.keep (hbel.block _ (by omega))
      have htk : l.take (k + 1) = l.take k ++ [l[k]] := by rw [List.take_add_one, hx]; rfl
      have hkl : (l.take k).length = k := by simp; omega
      generalize l[k] = x at *
      obtain ⟨A', n', c', rfl⟩ := hbv.form
      have HR : Hid (LzRow wr hi (l.take k) us1 ∧ l.take (k + 1) = l.take k ++ [x] ∧ x.body.In w (fun b => b < hi) (.slice A' n' c') ∧ x.name.size ≤ maxLen) := Lib.hid ⟨hrw, htk, hbv, hnm⟩
      have HL := Lib.hid hkl
      have hvl : ∀ b, u3.ownBlock = some b → w.heap.size ≤ b ∧ b < wr.heap.size := fun b hb => World.ownsRow.lt hown b hb
      have HO := Lib.hid hown
      have hB2 := hbel.alloc hzr (.cells #[.string x.name, .int .i64 x.params, .int .i64 x.body.kind, .int .i64 x.body.num, .slice A' n' c'] 54)
      have HB2 := Lib.hid hB2
      have HB := Lib.hid hbel
      clear hx hel hbv hnm htk hkl hrw hown hB2 hbel
      go_wp2_with
        (at_builtin
         refine wpList_append_lies _ rfl _ _ _ rfl w.heap.size 48 i0 _ 5 64 Tryd.underlying27 hi0 hz0 HZ1.out HZ2.out rfl (by omega) u3 _ us1 (by rfl) ((HO.out.alloc _).alloc _)
           ⟨wr.heap.size + 1, 0, none⟩ 1 1 [.string x.name, .int .i64 x.params, .int .i64 x.body.kind, .int .i64 x.body.num, .slice A' n' c'] (by rfl) (by rfl) (World.news_of_block (cs := #[.string x.name, .int .i64 x.params, .int .i64 x.body.kind, .int .i64 x.body.num, .slice A' n' c']) (t := 48) (fr := (0, 0)) (by have := heap_alloc_new (wr.alloc (.cells #[.string x.name, .int .i64 x.params, .int .i64 x.body.kind, .int .i64 x.body.num, .slice A' n' c'] 54)) (.cells #[.string x.name, .int .i64 x.params, .int .i64 x.body.kind, .int .i64 x.body.num, .slice A' n' c'] 48); simpa using this)) (by simp [Value.oneCell']) (by omega) (by rw [HL.out]; simp only [maxLen]; omega) (by rw [HL.out]; omega) (by simp; omega) (wr.heap.size + 1 + 1) (by simp) ?_
         intro gg cap2 w3 hown3 hgrow hat3 hlt3)
      have HF : Hid (GvnAt hi l w (.slice (some ⟨gg, 0, none⟩) ((l.take k).length + 1) cap2) (.int .i64 ((k + 1 : Nat) : Int)) w3) := by
        obtain ⟨h1, h2, h3, h4⟩ := HR.out
        have hb3 : Below w.heap.size w w3 := (HB2.out.alloc (by simp; omega) _).grown hgrow (by simp; omega) (fun b hb => (hvl b hb).1)
        refine Lib.hid (⟨k + 1, us1 ++ (x.cells (.slice A' n' c')).toList, by omega, rfl, ?_, ?_, hb3⟩ : GvnAt _ _ _ _ _ _)
        · rw [h2, List.length_append]
          exact hown3
        · rw [h2]
          have e := LzRow.snoc (f := x) (v := .slice A' n' c') (hi := hi) (w := w3) (h3.below hb3 (fun b hb => by omega)) h4 (LzRow.keep (w' := w3) (fun b hb => (hb3.block b (by omega)).trans (HB.out.block b (by omega)).symm) _ h1)
          exact e
      clear hown3 hgrow hat3 hlt3
      go_roundw
      case rel => simpa [HL.out] using HF.out
      case measure => simp [intOf]; omega
    · have hll : l.take k = l := List.take_of_length_le (by omega)
      rw [hll] at hown hrw
      have HF : Hid (GvnPost l w (.returned u3) wr) := Lib.hid ⟨u3, rfl, LzIn.of_own hown hrw (by omega), hbel⟩
      clear hll hown hrw hbel
      go_wp2_with fail
      go_ret
      exact HF.out
end Go.Proofs.YtkkfdiidneoelaaDoor
