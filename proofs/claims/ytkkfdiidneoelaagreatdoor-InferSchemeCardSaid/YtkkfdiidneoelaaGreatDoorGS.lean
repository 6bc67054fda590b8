/-
  scheme.funSorts, scheme.isTree: contracts; a slice of its own that holds sorts of older memory.
  strings.Builder's writers, over a builder that the call itself has made, in a program whose panic on a copied builder is not translated.
  The string of a sort: sorts.write, sorts.writeArg, sorts.Put.
  sorts.Put, and the reference's Text and Put.
  The string of a head: scheme.headText.
  The string of a term: scheme.write.
  scheme.isBody: contract.
  scheme.Check: contract.
  What holds of valid schemes (no program is named here but by its texts).
  Reference 03: Place.
  What the reference says of a scheme is what Check asks.
  Reference 02's Of at the place of a function of a scheme.
  Reference 03's Is and Check.
-/
import Derived.Test.YtkkfdiidneoelaaGreatDoorGJ
import Derived.Test.YtkkfdiidneoelaaGreatDoorGH
import Derived.Test.YtkkfdiidneoelaaGreatDoorGA
import Derived.Test.YtkkfdiidneoelaaGreatDoorRows
import Derived.Test.YtkkfdiidneoelaaGreatDoorShelf
import Derived.Lib.Builder
import Derived.Lib.AppendStr
import Derived.Lib.UnsafeStr
import Derived.Lib.OthersKept
import Derived.Laws.Externs
import Derived.OwnWalk
import Derived.Test.YtkkfdiidneoelaaGreatDoorGB
import Derived.Test.YtkkfdiidneoelaaGreatDoorGC
import Derived.Deep.RegionHeld3
import Derived.Deep.CutRange
import Derived.Deep.RegionWith
namespace Go.Proofs.YtkkfdiidneoelaaGreatDoor
open Go.RowKit

/-- A slice of its own that holds sorts, whose arguments lie below hi. -/
structure SRow (B hi : Nat) (w : World) (l : List S) (v : Value) (us : List Value) : Prop where
  own : w.ownsRow B 50 1 v l.length us
  el : ∀ (j : Nat) (s : S), l[j]? = some s → ∃ u, us[j]? = some u ∧ s.In w 0 hi u
theorem SRow.nil (B hi : Nat) (w : World) : SRow B hi w [] (.slice none 0 0) [] := ⟨⟨by simp, .inl ⟨rfl, rfl⟩⟩, fun j s h => by simp at h⟩
theorem SRow.in_ {B hi : Nat} {w : World} {l : List S} {v : Value} {us : List Value} (h : SRow B hi w l v us) (hhi : hi ≤ w.heap.size) : (S.mk l).In w 0 w.heap.size v := by
  simp only [S.In]
  rcases h.own.2 with ⟨rfl, h0⟩ | ⟨g, cap, cur, rfl, h1, h2, h3, h4, h5, h6⟩
  · have : l = [] := List.eq_nil_of_length_eq_zero h0
    subst this
    exact ⟨_, _, _, rfl, rfl, Nat.le_refl _, by omega, by simp [S.All]⟩
  · refine ⟨_, _, _, rfl, rfl, h3, by simpa [maxLen] using h4, S.All.mk_ fun j x hx => ?_⟩
    obtain ⟨u, e1, e2⟩ := h.el j x hx
    have hg := World.ownsRow.lt h.own g rfl
    refine ⟨_, _, rfl, Nat.zero_le _, hg.2, ?_, e2.more (Nat.le_refl _) hhi⟩
    rw [Nat.zero_add]
    exact World.ownsRow.cells h.own (g := g) rfl j _ e1
theorem SRow.form {B hi : Nat} {w : World} {l : List S} {v : Value} {us : List Value} (h : SRow B hi w l v us) : ∃ A c, v = .slice A l.length c := by
  rcases h.own.2 with ⟨rfl, h0⟩ | ⟨g, cap, cur, rfl, _⟩
  · exact ⟨none, 0, by rw [h0]⟩
  · exact ⟨_, cap, rfl⟩
theorem SRow.next {B hi : Nat} {w w' : World} {l : List S} {v : Value} {us : List Value} (h : SRow B hi w l v us) (hhi : hi ≤ w.heap.size) (hb : Below w.heap.size w w') : SRow B hi w' l v us :=
  ⟨owns_kept3 h.own (fun b hb' => hb.block b (World.ownsRow.lt h.own b hb').2), fun j s hj => by
    obtain ⟨u, e1, e2⟩ := h.el j s hj
    exact ⟨u, e1, e2.below hb hhi⟩⟩
theorem SRow.far {B hi : Nat} {w w' : World} {l : List S} {v : Value} {us : List Value} (h : SRow B hi w l v us) (h1 : ∀ b, v.ownBlock = some b → w'.heap[b]? = w.heap[b]?) (h2 : ∀ b, b < hi → w'.heap[b]? = w.heap[b]?) : SRow B hi w' l v us :=
  ⟨owns_kept3 h.own h1, fun j s hj => by
    obtain ⟨u, e1, e2⟩ := h.el j s hj
    exact ⟨u, e1, S.In.keep (fun p _ hp => World.cell?_of_block (h2 _ hp)) _ e2⟩⟩
theorem SRow.push {B hi : Nat} {wr w2 : World} {l : List S} {v : Value} {us : List Value} (h : SRow B hi wr l v us) {x : S} {u : Value} (hx : x.In wr 0 hi u) {o1 : Obj} {v' : Value} (hhi : hi ≤ B) (hBr : B ≤ wr.heap.size)
    (hown2 : w2.ownsRow B 50 1 v' (l.length + 1) (us ++ [u])) (hgrow : (wr.alloc o1).grownBy w2 v.ownBlock) : SRow B hi w2 (l ++ [x]) v' (us ++ [u]) := by
  have hbel : Below hi wr w2 := (((Below.refl hi wr).alloc (by omega) o1).grown hgrow (by simp; omega) (fun b hb => by have := (World.ownsRow.lt h.own b hb).1; omega))
  have hul : us.length = l.length := by simpa using h.own.1
  refine ⟨by rw [List.length_append]; exact hown2, fun j s hj => ?_⟩
  rcases Nat.lt_or_ge j l.length with hlt | hge
  · rw [List.getElem?_append_left hlt] at hj
    obtain ⟨u', e1, e2⟩ := h.el j s hj
    exact ⟨u', by rw [List.getElem?_append_left (by omega)]; exact e1, e2.below hbel (Nat.le_refl _)⟩
  · rw [List.getElem?_append_right hge] at hj
    have hj0 : j - l.length = 0 := by
      rcases Nat.eq_zero_or_pos (j - l.length) with h0 | h0
      · exact h0
      · rw [List.getElem?_eq_none (by simp; omega)] at hj; cases hj
    rw [hj0] at hj
    simp at hj
    subst hj
    exact ⟨u, by rw [List.getElem?_append_right (by omega), hul, hj0]; rfl, hx.below hbel (Nat.le_refl _)⟩

set_option maxHeartbeats 400000 in
theorem isTree_any (s : S) (v : Value) (w : World) (lo hi : Nat) (hin : s.In w lo hi v) :
    Calls Tryz.prog 61 #[.agg #[v]] w fun e w' => e = .returned (.bool s.args.isEmpty) ∧ Below w.heap.size w w' := by
  obtain ⟨l⟩ := s
  simp only [S.In] at hin
  obtain ⟨A, _, c, rfl, rfl, _⟩ := hin
  have he : Hid (((l.length : Int) == 0) = (S.mk l).args.isEmpty) := Lib.hid (by
    simp only [S.args]
    cases l with
    | nil => rfl
    | cons a r => simp; omega)
  go_enter Tryz.func61, Tryz.ntmps61
  go_wp2_with fail
  go_ret
  exact ⟨ret_bool he.out, (Below.refl _ _).alloc (Nat.le_refl _) _⟩

/-- A scheme in its box, kept. -/
structure ScKept (s : Sc) (v0 v1 : Value) (hi B : Nat) (w0 w : World) : Prop where
  b : Blk w B 25 #[v0, v1]
  i : ScIn w hi s v0 v1
  hi : hi ≤ B
  bel : Below B w0 w
theorem ScKept.next {s : Sc} {v0 v1 : Value} {hi B : Nat} {w0 w w' : World} (h : ScKept s v0 v1 hi B w0 w) (hb : Below w.heap.size w w') : ScKept s v0 v1 hi B w0 w' :=
  ⟨h.b.below hb h.b.lt, h.i.below hb (by have := h.hi; have := h.b.lt; omega), h.hi, h.bel.trans (hb.mono (by have := h.b.lt; omega))⟩
theorem ScKept.start {s : Sc} {v0 v1 : Value} {hi : Nat} {w : World} (h : ScIn w hi s v0 v1) (hhi : hi ≤ w.heap.size) : ScKept s v0 v1 hi w.heap.size w (w.alloc (.cells #[v0, v1] 25)) := by
  have hb : Below w.heap.size w (w.alloc (.cells #[v0, v1] 25)) := (Below.refl _ _).alloc (Nat.le_refl _) _
  exact ⟨Blk.new _ _ _, h.below hb hhi, hhi, hb⟩
theorem ScIn.form {w : World} {hi : Nat} {s : Sc} {v0 v1 : Value} (h : ScIn w hi s v0 v1) : (∃ A n c, v0 = .slice A n c) ∧ ∃ A n c, v1 = .slice A n c := by
  refine ⟨?_, h.fn.form⟩
  obtain ⟨A, n, c, h1, _⟩ := h.sy
  exact ⟨A, n, c, h1⟩

/-- The sorts of a scheme's functions. -/
def Sc.sorts (s : Sc) : List S := s.funs.map Fn.sort
set_option maxRecDepth 100000 in
set_option maxHeartbeats 1600000 in
theorem funSorts_any (s : Sc) (v0 v1 : Value) (w : World) (hi : Nat) (hin : ScIn w hi s v0 v1) (hhi : hi ≤ w.heap.size) (hl : s.funs.length ≤ 1000) :
    Calls Tryz.prog 62 #[.agg #[v0, v1]] w fun e w' => ∃ v us, e = .returned v ∧ SRow w.heap.size hi w' s.sorts v us ∧ Below w.heap.size w w' := by
  obtain ⟨i0, hi0, hz0, hz1, hz2⟩ := info_parts sort_info2
  have k0 := ScKept.start hin hhi
  obtain ⟨⟨A0, n0, c0, rfl⟩, _⟩ := hin.form
  obtain ⟨A, _, c, us0, rfl, rfl, hnc, hc, hrd, hrow⟩ := hin.fn
  have HZ1 := Lib.hid hz1
  have HZ2 := Lib.hid hz2
  have d1 := k0.b.cell 1
  unfold Sc.sorts
  go_enter Tryz.func62, Tryz.ntmps62
  go_wp2_with fail
  go_loopw [9, 3] (fun i v wr => ∃ (k : Nat) (us : List Value), k ≤ s.funs.length ∧ i = .int .i64 k ∧ SRow w.heap.size hi wr ((s.funs.map Fn.sort).take k) v us ∧ Below w.heap.size w wr) (fun i _ _ => s.funs.length - (intOf i).toNat)
  case atStart => exact ⟨0, [], Nat.zero_le _, rfl, by simpa using SRow.nil _ _ _, k0.bel⟩
  case round =>
    obtain ⟨k, us, hk, rfl, hrr, hbel⟩ := hrel
    have hzr := hbel.size
    by_cases hlt : k < s.funs.length
    · have hx : s.funs[k]? = some s.funs[k] := List.getElem?_eq_getElem hlt
      obtain ⟨ad, u, v, rfl, hPa, hel, hsu, hbv, hsx⟩ := fn_el hrd hrow hx
      obtain ⟨r0, r1, r2, r3, r4⟩ := hel.keep (hbel.block _ (by omega))
      have hsu' := hsu.below hbel hhi
      obtain ⟨A1, n1, c1, rfl⟩ := hsu.form
      obtain ⟨A2, n2, c2, rfl⟩ := hbv.form
      have hsnoc : (s.funs.map Fn.sort).take (k + 1) = (s.funs.map Fn.sort).take k ++ [s.funs[k].sort] := by rw [List.take_add_one, List.getElem?_map, hx]; rfl
      have hlk : ((s.funs.map Fn.sort).take k).length = k := by simp; omega
      generalize (s.funs.map Fn.sort).take k = rl at *
      generalize s.funs[k] = x at *
      obtain ⟨name, sort, body⟩ := x
      simp only at r0 r1 r2 r3 r4 hsx hsu hsu' hsnoc
      have HS := Lib.hid hsnoc
      have HL := Lib.hid hlk
      have hvl : ∀ b, u3.ownBlock = some b → w.heap.size ≤ b ∧ b < wr.heap.size := fun b hb => World.ownsRow.lt hrr.own b hb
      have hbb := Blk.new wr 55 #[.string name, .slice A1 n1 c1, .int .i64 body.kind, .int .i64 body.num, .slice A2 n2 c2]
      have b1 := hbb.cell 1
      have bx : Below wr.heap.size wr (wr.alloc (.cells #[.string name, .slice A1 n1 c1, .int .i64 body.kind, .int .i64 body.num, .slice A2 n2 c2] 55)) := (Below.refl _ _).alloc (Nat.le_refl _) _
      have hrr1 := hrr.next (by omega) bx
      have hsu1 := hsu'.below bx (by omega)
      have HRR := Lib.hid hrr1
      have HSU := Lib.hid hsu1
      have hown1 := hrr1.own
      clear hx hel hsnoc hlk hsu hsu' hbv hrr hrr1 hsu1 hbb bx
      go_wp2_with
        (at_builtin
         refine wpList_append_lies _ rfl _ _ _ rfl w.heap.size 50 i0 _ 1 24 Tryz.underlying48 hi0 hz0 HZ1.out HZ2.out rfl (by omega) u3 _ us (by rfl) (hown1.alloc _)
           ⟨wr.heap.size + 1, 0, none⟩ 1 1 [.slice A1 n1 c1] (by rfl) (by rfl) (World.news_of_block (cs := #[.slice A1 n1 c1]) (t := 50) (fr := (0, 0)) (by simpa using heap_alloc_new (wr.alloc (.cells #[.string name, .slice A1 n1 c1, .int .i64 body.kind, .int .i64 body.num, .slice A2 n2 c2] 55)) _)) (fun u hu => by rw [List.mem_singleton.1 hu]; rfl) (by omega) (by rw [HL.out]; simp only [maxLen]; omega) (by rw [HL.out]; omega) (by simp; omega) (wr.heap.size + 2) (by simp) ?_
         intro gg cap2 w3 hown3 hgrow hat3 hlt3)
      go_roundw
      case rel =>
        refine ⟨k + 1, us ++ [.slice A1 n1 c1], by omega, by go_num, ?_, ?_⟩
        · rw [HS.out]
          exact HRR.out.push HSU.out (by omega) (by simp; omega) hown3 hgrow
        · exact ((hbel.alloc (by omega) _).alloc (by simp; omega) _).grown hgrow (by simp; omega) (fun b hb => (hvl b hb).1)
      case measure => simp [intOf]; omega
    · have hll : (s.funs.map Fn.sort).take k = s.funs.map Fn.sort := List.take_of_length_le (by simp; omega)
      rw [hll] at hrr
      clear hll
      go_wp2_with fail
      go_ret
      exact ⟨_, us, rfl, hrr, hbel⟩
end Go.Proofs.YtkkfdiidneoelaaGreatDoor

namespace Go.Proofs.YtkkfdiidneoelaaGreatDoor
open Go.RowKit

theorem byte_info : (Tryz.prog.info? 5).map (fun i => (i.zero, i.size, i.bytes)) = some (some (.int .u8 0), 1, 1) := by kernel_rfl
theorem builder_info : (Tryz.prog.info? 108).map (fun i => i.size) = some 2 := by kernel_rfl

/-- What a writer leaves. -/
def Wrote (B b : Nat) (bs : List Value) (w w' : World) : Prop :=
  Lib.BuilderAt 108 5 B b (.pointer (some ⟨b, 0, none⟩)) bs w' ∧ Below B w w' ∧ Lib.OthersKept 5 (some b) w w'

set_option maxHeartbeats 1000000 in
set_option maxRecDepth 100000 in
theorem copyCheck_used (b : Nat) (w : World) (h0 : w.cell? ⟨b, 0, none⟩ = some (.pointer (some ⟨b, 0, none⟩))) :
    Calls Tryz.prog 99 #[.pointer (some ⟨b, 0, none⟩)] w fun e w' => e = .returned (.tuple #[]) ∧ w = w' := by
  obtain ⟨j, hj, _⟩ := Option.map_eq_some_iff.1 builder_info
  go_enter Tryz.func99, Tryz.ntmps99
  go_wp2
  rw [Lib.run_neq_ptr_same w _ Tryz.underlying105 hj]
  go_wp2
  go_end0
  exact ⟨rfl, rfl⟩

set_option maxHeartbeats 1000000 in
set_option maxRecDepth 100000 in
theorem copyCheck_fresh (b : Nat) (w : World) (h0 : w.cell? ⟨b, 0, none⟩ = some (.pointer none)) (hsh : w.shape? b = some (108, 2)) (hfz : w.frozen? ⟨b, 0, none⟩ = false) :
    Calls Tryz.prog 99 #[.pointer (some ⟨b, 0, none⟩)] w fun e w' => e = .returned (.tuple #[]) ∧ w.setCell ⟨b, 0, none⟩ (.pointer (some ⟨b, 0, none⟩)) = w' := by
  obtain ⟨j, hj, hjs⟩ := Option.map_eq_some_iff.1 builder_info
  go_enter Tryz.func99, Tryz.ntmps99
  go_wp2
  rw [Lib.run_to_unsafe w ⟨b, 0, none⟩ Tryz.underlying105 Tryz.underlying208 hj (by rw [hjs]; decide) hsh (Nat.zero_lt_succ 1)]
  simp only [Result.andThen]
  rw [Oper.upon_value]
  go_wp2
  rw [run_callFunc_extern Tryz.func134 (by kernel_rfl) (by kernel_rfl) (by kernel_rfl) (e := Extern.AbiNoEscape.same) (by kernel_rfl)]
  rw [Lib.run_noEscape]
  simp only [Result.andThen]
  rw [Oper.upon_value]
  go_wp2
  rw [Lib.run_from_unsafe w ⟨b, 0, none⟩ Tryz.underlying208 Tryz.underlying105 hj hsh (by kernel_rfl)]
  simp only [Result.andThen]
  rw [Oper.upon_value]
  go_wp2
  go_end0
  exact ⟨rfl, rfl⟩

theorem copyCheck_any (B b : Nat) (bs : List Value) (w : World) (h : Lib.IsBuilder 108 5 B b bs w) :
    Calls Tryz.prog 99 #[.pointer (some ⟨b, 0, none⟩)] w fun e w' => e = .returned (.tuple #[]) ∧ Wrote B b bs w w' := by
  rcases h with h | h
  · refine (copyCheck_fresh b w h.cell0 h.shape h.frozen0).mono ?_
    rintro e w' ⟨rfl, rfl⟩
    exact ⟨rfl, h.used _, (Below.refl B w).setCell (p := ⟨b, 0, none⟩) h.1 _, (Lib.OthersKept.refl _ _ _).setCell ⟨b, 0, none⟩ rfl _⟩
  · refine (copyCheck_used b w h.cell0).mono ?_
    rintro e w' ⟨rfl, rfl⟩
    exact ⟨rfl, h, Below.refl B _, Lib.OthersKept.refl _ _ _⟩

set_option maxHeartbeats 2000000 in
set_option maxRecDepth 100000 in
theorem writeByte_any (B b : Nat) (bs : List Value) (c : Int) (w : World) (h : Lib.IsBuilder 108 5 B b bs w) (hlen : bs.length + 1 ≤ 140737488355328) (hBw : B ≤ w.heap.size) :
    Calls Tryz.prog 104 #[.pointer (some ⟨b, 0, none⟩), .int .u8 c] w fun e w' => e = .returned .nilIface ∧ Wrote B b (bs ++ [.int .u8 c]) w w' := by
  obtain ⟨i0, hi, hz0, hz1, hz2⟩ := info_parts byte_info
  go_enter Tryz.func104, Tryz.ntmps104
  go_wp2_with (go_at_call 99; refine (copyCheck_any B b bs _ h).mono ?_)
  rintro e w1 ⟨rfl, h1, hb1, ho1⟩
  obtain ⟨hB, v, hbk, hown, hne⟩ := h1
  have c0 : w1.cell? ⟨b, 0, none⟩ = some (.pointer (some ⟨b, 0, none⟩)) := by rw [Lib.cell_of_heap hbk]; rfl
  have c1 : w1.cell? ⟨b, 1, none⟩ = some v := by rw [Lib.cell_of_heap hbk]; rfl
  have hz := hb1.size
  go_wp2_with (at_builtin; refine wpList_append_own _ rfl _ _ 106 rfl B 5 i0 (.int .u8 0) 1 1 Tryz.underlying106 hi hz0 hz1 hz2 rfl (by decide) _ _ _ rfl (hown.alloc _) ⟨w1.heap.size, 0, none⟩ 1 1 [.int .u8 c] rfl rfl ?c1 ?c2 ?c3 ?c4 ?c5 ?_)
  case c1 =>
    intro j u hj
    match j, hj with
    | 0, hj => simp at hj; subst hj; simp [Addr.add]
  case c2 => intro u hu; simp at hu; subst hu; rfl
  case c3 => unfold maxLen; omega
  case c4 => omega
  case c5 => simp; omega
  intro v' w2 hown' hgrow _
  have hlt : b < w1.heap.size := Blk.lt (t := 108) hbk
  have hb2 : w2.heap[b]? = some (.cells #[.pointer (some ⟨b, 0, none⟩), v] 108 (0, 0)) := by
    rw [hgrow.block b (by simp; omega) (fun e => hne e.symm), Below.heap_alloc w1 _ b hlt]
    exact hbk
  have d0 : w2.cell? ⟨b, 0, none⟩ = some (.pointer (some ⟨b, 0, none⟩)) := by rw [Lib.cell_of_heap hb2]; rfl
  have d1 : w2.cell? ⟨b, 1, none⟩ = some v := by rw [Lib.cell_of_heap hb2]; rfl
  have f1 : w2.frozen? ⟨b, 1, none⟩ = false := Lib.frozen_of_heap hb2 1
  have hrow : ∀ g, v.ownBlock = some g → ∃ cs fz, (w1.alloc (.cells #[.int .u8 c] 5)).heap[g]? = some (.cells cs 5 fz) := by
    intro g hg
    rcases hown.2 with ⟨rfl, _⟩ | ⟨g', cap, cur, rfl, _, hh, _⟩
    · simp [Value.ownBlock] at hg
    · have : g' = g := by simpa [Value.ownBlock] using hg
      subst this
      exact ⟨cur, (0, 0), (Below.heap_alloc w1 _ g' (Blk.lt hh)).trans hh⟩
  obtain ⟨g, n', cap, rfl⟩ : ∃ g n' cap, v' = .slice g n' cap := by
    rcases hown'.2 with ⟨hv, _⟩ | ⟨g, cap, cur, hv, _⟩
    · exact ⟨_, _, _, hv⟩
    · exact ⟨_, _, _, hv⟩
  go_wp2
  go_ret
  refine ⟨rfl, ?_, ?_, ?_⟩
  · exact Lib.BuilderAt.put (T := 108) (e := 5) hB hb2 (bs' := bs ++ [.int .u8 c]) (by simpa using hown') (by decide)
  · exact ((hb1.alloc (by omega) _).grown hgrow (by simp; omega) (fun k hk => (hown.lt k hk).1)).setCell (p := ⟨b, 1, none⟩) hB _
  · exact ((ho1.alloc _).grown hgrow hrow).setCell ⟨b, 1, none⟩ rfl _

set_option maxHeartbeats 2000000 in
set_option maxRecDepth 100000 in
theorem writeString_any (B b : Nat) (bs : List Value) (s : ByteArray) (w : World) (h : Lib.IsBuilder 108 5 B b bs w) (hlen : bs.length + s.size ≤ 140737488355328) (hBw : B ≤ w.heap.size) :
    Calls Tryz.prog 53 #[.pointer (some ⟨b, 0, none⟩), .string s] w fun e w' => e = .returned (.tuple #[.int .i64 s.size, .nilIface]) ∧ Wrote B b (bs ++ Lib.strCells s) w w' := by
  obtain ⟨i0, hi, hz0, hz1, hz2⟩ := info_parts byte_info
  go_enter Tryz.func53, Tryz.ntmps53
  go_wp2_with (go_at_call 99; refine (copyCheck_any B b bs _ h).mono ?_)
  rintro e w1 ⟨rfl, h1, hb1, ho1⟩
  obtain ⟨hB, v, hbk, hown, hne⟩ := h1
  have c0 : w1.cell? ⟨b, 0, none⟩ = some (.pointer (some ⟨b, 0, none⟩)) := by rw [Lib.cell_of_heap hbk]; rfl
  have c1 : w1.cell? ⟨b, 1, none⟩ = some v := by rw [Lib.cell_of_heap hbk]; rfl
  have hz := hb1.size
  go_wp2_with (at_builtin; refine Lib.wpList_append_own_string _ rfl _ _ 106 9 rfl B 5 i0 Tryz.underlying106 Tryz.underlying9 hi hz0 hz1 hz2 _ _ _ rfl hown s rfl ?c3 ?c4 ?c5 ?_)
  case c3 => unfold maxLen; omega
  case c4 => omega
  case c5 => omega
  intro v' w2 hown' hgrow _
  have hlt : b < w1.heap.size := Blk.lt (t := 108) hbk
  have hb2 : w2.heap[b]? = some (.cells #[.pointer (some ⟨b, 0, none⟩), v] 108 (0, 0)) := by
    rw [hgrow.block b hlt (fun e => hne e.symm)]
    exact hbk
  have d0 : w2.cell? ⟨b, 0, none⟩ = some (.pointer (some ⟨b, 0, none⟩)) := by rw [Lib.cell_of_heap hb2]; rfl
  have d1 : w2.cell? ⟨b, 1, none⟩ = some v := by rw [Lib.cell_of_heap hb2]; rfl
  have f1 : w2.frozen? ⟨b, 1, none⟩ = false := Lib.frozen_of_heap hb2 1
  have hrow : ∀ g, v.ownBlock = some g → ∃ c fz, w1.heap[g]? = some (.cells c 5 fz) := by
    intro g hg
    rcases hown.2 with ⟨rfl, _⟩ | ⟨g', cap, cur, rfl, _, hh, _⟩
    · simp [Value.ownBlock] at hg
    · have : g' = g := by simpa [Value.ownBlock] using hg
      subst this
      exact ⟨cur, (0, 0), hh⟩
  obtain ⟨g, n', cap, rfl⟩ : ∃ g n' cap, v' = .slice g n' cap := by
    rcases hown'.2 with ⟨hv, _⟩ | ⟨g, cap, cur, hv, _⟩
    · exact ⟨_, _, _, hv⟩
    · exact ⟨_, _, _, hv⟩
  go_wp2
  go_ret2
  refine ⟨rfl, ?_, ?_, ?_⟩
  · exact Lib.BuilderAt.put (T := 108) (e := 5) hB hb2 (bs' := bs ++ Lib.strCells s) (by simpa [Lib.strCells_length] using hown') (by decide)
  · exact (hb1.grown hgrow (by omega) (fun k hk => (hown.lt k hk).1)).setCell (p := ⟨b, 1, none⟩) hB _
  · exact (ho1.grown hgrow hrow).setCell ⟨b, 1, none⟩ rfl _
end Go.Proofs.YtkkfdiidneoelaaGreatDoor

namespace Go.Proofs.YtkkfdiidneoelaaGreatDoor
open Go.RowKit

mutual
/-- The string of a sort. -/
def S.text : S → List UInt8
  | .mk l => S.textL l ++ [111]
def S.textL : List S → List UInt8
  | [] => []
  | s :: r => (if s.args.isEmpty then [111] else 40 :: (s.text ++ [41])) ++ ([32, 62, 32] ++ S.textL r)
end
def S.argText (s : S) : List UInt8 := if s.args.isEmpty then [111] else 40 :: (s.text ++ [41])
theorem S.textL_append (l m : List S) : S.textL (l ++ m) = S.textL l ++ S.textL m := by
  induction l with
  | nil => simp [S.textL]
  | cons x r ih => simp [S.textL, ih]
theorem S.textL_take_succ (l : List S) (k : Nat) (x : S) (h : l[k]? = some x) : S.textL (l.take (k + 1)) = S.textL (l.take k) ++ x.argText ++ [32, 62, 32] := by
  rw [List.take_add_one, h, S.textL_append]
  simp [S.textL, S.argText]
mutual
theorem S.text_length : ∀ s : S, s.text.length + 5 ≤ 6 * s.count
  | .mk l => by have := S.textL_length l; simp only [S.text, S.count, List.length_append, List.length_cons, List.length_nil]; omega
theorem S.textL_length : ∀ l : List S, (S.textL l).length ≤ 6 * S.countL l
  | [] => by simp [S.textL]
  | s :: r => by
    have h1 := S.text_length s
    have h2 := S.textL_length r
    have h3 := s.count_pos
    simp only [S.textL, S.countL, List.length_append, List.length_cons, List.length_nil]
    split <;> simp only [List.length_append, List.length_cons, List.length_nil] <;> omega
end
theorem S.argText_length (s : S) : s.argText.length + 3 ≤ 6 * s.count := by
  have h1 := S.text_length s
  have h3 := s.count_pos
  simp only [S.argText]
  split <;> simp only [List.length_append, List.length_cons, List.length_nil] <;> omega
theorem byteCells_append (a b : List UInt8) : Lib.byteCells (a ++ b) = Lib.byteCells a ++ Lib.byteCells b := by simp [Lib.byteCells]
theorem Wrote.builder {B b : Nat} {bs : List Value} {w w' : World} (h : Wrote B b bs w w') : Lib.IsBuilder 108 5 B b bs w' := .inr h.1
theorem isBuilder_kept {B b : Nat} {bs : List Value} {w w' : World} (h : Lib.IsBuilder 108 5 B b bs w) (hb : Below w.heap.size w w') : Lib.IsBuilder 108 5 B b bs w' := by
  have key : ∀ p, Lib.BuilderAt 108 5 B b p bs w → Lib.BuilderAt 108 5 B b p bs w' := by
    rintro p ⟨hB, v, h1, h2, h3⟩
    refine ⟨hB, v, (hb.block b (Blk.lt (t := 108) h1)).trans h1, ⟨h2.1, ?_⟩, h3⟩
    rcases h2.2 with hv | ⟨g, cap, cur, hv, hg, hh, hr⟩
    · exact .inl hv
    · exact .inr ⟨g, cap, cur, hv, hg, (hb.block g (Blk.lt hh)).trans hh, hr⟩
  rcases h with h | h
  · exact .inl (key _ h)
  · exact .inr (key _ h)
theorem isBuilder_lt {B b : Nat} {bs : List Value} {w : World} (h : Lib.IsBuilder 108 5 B b bs w) : B ≤ b ∧ b < w.heap.size := by
  rcases h with h | h
  · exact ⟨h.1, h.lt⟩
  · exact ⟨h.1, h.lt⟩
theorem Blk.others {w w' : World} {g b : Nat} {cs : Array Value} {t : TypeId} (h : Blk w g t cs) (ho : Lib.OthersKept 5 (some b) w w') (hne : g ≠ b) (ht : t ≠ 5) : Blk w' g t cs := by
  exact ho g _ h (by simpa using hne) (by rintro c fz e; injection e with _ e2; exact ht e2)

set_option maxHeartbeats 800000 in
theorem writeArg_any {K : Nat} (ih : ∀ (s : S) (v : Value) (bs : List UInt8) (B b : Nat) (w : World) (lo hi : Nat), s.count ≤ K → bs.length + 6 * s.count ≤ 1000000 → s.In w lo hi v → hi ≤ B →
      Lib.IsBuilder 108 5 B b (Lib.byteCells bs) w →
      Calls Tryz.prog 102 #[.pointer (some ⟨b, 0, none⟩), .agg #[v]] w fun e w' => e = .returned (.tuple #[]) ∧ Lib.IsBuilder 108 5 B b (Lib.byteCells (bs ++ s.text)) w' ∧ Below B w w')
    (s : S) (v : Value) (bs : List UInt8) (B b : Nat) (w : World) (lo hi : Nat) (hK : s.count ≤ K) (hlen : bs.length + 6 * s.count ≤ 999994) (hin : s.In w lo hi v) (hhi : hi ≤ B)
    (hbd : Lib.IsBuilder 108 5 B b (Lib.byteCells bs) w) :
    Calls Tryz.prog 140 #[.pointer (some ⟨b, 0, none⟩), .agg #[v]] w fun e w' => e = .returned (.tuple #[]) ∧ Lib.IsBuilder 108 5 B b (Lib.byteCells (bs ++ s.argText)) w' ∧ Below B w w' := by
  have hlt := isBuilder_lt hbd
  have hin0 := hin
  obtain ⟨l⟩ := s
  simp only [S.In] at hin
  obtain ⟨A, _, c, rfl, rfl, hnc, hc, hall⟩ := hin
  have hw1 : Below w.heap.size w (w.alloc (.cells #[.slice A l.length c] 50)) := (Below.refl _ _).alloc (Nat.le_refl _) _
  have hbd1 := isBuilder_kept hbd hw1
  have hin1 := hin0.below hw1 (by omega)
  by_cases hl : l = []
  · subst hl
    have HT : Hid ((S.mk []).argText = [111]) := Lib.hid (by simp [S.argText, S.args])
    have HC := Lib.hid (writeString_any B b _ ⟨#[111]⟩ _ hbd1 (by rw [Lib.byteCells_length]; show bs.length + 1 ≤ _; omega) (by simp; omega))
    have HIH := Lib.hid ih
    clear ih
    go_enter Tryz.func140, Tryz.ntmps140
    go_wp2_with fail
    refine HC.out.mono ?_
    rintro e w1 ⟨rfl, hw⟩
    go_wp2_with fail
    refine bodyPost_ret (results_none rfl _ _ _) rfl ?_
    refine ⟨rfl, ?_, (hw1.mono (by omega)).trans hw.2.1⟩
    rw [HT.out, byteCells_append]
    exact hw.builder
  · have hl0 : ((l.length : Int) == 0) = false := by
      have : 0 < l.length := List.length_pos_iff.2 hl
      rw [beq_eq_false_iff_ne]; omega
    have HT : Hid (bs ++ (S.mk l).argText = (bs ++ [40]) ++ (S.mk l).text ++ [41]) := Lib.hid (by
      have : (S.mk l).args.isEmpty = false := by simpa [S.args] using hl
      simp [S.argText, this])
    have hbk := Blk.new w 50 #[.slice A l.length c]
    have HC := Lib.hid (writeByte_any B b _ 40 _ hbd1 (by rw [Lib.byteCells_length]; omega) (by simp; omega))
    have HIH := Lib.hid ih
    clear ih
    go_enter Tryz.func140, Tryz.ntmps140
    go_wp2_with fail
    refine HC.out.mono ?_
    rintro e w1 ⟨rfl, hw⟩
    have hc1 := (hbk.others hw.2.2 (by omega) (by decide)).cell 0
    have hin2 := hin1.below hw.2.1 hhi
    have hbd2 : Lib.IsBuilder 108 5 B b (Lib.byteCells (bs ++ [40])) w1 := by rw [byteCells_append]; exact hw.builder
    have hcl := (S.mk l).text_length
    have hz1 := (isBuilder_lt hbd2).2
    have HD := Lib.hid (HIH.out (S.mk l) _ (bs ++ [40]) B b w1 lo hi hK (by simp; omega) hin2 hhi hbd2)
    go_wp2_with fail
    refine HD.out.mono ?_
    rintro e w2 ⟨rfl, hbd3, hb2⟩
    have hz2 := hb2.size
    have HE := Lib.hid (writeByte_any B b _ 41 w2 hbd3 (by rw [Lib.byteCells_length]; simp; omega) (by omega))
    go_wp2_with fail
    refine HE.out.mono ?_
    rintro e w3 ⟨rfl, hw3⟩
    go_wp2_with fail
    go_end0
    refine ⟨rfl, ?_, (((hw1.mono (by omega)).trans hw.2.1).trans hb2).trans hw3.2.1⟩
    rw [HT.out, byteCells_append]
    exact hw3.builder

set_option maxHeartbeats 800000 in
theorem write_any (K : Nat) : ∀ (s : S) (v : Value) (bs : List UInt8) (B b : Nat) (w : World) (lo hi : Nat), s.count ≤ K → bs.length + 6 * s.count ≤ 1000000 → s.In w lo hi v → hi ≤ B →
      Lib.IsBuilder 108 5 B b (Lib.byteCells bs) w →
      Calls Tryz.prog 102 #[.pointer (some ⟨b, 0, none⟩), .agg #[v]] w fun e w' => e = .returned (.tuple #[]) ∧ Lib.IsBuilder 108 5 B b (Lib.byteCells (bs ++ s.text)) w' ∧ Below B w w' := by
  induction K with
  | zero => intro s; have := s.count_pos; omega
  | succ K ih =>
    intro s v bs B b w lo hi hK hlen hin hhi hbd
    have hlt := isBuilder_lt hbd
    obtain ⟨l⟩ := s
    simp only [S.In] at hin
    obtain ⟨A, _, c, rfl, rfl, hnc, hc, hall⟩ := hin
    have hw1 : Below w.heap.size w (w.alloc (.cells #[.slice A l.length c] 50)) := (Below.refl _ _).alloc (Nat.le_refl _) _
    have hbd1 := isBuilder_kept hbd hw1
    have hIH := fun s v bs w => @writeArg_any K ih s v bs B b w lo hi
    have HIH := Lib.hid hIH
    have HBD := Lib.hid hbd1
    clear ih hIH hbd hbd1
    go_enter Tryz.func102, Tryz.ntmps102
    go_wp2_with fail
    go_loopw [9] (fun i wr => ∃ k : Nat, k ≤ l.length ∧ i = .int .i64 k ∧ Lib.IsBuilder 108 5 B b (Lib.byteCells (bs ++ S.textL (l.take k))) wr ∧ Below B w wr) (fun i _ => l.length - (intOf i).toNat)
    case atStart => exact ⟨0, Nat.zero_le _, rfl, by simpa [S.textL] using HBD.out, hw1.mono (by omega)⟩
    case round =>
      obtain ⟨k, hk, rfl, hbk, hbel⟩ := hrel
      have hsz := hbel.size
      have hlt1 := isBuilder_lt hbk
      by_cases hlt : k < l.length
      · have hx : l[k]? = some l[k] := List.getElem?_eq_getElem hlt
        have hcs := S.countL_take_succ l k _ hx
        have hct := S.countL_take_le l (k + 1)
        have hcl := S.count_lt hx
        have htl := S.textL_length (l.take k)
        have hts := S.textL_take_succ l k _ hx
        have hal := l[k].argText_length
        obtain ⟨ad, u, rfl, _, hadb, hcell, hinx⟩ := hall.at_ hx
        rw [Nat.zero_add] at hcell
        have hcellr : wr.cell? (ad.add k) = some u := (hbel.cell (by rw [block_of_add]; omega)).trans hcell
        obtain ⟨A', n', c', rfl⟩ := hinx.form
        have hw2 : Below wr.heap.size wr (wr.alloc (.cells #[.slice A' n' c'] 50)) := (Below.refl _ _).alloc (Nat.le_refl _) _
        have hinr := (hinx.below hbel hhi).below hw2 (by omega)
        simp only [S.count] at hlen hK
        have hcal := HIH.out l[k] _ (bs ++ S.textL (l.take k)) _ (by simp only [S.count] at hcl; omega) (by simp only [List.length_append]; omega) hinr hhi (isBuilder_kept hbk hw2)
        generalize l[k] = x at *
        have HC := Lib.hid hcal
        have HT := Lib.hid hts
        have HB := Lib.hid hbk
        have hlen2 : bs.length + (S.textL (l.take k)).length + x.argText.length + 3 ≤ 1000000 := by omega
        clear hcal hts hx hcell hcs hbk
        go_wp2_with fail
        refine HC.out.mono ?_
        rintro e w1 ⟨rfl, hbd1, hb1⟩
        have hz1 := hb1.size
        simp only [World.size_alloc] at hz1
        have HD := Lib.hid (writeString_any B b _ ⟨#[32, 62, 32]⟩ w1 hbd1 (by rw [Lib.byteCells_length]; simp only [List.length_append]; show _ + 3 ≤ _; omega) (by omega))
        go_wp2_with fail
        refine HD.out.mono ?_
        rintro e w2 ⟨rfl, hw3⟩
        go_wp2_with fail
        go_roundw
        case rel =>
          refine ⟨k + 1, by omega, by go_num, ?_, ((hbel.trans (hw2.mono (by omega))).trans hb1).trans hw3.2.1⟩
          have h4 := hw3.builder
          have h5 : Lib.byteCells (bs ++ S.textL (l.take (k + 1))) = Lib.byteCells (bs ++ S.textL (l.take k) ++ x.argText) ++ Lib.strCells ⟨#[32, 62, 32]⟩ := by
            rw [HT.out, ← List.append_assoc, ← List.append_assoc, byteCells_append]
            rfl
          rw [h5]
          exact h4
        case measure => simp [intOf]; omega
      · have h1 : l.take k = l := List.take_of_length_le (by omega)
        rw [h1] at hbk
        have htl := S.textL_length l
        simp only [S.count] at hlen
        have HD := Lib.hid (writeString_any B b _ ⟨#[111]⟩ wr hbk (by rw [Lib.byteCells_length]; simp only [List.length_append]; show _ + 1 ≤ _; omega) (by omega))
        clear h1
        go_wp2_with fail
        refine HD.out.mono ?_
        rintro e w2 ⟨rfl, hw3⟩
        go_wp2_with fail
        go_end0
        refine ⟨rfl, ?_, hbel.trans hw3.2.1⟩
        have h4 := hw3.builder
        have h5 : Lib.byteCells (bs ++ (S.mk l).text) = Lib.byteCells (bs ++ S.textL l) ++ Lib.strCells ⟨#[111]⟩ := by
          rw [S.text, ← List.append_assoc, byteCells_append]
          rfl
        rw [h5]
        exact h4
end Go.Proofs.YtkkfdiidneoelaaGreatDoor

namespace Go.Proofs.YtkkfdiidneoelaaGreatDoor
open Go.RowKit

/-- What Put returns. -/
def S.puts (s : S) : List UInt8 := if s.ok then s.text else []

set_option maxHeartbeats 800000 in
theorem put_any (s : S) (v : Value) (w : World) (lo hi : Nat) (hin : s.In w lo hi v) (hhi : hi ≤ w.heap.size) :
    Calls Tryz.prog 55 #[.agg #[v]] w fun e w' => e = .returned (.tuple #[.string ⟨s.puts.toArray⟩, .int .i64 (errOf s.ok)]) ∧ Below w.heap.size w w' := by
  obtain ⟨A, n, c, rfl⟩ := hin.form
  have hw1 : Below w.heap.size w (w.alloc (.cells #[.slice A n c] 50)) := (Below.refl _ _).alloc (Nat.le_refl _) _
  have hin1 := hin.below hw1 hhi
  have hbk := Blk.new w 50 #[.slice A n c]
  have HC := Lib.hid (check_any s _ _ lo hi hin1 (by simp; omega))
  cases hok : s.ok with
  | true =>
    have hcnt := S.ok_count hok
    have HO : Hid (s.puts = s.text) := Lib.hid (by simp [S.puts, hok])
    rw [hok] at HC
    clear hok
    go_enter Tryz.func55, Tryz.ntmps55
    go_wp2_with fail
    refine HC.out.mono ?_
    rintro e w1 ⟨rfl, hb1⟩
    simp only [errOf, if_true]
    have hk1 := hbk.below hb1 (by simp)
    have hc1 := (hk1.alloc (.cells #[.pointer none, .slice none 0 0] 108)).cell 0
    have hin2 := hin1.below hb1 (by simp; omega)
    have hz := hb1.size
    simp only [World.size_alloc] at hb1 hz
    have hw2 : Below w1.heap.size w1 (w1.alloc (.cells #[.pointer none, .slice none 0 0] 108)) := (Below.refl _ _).alloc (Nat.le_refl _) _
    have HD := Lib.hid (write_any _ s _ [] w1.heap.size w1.heap.size _ lo hi (Nat.le_refl _) (by simp; omega) (hin2.below hw2 (by omega)) (by omega) (Lib.fresh_isBuilder 108 5 w1))
    go_wp2_with fail
    refine HD.out.mono ?_
    rintro e w2 ⟨rfl, hbd, hb2⟩
    have hz2 := hb2.size
    simp only [World.size_alloc] at hz2
    have HE := Lib.hid (Tryz.Builder_String_any w1.heap.size w1.heap.size ([] ++ s.text) w2 hbd (by omega))
    go_wp2_with fail
    refine HE.out.mono ?_
    rintro e w3 ⟨rfl, hb3⟩
    go_wp2_with fail
    go_ret2
    exact ⟨by rw [HO.out]; rfl, (hw1.trans (hb1.mono (by omega))).trans (((hw2.trans hb2).trans hb3).mono (by omega))⟩
  | false =>
    have HO : Hid (s.puts = []) := Lib.hid (by simp [S.puts, hok])
    rw [hok] at HC
    clear hok
    go_enter Tryz.func55, Tryz.ntmps55
    go_wp2_with fail
    refine HC.out.mono ?_
    rintro e w1 ⟨rfl, hb1⟩
    rw [show errOf false = 6 from rfl]
    simp only [World.size_alloc] at hb1
    go_wp2_with fail
    go_ret2
    exact ⟨by rw [HO.out]; rfl, hw1.trans (hb1.mono (by omega))⟩

theorem str_append (a b : List UInt8) : Value.string (⟨a.toArray⟩ ++ ⟨b.toArray⟩) = .string ⟨(a ++ b).toArray⟩ := by
  congr 1
theorem str_append4 (a b c d : List UInt8) : Value.string (⟨a.toArray⟩ ++ ⟨b.toArray⟩ ++ ⟨c.toArray⟩ ++ ⟨d.toArray⟩) = .string ⟨(a ++ b ++ c ++ d).toArray⟩ := by
  congr 1

end Go.Proofs.YtkkfdiidneoelaaGreatDoor

namespace Go.Proofs.YtkkfdiidneoelaaGreatDoor
open Go.RowKit

/-- The string of a head. -/
def headB (s : Sc) (k n : Int) : List UInt8 :=
  if k = 0 then 36 :: Lib.decDigits n.toNat else if k = 2 then 35 :: (s.syms[n.toNat]?.map nm).getD [] else (s.funs[n.toNat]?.map fnm).getD []
/-- A head of one of a parameters, b functions, c symbols. -/
def headOk (a b c : Nat) (k n : Int) : Bool :=
  decide (0 ≤ n) && ((decide (k = 0) && decide (n < a)) || ((decide (k = 1) && decide (n < b)) || (decide (k = 2) && decide (n < c))))
mutual
def T.heads (a b c : Nat) : T → Bool
  | .mk k n l => headOk a b c k n && T.headsL a b c l
def T.headsL (a b c : Nat) : List T → Bool
  | [] => true
  | s :: r => s.heads a b c && T.headsL a b c r
end
theorem T.headsL_at {a b c : Nat} : ∀ {l : List T}, T.headsL a b c l = true → ∀ {k : Nat} {x : T}, l[k]? = some x → x.heads a b c = true
  | [], _, k, x, h => by simp at h
  | s :: r, hl, k, x, h => by
    simp only [T.headsL, Bool.and_eq_true] at hl
    cases k with
    | zero => simp at h; subst h; exact hl.1
    | succ k => simp at h; exact T.headsL_at hl.2 h
theorem T.heads_head {a b c : Nat} {t : T} (h : t.heads a b c = true) : headOk a b c t.kind t.num = true ∧ T.headsL a b c t.args = true := by
  obtain ⟨k, n, l⟩ := t
  simpa [T.heads, T.kind, T.num, T.args] using h
theorem str_one (c : UInt8) (s : ByteArray) : Value.string (⟨#[c]⟩ ++ s) = .string ⟨(c :: s.data.toList).toArray⟩ := by
  congr 1
theorem str_list (s : ByteArray) : Value.string s = .string ⟨s.data.toList.toArray⟩ := by simp

theorem dec_one {m : Nat} (h : m < 10) : Lib.decDigits m = [UInt8.ofNat (48 + m)] := by rw [Lib.decDigits, dif_pos h]

set_option maxRecDepth 100000 in
set_option maxHeartbeats 800000 in
theorem headText_any (s : Sc) (v0 v1 : Value) (w : World) (hi : Nat) (hin : ScIn w hi s v0 v1) (hhi : hi ≤ w.heap.size) (hsn : ∀ x ∈ s.syms, x.name.size ≤ 1000) (k n : Int) (v : Value) (hv : ∃ A n c, v = .slice A n c)
    (ht : headOk 8 s.funs.length s.syms.length k n = true) :
    Calls Tryz.prog 103 #[.agg #[v0, v1], .agg #[.int .i64 k, .int .i64 n, v]] w fun e w' => e = .returned (.string ⟨(headB s k n).toArray⟩) ∧ Below w.heap.size w w' := by
  have k0 := ScKept.start hin hhi
  obtain ⟨⟨A0, n0, c0, rfl⟩, ⟨A1, n1, c1, rfl⟩⟩ := hin.form
  obtain ⟨A2, n2, c2, rfl⟩ := hv
  have bb : Below (w.alloc (.cells #[.slice A0 n0 c0, .slice A1 n1 c1] 25)).heap.size (w.alloc (.cells #[.slice A0 n0 c0, .slice A1 n1 c1] 25)) ((w.alloc (.cells #[.slice A0 n0 c0, .slice A1 n1 c1] 25)).alloc (.cells #[.int .i64 k, .int .i64 n, .slice A2 n2 c2] 53)) := (Below.refl _ _).alloc (Nat.le_refl _) _
  have k1 := k0.next bb
  have d0 := k1.b.cell 0
  have d1 := k1.b.cell 1
  simp at d0 d1
  simp only [headOk, Bool.and_eq_true, Bool.or_eq_true, decide_eq_true_eq] at ht
  obtain ⟨h0, h1⟩ := ht
  obtain ⟨m, rfl⟩ : ∃ m : Nat, n = (m : Int) := ⟨n.toNat, by omega⟩
  rcases h1 with ⟨rfl, h2⟩ | ⟨rfl, h2⟩ | ⟨rfl, h2⟩
  · have HI := Lib.hid (fun W => Tryz.strconv_Itoa_small m (by omega) W)
    have HF : Hid (headB s 0 (m : Int) = 36 :: Lib.decDigits m) := Lib.hid (by simp [headB])
    have hdl : (Lib.decDigits m).length ≤ 1 := by rw [dec_one (by omega)]; simp
    generalize Lib.decDigits m = dg at *
    clear hin k0
    go_enter Tryz.func103, Tryz.ntmps103
    go_wp2_with fail
    refine (HI.out _).mono ?_
    rintro e w1 ⟨rfl, rfl⟩
    go_wp2_with fail
    go_ret
    refine ⟨?_, k1.bel⟩
    rw [HF.out]
    exact congrArg Ending.returned (str_append [36] dg)
  · obtain ⟨A, _, c, us, he, hl, hnc, hc, hrd, hrow⟩ := k1.i.fn
    injection he with e1 e2 e3
    subst e1 e2 e3 hl
    have hx : s.funs[m]? = some s.funs[m] := List.getElem?_eq_getElem (by omega)
    have HF : Hid (headB s 1 (m : Int) = fnm s.funs[m]) := Lib.hid (by simp [headB, hx])
    obtain ⟨ad, u, vb, rfl, hPa, hel, _⟩ := fn_el hrd hrow hx
    have r0 := hel.c0
    generalize s.funs[m] = x at *
    obtain ⟨name, sort, body⟩ := x
    simp only at r0
    have hml : m < s.funs.length := by omega
    clear hin k0 hel hrow hrd hx
    go_enter Tryz.func103, Tryz.ntmps103
    go_wp2_with fail
    go_ret
    exact ⟨by rw [HF.out]; exact congrArg Ending.returned (str_list name), k1.bel⟩
  · obtain ⟨A, _, c, he, hl, hnc, hc, hrd, hsz⟩ := k1.i.sy
    injection he with e1 e2 e3
    subst e1 e2 e3 hl
    have hx : s.syms[m]? = some s.syms[m] := List.getElem?_eq_getElem (by omega)
    have HF : Hid (headB s 2 (m : Int) = 35 :: nm s.syms[m]) := Lib.hid (by simp [headB, hx])
    obtain ⟨ad, rfl, hPa, hel⟩ := sy_el hrd hx
    have r0 := hel.1
    have hsx := hsn s.syms[m] (List.getElem_mem (by omega))
    generalize s.syms[m] = x at *
    obtain ⟨name, rank⟩ := x
    simp only at r0 hsx
    have hml : m < s.syms.length := by omega
    clear hin k0 hel hrd hx
    go_enter Tryz.func103, Tryz.ntmps103
    go_wp2_with fail
    go_ret
    exact ⟨by rw [HF.out]; exact congrArg Ending.returned (str_one 35 name), k1.bel⟩
end Go.Proofs.YtkkfdiidneoelaaGreatDoor

namespace Go.Proofs.YtkkfdiidneoelaaGreatDoor
open Go.RowKit

mutual
/-- The string of a term. -/
def T.text (s : Sc) : T → List UInt8
  | .mk k n l => headB s k n ++ T.textL s l
def T.textL (s : Sc) : List T → List UInt8
  | [] => []
  | x :: r => 32 :: ((if x.args.isEmpty then headB s x.kind x.num else 40 :: (x.text s ++ [41])) ++ T.textL s r)
end
def T.argText (s : Sc) (x : T) : List UInt8 := if x.args.isEmpty then headB s x.kind x.num else 40 :: (x.text s ++ [41])
theorem T.text_eq (s : Sc) (t : T) : t.text s = headB s t.kind t.num ++ T.textL s t.args := by cases t; simp [T.text, T.kind, T.num, T.args]
theorem T.textL_append (s : Sc) (l m : List T) : T.textL s (l ++ m) = T.textL s l ++ T.textL s m := by
  induction l with
  | nil => simp [T.textL]
  | cons x r ih => simp [T.textL, ih]
theorem T.textL_take_succ (s : Sc) (l : List T) (k : Nat) (x : T) (h : l[k]? = some x) : T.textL s (l.take (k + 1)) = T.textL s (l.take k) ++ 32 :: x.argText s := by
  rw [List.take_add_one, h, T.textL_append]
  simp [T.textL, T.argText]
theorem T.headsL_take {a b c : Nat} : ∀ (l : List T) (k : Nat), T.headsL a b c l = true → T.headsL a b c (l.take k) = true
  | [], k, _ => by simp [T.headsL]
  | x :: r, 0, _ => by simp [T.headsL]
  | x :: r, k + 1, h => by
    simp only [T.headsL, Bool.and_eq_true] at h
    simp only [List.take_succ_cons, T.headsL, Bool.and_eq_true]
    exact ⟨h.1, T.headsL_take r k h.2⟩
/-- Names are short. -/
def Sc.short (s : Sc) : Prop := (∀ x ∈ s.syms, x.name.size ≤ 24) ∧ ∀ f ∈ s.funs, f.name.size ≤ 24
theorem headB_length {s : Sc} (hs : s.short) {k n : Int} (h : headOk 8 s.funs.length s.syms.length k n = true) : (headB s k n).length ≤ 25 := by
  simp only [headOk, Bool.and_eq_true, Bool.or_eq_true, decide_eq_true_eq] at h
  obtain ⟨h0, h1⟩ := h
  unfold headB
  split
  · subst_vars
    rw [dec_one (by omega)]; simp
  · split
    · rcases h1 with h1 | h1 | h1
      · omega
      · omega
      · have hx : s.syms[n.toNat]? = some (s.syms[n.toNat]'(by omega)) := List.getElem?_eq_getElem (by omega)
        rw [hx]
        have := hs.1 _ (List.getElem_mem (by omega : n.toNat < s.syms.length))
        simp [nm]; omega
    · rcases h1 with h1 | h1 | h1
      · omega
      · have hx : s.funs[n.toNat]? = some (s.funs[n.toNat]'(by omega)) := List.getElem?_eq_getElem (by omega)
        rw [hx]
        have := hs.2 _ (List.getElem_mem (by omega : n.toNat < s.funs.length))
        simp [fnm]; omega
      · omega
mutual
theorem T.text_length {s : Sc} (hs : s.short) : ∀ t : T, t.heads 8 s.funs.length s.syms.length = true → (t.text s).length + 3 ≤ 28 * t.count
  | .mk k n l, h => by
    simp only [T.heads, Bool.and_eq_true] at h
    have h1 := headB_length hs h.1
    have h2 := T.textL_length hs l h.2
    simp only [T.text, T.count, List.length_append]; omega
theorem T.textL_length {s : Sc} (hs : s.short) : ∀ l : List T, T.headsL 8 s.funs.length s.syms.length l = true → (T.textL s l).length ≤ 28 * T.countL l
  | [], _ => by simp [T.textL]
  | x :: r, h => by
    simp only [T.headsL, Bool.and_eq_true] at h
    have h1 := T.text_length hs x h.1
    have h2 := T.textL_length hs r h.2
    have h3 := x.count_pos
    have h4 := headB_length hs (T.heads_head h.1).1
    simp only [T.textL, T.countL, List.length_append, List.length_cons]
    split
    · omega
    · simp only [List.length_append, List.length_cons, List.length_nil]; omega
end
theorem T.argText_length {s : Sc} (hs : s.short) (t : T) (h : t.heads 8 s.funs.length s.syms.length = true) : (t.argText s).length + 1 ≤ 28 * t.count := by
  have h1 := T.text_length hs t h
  have h4 := headB_length hs (T.heads_head h).1
  have h3 := t.count_pos
  simp only [T.argText]
  split
  · omega
  · simp only [List.length_append, List.length_cons, List.length_nil]; omega

/-- What a writer of a scheme leaves. -/
structure Wr (B b : Nat) (bs : List UInt8) (w w' : World) : Prop where
  ib : Lib.IsBuilder 108 5 B b (Lib.byteCells bs) w'
  bel : Below B w w'
  oth : Lib.OthersKept 5 (some b) w w'
theorem Wr.of_wrote {B b : Nat} {bs cs : List UInt8} {vs : List Value} {w w' : World} (h : Wrote B b (Lib.byteCells bs ++ vs) w w') (hv : vs = Lib.byteCells cs) : Wr B b (bs ++ cs) w w' :=
  ⟨by rw [byteCells_append, ← hv]; exact h.builder, h.2.1, h.2.2⟩
theorem Wr.trans {B b : Nat} {bs cs : List UInt8} {w w1 w2 : World} (h : Wr B b bs w w1) (k : Wr B b cs w1 w2) : Wr B b cs w w2 := ⟨k.ib, h.bel.trans k.bel, h.oth.trans k.oth⟩
theorem others_below {w w' : World} {b : Nat} (h : Below w.heap.size w w') : Lib.OthersKept 5 (some b) w w' := fun k _ hk _ _ => (h.block k (Array.getElem?_eq_some_iff.1 hk).1).trans hk
theorem Wr.quiet {B b : Nat} {bs : List UInt8} {w w1 w2 : World} (h : Wr B b bs w w1) (k : Below w1.heap.size w1 w2) : Wr B b bs w w2 :=
  ⟨isBuilder_kept h.ib k, h.bel.trans (k.mono (by have := isBuilder_lt h.ib; omega)), h.oth.trans (others_below k)⟩
theorem Wr.start {B b : Nat} {bs : List UInt8} {w : World} (h : Lib.IsBuilder 108 5 B b (Lib.byteCells bs) w) : Wr B b bs w w := ⟨h, Below.refl _ _, Lib.OthersKept.refl _ _ _⟩
theorem strCells_list (t : List UInt8) : Lib.strCells ⟨t.toArray⟩ = Lib.byteCells t := rfl

set_option maxRecDepth 100000 in
set_option maxHeartbeats 1600000 in
theorem schemeWrite_any (s : Sc) (hsh : s.short) (v0 v1 : Value) (hi : Nat) (K : Nat) : ∀ (t : T) (v : Value) (bs : List UInt8) (B b : Nat) (w : World), t.count ≤ K → bs.length + 28 * t.count ≤ 100000000 → ScIn w hi s v0 v1 → t.In w (fun b => b < hi) v → hi ≤ B →
      t.heads 8 s.funs.length s.syms.length = true → Lib.IsBuilder 108 5 B b (Lib.byteCells bs) w →
      Calls Tryz.prog 56 #[.pointer (some ⟨b, 0, none⟩), .agg #[v0, v1], .agg #[.int .i64 t.kind, .int .i64 t.num, v]] w fun e w' => e = .returned (.tuple #[]) ∧ Wr B b (bs ++ t.text s) w w' := by
  induction K with
  | zero => intro t; have := t.count_pos; omega
  | succ K ih =>
    intro t v bs B b w hK hlen hsc hin hhi hhd hbd
    have hlt := isBuilder_lt hbd
    obtain ⟨⟨A0, n0, c0, rfl⟩, ⟨A1, n1, c1, rfl⟩⟩ := hsc.form
    obtain ⟨hh1, hh2⟩ := T.heads_head hhd
    have HTX := Lib.hid (T.text_eq s t)
    have hhl := headB_length hsh hh1
    obtain ⟨kd, nu, l⟩ := t
    simp only [T.In] at hin
    obtain ⟨A, _, c, us, rfl, rfl, hnc, hc, hrd, hrow⟩ := hin
    simp only [T.kind, T.num, T.args] at *
    simp only [T.count] at hK hlen
    have wr0 : Wr B b bs w ((w.alloc (.cells #[.slice A0 n0 c0, .slice A1 n1 c1] 25)).alloc (.cells #[.int .i64 kd, .int .i64 nu, .slice A l.length c] 53)) :=
      (Wr.start hbd).quiet (((Below.refl _ _).alloc (Nat.le_refl _) _).alloc (by simp) _)
    have bx0 : Blk ((w.alloc (.cells #[.slice A0 n0 c0, .slice A1 n1 c1] 25)).alloc (.cells #[.int .i64 kd, .int .i64 nu, .slice A l.length c] 53)) w.heap.size 25 #[.slice A0 n0 c0, .slice A1 n1 c1] := (Blk.new _ _ _).alloc _
    have bt0 : Blk ((w.alloc (.cells #[.slice A0 n0 c0, .slice A1 n1 c1] 25)).alloc (.cells #[.int .i64 kd, .int .i64 nu, .slice A l.length c] 53)) (w.heap.size + 1) 53 #[.int .i64 kd, .int .i64 nu, .slice A l.length c] := by
      have := Blk.new (w.alloc (.cells #[.slice A0 n0 c0, .slice A1 n1 c1] 25)) 53 #[.int .i64 kd, .int .i64 nu, .slice A l.length c]
      simpa using this
    have hsn : ∀ x ∈ s.syms, x.name.size ≤ 1000 := fun x hx => by have := hsh.1 x hx; omega
    have HHT := Lib.hid (fun W h h' k n v hv hok => headText_any s (.slice A0 n0 c0) (.slice A1 n1 c1) W hi h h' hsn k n v hv hok)
    have HH0 := Lib.hid (HHT.out _ (hsc.below wr0.bel hhi) (by have := wr0.bel.size; omega) kd nu (.slice A l.length c) ⟨_, _, _, rfl⟩ hh1)
    have d0 := bx0.cell 0
    have d1 := bx0.cell 1
    have d2 := bt0.cell 0
    have d3 := bt0.cell 1
    have d4 := bt0.cell 2
    have HIH := Lib.hid ih
    clear ih hsn
    go_enter Tryz.func56, Tryz.ntmps56
    go_wp2_with fail
    refine HH0.out.mono ?_
    rintro e w1 ⟨rfl, b1⟩
    have wr1 := wr0.quiet b1
    have bx1 := bx0.below b1 bx0.lt
    have bt1 := bt0.below b1 bt0.lt
    have hz1 := wr1.bel.size
    have HW1 := Lib.hid (writeString_any B b _ ⟨(headB s kd nu).toArray⟩ w1 wr1.ib (by rw [Lib.byteCells_length]; show bs.length + (headB s kd nu).length ≤ _; omega) (by omega))
    generalize headB s kd nu = hd at *
    go_wp2_with fail
    refine HW1.out.mono ?_
    rintro e w2 ⟨rfl, hw2⟩
    have wr2 := wr1.trans (Wr.of_wrote hw2 (strCells_list hd))
    have bx2 := bx1.others hw2.2.2 (by omega) (by decide)
    have bt2 := bt1.others hw2.2.2 (by omega) (by decide)
    have e4 := bt2.cell 2
    simp at e4
    have WR2 := Lib.hid wr2
    have BX2 := Lib.hid bx2
    have hz2 := wr2.bel.size
    clear d0 d1 d2 d3 d4 wr0 wr1 wr2 bx0 bx1 bx2 bt0 bt1 bt2 HW1 HH0 hw2 b1
    go_wp2_with fail
    go_loopw [16] (fun i wr => ∃ k : Nat, k ≤ l.length ∧ i = .int .i64 k ∧ Wr B b (bs ++ hd ++ T.textL s (l.take k)) w wr ∧ Blk wr w.heap.size 25 #[.slice A0 n0 c0, .slice A1 n1 c1]) (fun i _ => l.length - (intOf i).toNat)
    case atStart => exact ⟨0, Nat.zero_le _, rfl, by simpa [T.textL] using WR2.out, BX2.out⟩
    case round =>
      obtain ⟨k, hk, rfl, hwr, hbx⟩ := hrel
      have hsz := hwr.bel.size
      have hlt1 := isBuilder_lt hwr.ib
      by_cases hltk : k < l.length
      · have hx : l[k]? = some l[k] := List.getElem?_eq_getElem hltk
        obtain ⟨ad, u, rfl, hPa, hel, hix⟩ := T.In.el hrd hrow hx
        obtain ⟨r0, r1, r2⟩ := hel.keep (hwr.bel.block _ (by omega))
        have hcs := T.countL_take_succ l k _ hx
        have hct := T.countL_take_le l (k + 1)
        have hcnt : l[k].count ≤ T.countL l := by omega
        have htkl : (T.textL s (l.take k)).length + 28 * l[k].count ≤ 28 * T.countL l := by
          have := T.textL_length hsh (l.take k) (T.headsL_take l k hh2)
          omega
        have hxh := T.headsL_at hh2 hx
        have htl := T.textL_length hsh l hh2
        have hts := T.textL_take_succ s l k _ hx
        have hal := l[k].argText_length hsh hxh
        have htk : (T.textL s (l.take k)).length + (l[k].argText s).length + 1 ≤ (T.textL s l).length := by
          have h1 : (T.textL s (l.take (k + 1))).length ≤ (T.textL s l).length := by
            have := congrArg List.length (T.textL_append s (l.take (k + 1)) (l.drop (k + 1)))
            rw [List.take_append_drop, List.length_append] at this
            omega
          rw [hts] at h1
          simp at h1
          omega
        obtain ⟨A2, n2, c2, rfl⟩ := hix.form
        have hxc := l[k].count_pos
        generalize T.textL s (l.take k) = tk at *
        generalize l[k] = x at *
        have wa : Wr B b (bs ++ hd ++ tk) w (wr.alloc (.cells #[.int .i64 x.kind, .int .i64 x.num, .slice A2 n2 c2] 53)) := hwr.quiet ((Below.refl _ _).alloc (Nat.le_refl _) _)
        have ba : Blk (wr.alloc (.cells #[.int .i64 x.kind, .int .i64 x.num, .slice A2 n2 c2] 53)) wr.heap.size 53 #[.int .i64 x.kind, .int .i64 x.num, .slice A2 n2 c2] := Blk.new _ _ _
        have bxa : Blk (wr.alloc (.cells #[.int .i64 x.kind, .int .i64 x.num, .slice A2 n2 c2] 53)) w.heap.size 25 #[.slice A0 n0 c0, .slice A1 n1 c1] := hbx.alloc _
        have HC := Lib.hid (writeByte_any B b _ 32 _ wa.ib (by rw [Lib.byteCells_length]; simp only [List.length_append]; omega) (by simp; omega))
        have hlx : x.args.length = n2 := by
          obtain ⟨xk, xn, lx⟩ := x
          simp only [T.In] at hix
          obtain ⟨_, _, _, _, e1, e2, _⟩ := hix
          injection e1 with _ e3 _
          rw [e3]; exact e2
        have HTS := Lib.hid hts
        have WA := Lib.hid wa
        have BA := Lib.hid ba
        have BXA := Lib.hid bxa
        clear hx hcs hts hel wa ba bxa hwr hbx
        by_cases h0 : n2 = 0
        · have hn0 : ((n2 : Int) == 0) = true := by rw [h0]; rfl
          have HA : Hid (x.argText s = headB s x.kind x.num) := Lib.hid (by
            have : x.args = [] := List.eq_nil_of_length_eq_zero (by omega)
            simp [T.argText, this])
          clear h0 hlx
          go_wp2_with fail
          refine HC.out.mono ?_
          rintro e w3 ⟨rfl, hw3⟩
          have wr3 := WA.out.trans (Wr.of_wrote (cs := [32]) hw3 rfl)
          have ba3 := BA.out.others hw3.2.2 (by omega) (by decide)
          have bx3 := BXA.out.others hw3.2.2 (by have := BXA.out.lt; omega) (by decide)
          have f0 := ba3.cell 0
          have f1 := ba3.cell 1
          have f2 := ba3.cell 2
          have f3 := bx3.cell 0
          have f4 := bx3.cell 1
          simp at f0 f1 f2 f3 f4
          have hz3 := wr3.bel.size
          have HH3 := Lib.hid (HHT.out w3 (hsc.below wr3.bel hhi) (by omega) x.kind x.num (.slice A2 n2 c2) ⟨_, _, _, rfl⟩ (T.heads_head hxh).1)
          go_wp2_with fail
          refine HH3.out.mono ?_
          rintro e w4 ⟨rfl, b4⟩
          have wr4 := wr3.quiet b4
          have bx4 := bx3.below b4 bx3.lt
          have hz4 := wr4.bel.size
          rw [← HA.out]
          have HW4 := Lib.hid (writeString_any B b _ ⟨(x.argText s).toArray⟩ w4 wr4.ib (by rw [Lib.byteCells_length]; show (bs ++ hd ++ tk ++ [32]).length + (x.argText s).length ≤ _; simp only [List.length_append, List.length_cons, List.length_nil]; omega) (by omega))
          generalize x.argText s = xt at *
          go_wp2_with fail
          refine HW4.out.mono ?_
          rintro e w5 ⟨rfl, hw5⟩
          have wr5 := wr4.trans (Wr.of_wrote hw5 (strCells_list xt))
          have bx5 := bx4.others hw5.2.2 (by have := BXA.out.lt; omega) (by decide)
          go_wp2_with fail
          go_roundw
          case rel =>
            refine ⟨k + 1, by omega, by go_num, ?_, bx5⟩
            rw [HTS.out]
            have e : bs ++ hd ++ (tk ++ 32 :: xt) = bs ++ hd ++ tk ++ [32] ++ xt := by simp
            rw [e]; exact wr5
          case measure => simp [intOf]; omega
        · have hn0 : ((n2 : Int) == 0) = false := by rw [beq_eq_false_iff_ne]; omega
          have HA : Hid (x.argText s = 40 :: (x.text s ++ [41])) := Lib.hid (by
            have : x.args ≠ [] := fun e => by rw [e] at hlx; simp at hlx; omega
            simp [T.argText, this])
          have hxtl : (x.argText s).length = (x.text s).length + 2 := by rw [HA.out]; simp
          have hxt28 := T.text_length hsh x hxh
          have hxcK : x.count ≤ K := by omega
          clear h0 hlx
          go_wp2_with fail
          refine HC.out.mono ?_
          rintro e w3 ⟨rfl, hw3⟩
          have wr3 := WA.out.trans (Wr.of_wrote (cs := [32]) hw3 rfl)
          have ba3 := BA.out.others hw3.2.2 (by omega) (by decide)
          have bx3 := BXA.out.others hw3.2.2 (by have := BXA.out.lt; omega) (by decide)
          have f2 := ba3.cell 2
          simp at f2
          have hz3 := wr3.bel.size
          have HC3 := Lib.hid (writeByte_any B b _ 40 w3 wr3.ib (by rw [Lib.byteCells_length]; simp only [List.length_append, List.length_cons, List.length_nil]; omega) (by omega))
          go_wp2_with fail
          refine HC3.out.mono ?_
          rintro e w4 ⟨rfl, hw4⟩
          have wr4 := wr3.trans (Wr.of_wrote (cs := [40]) hw4 rfl)
          have ba4 := ba3.others hw4.2.2 (by omega) (by decide)
          have bx4 := bx3.others hw4.2.2 (by have := BXA.out.lt; omega) (by decide)
          clear f2
          have f0 := ba4.cell 0
          have f1 := ba4.cell 1
          have f2 := ba4.cell 2
          have f3 := bx4.cell 0
          have f4 := bx4.cell 1
          simp at f0 f1 f2 f3 f4
          have hz4 := wr4.bel.size
          have HR := Lib.hid (HIH.out x _ (bs ++ hd ++ tk ++ [32] ++ [40]) B b w4 hxcK (by simp only [List.length_append, List.length_cons, List.length_nil]; omega) (hsc.below wr4.bel hhi) (hix.below wr4.bel (fun b hb => by omega)) hhi hxh wr4.ib)
          generalize x.text s = xt at *
          go_wp2_with fail
          refine HR.out.mono ?_
          rintro e w5 ⟨rfl, hw5⟩
          have wr5 := wr4.trans hw5
          have bx5 := bx4.others hw5.oth (by have := BXA.out.lt; omega) (by decide)
          have hz5 := wr5.bel.size
          have HC5 := Lib.hid (writeByte_any B b _ 41 w5 wr5.ib (by rw [Lib.byteCells_length]; simp only [List.length_append, List.length_cons, List.length_nil]; omega) (by omega))
          go_wp2_with fail
          refine HC5.out.mono ?_
          rintro e w6 ⟨rfl, hw6⟩
          have wr6 := wr5.trans (Wr.of_wrote (cs := [41]) hw6 rfl)
          have bx6 := bx5.others hw6.2.2 (by have := BXA.out.lt; omega) (by decide)
          go_wp2_with fail
          go_roundw
          case rel =>
            refine ⟨k + 1, by omega, by go_num, ?_, bx6⟩
            rw [HTS.out, HA.out]
            have e : bs ++ hd ++ (tk ++ 32 :: 40 :: (xt ++ [41])) = bs ++ hd ++ tk ++ [32] ++ [40] ++ xt ++ [41] := by simp
            rw [e]; exact wr6
          case measure => simp [intOf]; omega
      · have h1 : l.take k = l := List.take_of_length_le (by omega)
        rw [h1] at hwr
        clear h1
        go_wp2_with fail
        go_end0
        refine ⟨rfl, ?_⟩
        rw [HTX.out, ← List.append_assoc]
        exact hwr
end Go.Proofs.YtkkfdiidneoelaaGreatDoor

namespace Go.Proofs.YtkkfdiidneoelaaGreatDoor
open Go.RowKit

/-- The term may be a body in the place. -/
def bodyB (p : Pl) (t : T) : Bool := decide (t.count ≤ 400) && (decide (t.deep ≤ 30) && (decide (p.sortE t = 0) && (p.sortS t).args.isEmpty))
/-- A place and a term in their boxes, kept. -/
structure PtKept (p : Pl) (v0 v1 v2 : Value) (t : T) (v : Value) (hi B : Nat) (w0 w : World) : Prop where
  bP : Blk w B 121 #[v0, v1, v2]
  bT : Blk w (B + 1) 53 #[.int .i64 t.kind, .int .i64 t.num, v]
  iP : PlIn w 0 hi p v0 v1 v2
  iT : t.In w (fun b => b < hi) v
  hB : hi ≤ B
  bel : Below B w0 w
theorem PtKept.next {p : Pl} {v0 v1 v2 : Value} {t : T} {v : Value} {hi B : Nat} {w0 w w' : World} (h : PtKept p v0 v1 v2 t v hi B w0 w) (hb : Below w.heap.size w w') : PtKept p v0 v1 v2 t v hi B w0 w' := by
  have h1 := h.bP.lt
  have h2 := h.hB
  exact ⟨h.bP.below hb h1, h.bT.below hb h.bT.lt, h.iP.below hb (by omega), h.iT.below hb (fun b hb' => by omega), h2, h.bel.trans (hb.mono (by omega))⟩
theorem PtKept.start {p : Pl} {v0 v1 v2 : Value} {t : T} {v : Value} {hi : Nat} {w : World} (hp : PlIn w 0 hi p v0 v1 v2) (hhi : hi ≤ w.heap.size) (hin : t.In w (fun b => b < hi) v) :
    PtKept p v0 v1 v2 t v hi w.heap.size w ((w.alloc (.cells #[v0, v1, v2] 121)).alloc (.cells #[.int .i64 t.kind, .int .i64 t.num, v] 53)) := by
  have hw3 : Below w.heap.size w ((w.alloc (.cells #[v0, v1, v2] 121)).alloc (.cells #[.int .i64 t.kind, .int .i64 t.num, v] 53)) := ((Below.refl _ _).alloc (Nat.le_refl _) _).alloc (by simp) _
  refine ⟨(Blk.new _ _ _).alloc _, ?_, hp.below hw3 hhi, hin.below hw3 (fun b hb => by omega), hhi, hw3⟩
  simpa using Blk.new (w.alloc (.cells #[v0, v1, v2] 121)) 53 #[.int .i64 t.kind, .int .i64 t.num, v]
theorem sizes_small {t : T} (h : t.count ≤ 400) : t.sizes = (t.count, t.deep) := by simp [T.sizes]; omega
theorem sizes_big {t : T} (h : ¬ t.count ≤ 400) : 400 < t.sizes.1 := by
  unfold T.sizes
  split <;> simp <;> omega

set_option maxRecDepth 100000 in
set_option maxHeartbeats 1600000 in
theorem isBody_any (p : Pl) (v0 v1 v2 : Value) (t : T) (v : Value) (w : World) (hi : Nat) (hp : PlIn w 0 hi p v0 v1 v2) (hhi : hi ≤ w.heap.size) (hin : t.In w (fun b => b < hi) v) :
    Calls Tryz.prog 63 #[.agg #[v0, v1, v2], .agg #[.int .i64 t.kind, .int .i64 t.num, v]] w fun e w' => e = .returned (.bool (bodyB p t)) ∧ Below w.heap.size w w' := by
  have k0 := PtKept.start hp hhi hin
  obtain ⟨A0, n0, c0, rfl⟩ := hp.s.form
  obtain ⟨A1, n1, c1, rfl⟩ := hp.f.form
  obtain ⟨A2, n2, c2, rfl⟩ := hp.r.form
  obtain ⟨A3, n3, c3, rfl⟩ := hin.form
  have HS := Lib.hid (fun W h => sizeT_any t (.slice A3 n3 c3) W (fun b => b < hi) h)
  have HT := Lib.hid (fun W h h' h'' => termSort_any p (.slice A0 n0 c0) (.slice A1 n1 c1) (.slice A2 n2 c2) t (.slice A3 n3 c3) W hi (fun b => b < hi) h h' h'')
  have dT0 := k0.bT.cell 0
  have dT1 := k0.bT.cell 1
  have dT2 := k0.bT.cell 2
  have HS0 := Lib.hid (HS.out _ k0.iT (fun b hb => by have := k0.bP.lt; have := k0.hB; omega))
  by_cases h4 : t.count ≤ 400
  · rw [sizes_small h4] at HS0
    by_cases h3 : t.deep ≤ 30
    · have g4 : decide (400 < (t.count : Int)) = false := decide_eq_false (by omega)
      have g3 : decide (30 < (t.deep : Int)) = false := decide_eq_false (by omega)
      have HF : Hid (bodyB p t = (decide (p.sortE t = 0) && (p.sortS t).args.isEmpty)) := Lib.hid (by simp [bodyB, h4, h3])
      clear h4 h3
      go_enter Tryz.func63, Tryz.ntmps63
      go_wp2_with fail
      refine HS0.out.mono ?_
      rintro e w1 ⟨rfl, b1⟩
      have k1 := k0.next b1
      have dT0 := k1.bT.cell 0
      have dT1 := k1.bT.cell 1
      have dT2 := k1.bT.cell 2
      have dP0 := k1.bP.cell 0
      have dP1 := k1.bP.cell 1
      have dP2 := k1.bP.cell 2
      have hlt := k1.bT.lt
      have HT1 := Lib.hid (HT.out w1 k1.iP (by have := k1.hB; omega) k1.iT (fun b hb => by have := k1.hB; omega))
      clear k0 b1
      unfold GaveS at HT1
      generalize p.sortE t = E at *
      generalize p.sortS t = s at *
      go_wp2_with fail
      refine HT1.out.mono ?_
      rintro e w2 ⟨u, rfl, hu, b2⟩
      obtain ⟨A5, n5, c5, rfl⟩ := hu.form
      have bb := Below.refl w2.heap.size w2
      have hnew := bb.alloc (Nat.le_refl _) (.cells #[.slice A5 n5 c5] 50)
      have hu1 := hu.below hnew (Nat.le_refl _)
      have bS := (Blk.new w2 50 #[.slice A5 n5 c5]).cell 0
      have z2 := b2.size
      have HI := Lib.hid (isTree_any s _ _ _ _ hu1)
      have bel2 := (k1.bel.trans (b2.mono (by omega))).trans (hnew.mono (by omega))
      by_cases hE : E = 0
      · subst hE
        go_wp2_with fail
        refine HI.out.mono ?_
        rintro e w3 ⟨rfl, b3⟩
        simp only [World.size_alloc] at b3
        go_wp2_with fail
        go_ret
        exact ⟨ret_bool (by rw [HF.out]; simp), bel2.trans (b3.mono (by omega))⟩
      · have hEb : (E == 0) = false := by simpa using hE
        go_wp2_with fail
        go_ret
        exact ⟨ret_bool (by rw [HF.out]; simp [hE]), bel2⟩
    · have g4 : decide (400 < (t.count : Int)) = false := decide_eq_false (by omega)
      have g3 : decide (30 < (t.deep : Int)) = true := decide_eq_true (by omega)
      have HF : Hid (bodyB p t = false) := Lib.hid (by simp [bodyB, h3])
      clear h4 h3
      go_enter Tryz.func63, Tryz.ntmps63
      go_wp2_with fail
      refine HS0.out.mono ?_
      rintro e w1 ⟨rfl, b1⟩
      have k1 := k0.next b1
      go_wp2_with fail
      go_ret
      exact ⟨ret_bool HF.out.symm, k1.bel⟩
  · have g4 : decide (400 < (t.sizes.1 : Int)) = true := decide_eq_true (by have := sizes_big h4; omega)
    have HF : Hid (bodyB p t = false) := Lib.hid (by simp [bodyB, h4])
    clear h4
    generalize t.sizes = z at *
    go_enter Tryz.func63, Tryz.ntmps63
    go_wp2_with fail
    refine HS0.out.mono ?_
    rintro e w1 ⟨rfl, b1⟩
    have k1 := k0.next b1
    go_wp2_with fail
    go_ret
    exact ⟨ret_bool HF.out.symm, k1.bel⟩
end Go.Proofs.YtkkfdiidneoelaaGreatDoor

namespace Go.Proofs.YtkkfdiidneoelaaGreatDoor
open Go.RowKit

/-- The place of the body of a function. -/
def Sc.pl (s : Sc) (f : Fn) : Pl := ⟨s.syms, s.sorts, f.sort.args⟩
def Sc.fits (s : Sc) (f : Fn) : Bool := bodyB (s.pl f) f.body
def Sc.start (s : Sc) : Bool := match s.funs with | [] => false | f :: _ => f.sort.args.isEmpty
/-- The scheme is valid. -/
def Sc.ok (s : Sc) : Bool := decide (1 ≤ s.funs.length) && (decide (s.funs.length ≤ 64) && (diffFrom [] (s.funs.map fnm) && (s.start && s.funs.all s.fits)))
def schErr (b : Bool) : Int := if b then 0 else 7
theorem FnEl.zero {w : World} {ad : Addr} {f : Fn} {u v : Value} (h : FnEl w ad 0 f u v) : w.cell? ⟨ad.block, ad.off + 1, none⟩ = some u := by
  have := h.c1
  simpa [Addr.add] using this
theorem fits_succ {s : Sc} {k : Nat} {x : Fn} (hx : s.funs[k]? = some x) (h : (s.funs.take k).all s.fits = true) (h1 : s.fits x = true) : (s.funs.take (k + 1)).all s.fits = true := by
  rw [List.take_add_one, hx, List.all_append, h]; simp [h1]
theorem fits_false {s : Sc} {k : Nat} {x : Fn} (hx : s.funs[k]? = some x) (h : s.fits x = false) : s.funs.all s.fits = false := by
  rw [Bool.eq_false_iff]
  intro hh
  rw [List.all_eq_true] at hh
  have := hh x (List.mem_of_getElem? hx)
  rw [h] at this; cases this

set_option maxRecDepth 100000 in
set_option maxHeartbeats 3200000 in
theorem schemeCheck_any (s : Sc) (v0 v1 : Value) (w : World) (hi : Nat) (hin : ScIn w hi s v0 v1) (hhi : hi ≤ w.heap.size) :
    Calls Tryz.prog 23 #[.agg #[v0, v1]] w fun e w' => e = .returned (.int .i64 (schErr s.ok)) ∧ Below w.heap.size w w' := by
  have k0 := ScKept.start hin hhi
  obtain ⟨⟨A0, n0, c0, rfl⟩, _⟩ := hin.form
  have HD := Lib.hid (fun W h => diffFn_any s.funs v1 W hi h)
  have HFS := Lib.hid (fun W h => funSorts_any s (.slice A0 n0 c0) v1 W hi h)
  obtain ⟨A, _, c, us0, rfl, rfl, hnc, hc, hrd, hrow⟩ := hin.fn
  have d0 := k0.b.cell 0
  have d1 := k0.b.cell 1
  have hz0 := k0.b.lt
  by_cases h1 : s.funs.length = 0
  · have HF : Hid (schErr s.ok = 7) := Lib.hid (by simp [Sc.ok, h1, schErr])
    have g1 : ((s.funs.length : Int) == 0) = true := by simp [h1]
    clear h1 hrd hrow
    go_enter Tryz.func23, Tryz.ntmps23
    go_wp2_with fail
    go_ret
    exact ⟨ret_int HF.out.symm, k0.bel⟩
  have g1 : ((s.funs.length : Int) == 0) = false := by simpa using h1
  by_cases h64 : s.funs.length ≤ 64
  case neg =>
    have HF : Hid (schErr s.ok = 7) := Lib.hid (by simp [Sc.ok, h64, schErr])
    have g2 : decide (64 < (s.funs.length : Int)) = true := decide_eq_true (by omega)
    clear h1 h64 hrd hrow
    go_enter Tryz.func23, Tryz.ntmps23
    go_wp2_with fail
    go_ret
    exact ⟨ret_int HF.out.symm, k0.bel⟩
  have g2 : decide (64 < (s.funs.length : Int)) = false := decide_eq_false (by omega)
  have HD0 := Lib.hid (HD.out _ k0.i.fn (by omega))
  cases hdf : diffFrom [] (s.funs.map fnm) with
  | false =>
    have HF : Hid (schErr s.ok = 7) := Lib.hid (by simp [Sc.ok, hdf, schErr])
    rw [hdf] at HD0
    clear h1 h64 hrd hrow hdf
    go_enter Tryz.func23, Tryz.ntmps23
    go_wp2_with fail
    refine HD0.out.mono ?_
    rintro e w1 ⟨rfl, b1⟩
    have k1 := k0.next b1
    go_wp2_with fail
    go_ret
    exact ⟨ret_int HF.out.symm, k1.bel⟩
  | true =>
    rw [hdf] at HD0
    obtain ⟨f0, r0, hfs⟩ : ∃ f r, s.funs = f :: r := by
      cases hh : s.funs with
      | nil => rw [hh] at h1; simp at h1
      | cons f r => exact ⟨f, r, rfl⟩
    have hx0 : s.funs[0]? = some f0 := by rw [hfs]; rfl
    have hst : s.start = f0.sort.args.isEmpty := by unfold Sc.start; rw [hfs]
    obtain ⟨ad, u0, b0, rfl, hPa, hel0, hsu0, hbv0, _⟩ := fn_el hrd hrow hx0
    have hll : 0 < s.funs.length := by omega
    cases hs0 : f0.sort.args.isEmpty with
    | false =>
      have HF : Hid (schErr s.ok = 7) := Lib.hid (by simp [Sc.ok, hst, hs0, schErr])
      have HI := Lib.hid (fun W => isTree_any f0.sort u0 W 0 hi)
      rw [hs0] at HI
      clear h1 h64 hdf hfs hst hs0 hx0
      go_enter Tryz.func23, Tryz.ntmps23
      go_wp2_with fail
      refine HD0.out.mono ?_
      rintro e w1 ⟨rfl, b1⟩
      have k1 := k0.next b1
      have e0 := k1.b.cell 0
      have e1 := k1.b.cell 1
      have hb1 := k1.bel
      have q1 := (hel0.keep (hb1.block _ (by omega))).zero
      have hsu1 := hsu0.below hb1 (by omega)
      obtain ⟨A1, n1, c1, rfl⟩ := hsu0.form
      have hz1 := hb1.size
      go_wp2_with fail
      refine (HI.out w1 hsu1).mono ?_
      rintro e w2 ⟨rfl, b2⟩
      have k2 := k1.next b2
      go_wp2_with fail
      go_ret
      exact ⟨ret_int HF.out.symm, k2.bel⟩
    | true =>
      have HF : Hid (schErr s.ok = schErr (s.funs.all s.fits)) := Lib.hid (by
        have : 1 ≤ s.funs.length := by omega
        simp [Sc.ok, hst, hs0, hdf, h64, this])
      have HI := Lib.hid (fun W => isTree_any f0.sort u0 W 0 hi)
      rw [hs0] at HI
      clear h1 hdf hfs hst hs0 hx0
      go_enter Tryz.func23, Tryz.ntmps23
      go_wp2_with fail
      refine HD0.out.mono ?_
      rintro e w1 ⟨rfl, b1⟩
      have k1 := k0.next b1
      have e0 := k1.b.cell 0
      have e1 := k1.b.cell 1
      have hb1 := k1.bel
      have q1 := (hel0.keep (hb1.block _ (by omega))).zero
      have hsu1 := hsu0.below hb1 (by omega)
      obtain ⟨A1, n1, c1, rfl⟩ := hsu0.form
      have hz1 := hb1.size
      go_wp2_with fail
      refine (HI.out w1 hsu1).mono ?_
      rintro e w2 ⟨rfl, b2⟩
      have k2 := k1.next b2
      clear k1 b1 b2 HD0 HD HI e0 e1 q1 hsu1 d0 d1 hel0 hsu0 hbv0 hb1 hz1
      have z2 := k2.bel.size
      have l2 := k2.b.lt
      go_upto_region 31 with fail
      have HK : Hid (∀ W, Below w2.heap.size w2 W → Calls Tryz.prog 62 #[.agg #[.slice A0 n0 c0, .slice (some ad) s.funs.length c]] W fun e w' => ∃ A3 c3 us, e = .returned (.slice A3 s.sorts.length c3) ∧ SRow w2.heap.size hi w' s.sorts (.slice A3 s.sorts.length c3) us ∧ (∀ b, (Value.slice A3 s.sorts.length c3).ownBlock = some b → W.heap.size ≤ b) ∧
          Below W.heap.size W w' ∧ Below w2.heap.size w2 w' ∧ w'.cell? ⟨w.heap.size, 0, none⟩ = some (.slice A0 n0 c0) ∧ w'.cell? ⟨w.heap.size, 1, none⟩ = some (.slice (some ad) s.funs.length c)) :=
        Lib.hid (fun W hW => (HFS.out W (k2.next hW).i (by have := hW.size; omega) (by omega)).mono fun e w' ⟨v, us, h1, h2, h3⟩ => by
          obtain ⟨A3, c3, rfl⟩ := h2.form
          have hb := (k2.next (hW.trans (h3.mono hW.size))).b
          refine ⟨A3, c3, us, h1, ⟨?_, h2.el⟩, fun b hb => (World.ownsRow.lt h2.own b hb).1, h3, hW.trans (h3.mono hW.size), hb.cell 0, hb.cell 1⟩
          exact ⟨h2.own.1, h2.own.2.imp id fun ⟨g, cap, cur, a1, a2, a3⟩ => ⟨g, cap, cur, a1, Nat.le_trans hW.size a2, a3⟩⟩)
      have p0 := k2.b.cell 0
      have p1 := k2.b.cell 1
      simp at p0 p1
      go_cut [3] from 31 (fun s3 wx => ∃ B vs us, s3 = .pointer (some ⟨B, 0, none⟩) ∧ Blk wx B 121 #[.slice A0 n0 c0, vs, .slice none 0 0] ∧ SRow w2.heap.size hi wx s.sorts vs us ∧ vs.ownBlock ≠ some B ∧ w2.heap.size ≤ B ∧ Below w2.heap.size w2 wx)
      case first =>
        go_region_held3 (fun w' => w'.cell? ⟨w.heap.size, 0, none⟩ = some (.slice A0 n0 c0) ∧ w'.cell? ⟨w.heap.size, 1, none⟩ = some (.slice (some ad) s.funs.length c)) (first | go_keep | assumption)
          (first
            | (go_at_call 62
               refine (HK.out w2.drew ((Below.refl _ _).drew)).mono ?_
               rintro e w3 ⟨A3, c3, us, rfl, hr, ho, b3, b4, e0, e1⟩
               have hBk : True := trivial
               have Q : w3.cell? ⟨w.heap.size, 0, none⟩ = some (.slice A0 n0 c0) ∧ w3.cell? ⟨w.heap.size, 1, none⟩ = some (.slice (some ad) s.funs.length c) := ⟨e0, e1⟩)
            | (go_at_call 62
               refine (HK.out (w2.alloc (.cells #[.slice none 0 0, .slice none 0 0, .slice none 0 0] 121)).drew (((Below.refl _ _).alloc (Nat.le_refl _) _).drew)).mono ?_
               rintro e w3 ⟨A3, c3, us, rfl, hr, ho, b3, b4, e0, e1⟩
               have hBk : Blk w3 w2.heap.size 121 #[.slice none 0 0, .slice none 0 0, .slice none 0 0] := ((Blk.new w2 _ _).drew).below b3 (by simp [World.drew])
               have x0 := hBk.cell 0
               have x1 := hBk.cell 1
               have x2 := hBk.cell 2
               have y0 := hBk.frozen 0
               have y1 := hBk.frozen 1
               have y2 := hBk.frozen 2
               simp at x0 x1 x2
               have hb5 : Below w2.heap.size w3 (((w3.setCell ⟨w2.heap.size, 0, none⟩ (.slice A0 n0 c0)).setCell ⟨w2.heap.size, 1, none⟩ (.slice A3 s.sorts.length c3)).setCell ⟨w2.heap.size, 2, none⟩ (.slice none 0 0)) := (((Below.refl w2.heap.size w3).setCell (p := ⟨w2.heap.size, 0, none⟩) (Nat.le_refl _) _).setCell (p := ⟨w2.heap.size, 1, none⟩) (Nat.le_refl _) _).setCell (p := ⟨w2.heap.size, 2, none⟩) (Nat.le_refl _) _
               have Q5 := And.intro ((hb5.cell (p := ⟨w.heap.size, 0, none⟩) l2).trans e0) ((hb5.cell (p := ⟨w.heap.size, 1, none⟩) l2).trans e1)
               have Q : w3.cell? ⟨w.heap.size, 0, none⟩ = some (.slice A0 n0 c0) ∧ w3.cell? ⟨w.heap.size, 1, none⟩ = some (.slice (some ad) s.funs.length c) := ⟨e0, e1⟩))
        · go_wp2_with fail
          go_meet
          have z3 := b3.size
          refine ⟨w3.heap.size, _, us, rfl, Blk.new _ _ _, hr.far (fun b hb => Below.heap_alloc _ _ _ (World.ownsRow.lt hr.own b hb).2) (fun b hb => Below.heap_alloc _ _ _ (by have := b4.size; omega)), fun e => ?_, b4.size, b4.alloc b4.size _⟩
          have := (World.ownsRow.lt hr.own _ e).2
          omega
        · go_wp2_with fail
          go_meet
          have hne : ∀ b, (Value.slice A3 s.sorts.length c3).ownBlock = some b → b ≠ w2.heap.size := fun b hb e => by
            have := ho b hb
            simp [World.drew] at this
            omega
          refine ⟨w2.heap.size, _, us, rfl, (((hBk.set_ 0 _).set_ 1 _).set_ 2 _).eq_ rfl, hr.far (fun b hb => ?_) (fun b hb => hb5.block b (by omega)), fun e => hne _ e rfl, Nat.le_refl _, b4.trans hb5⟩
          have := hne b hb
          rw [Below.heap_setCell _ _ _ _ this, Below.heap_setCell _ _ _ _ this, Below.heap_setCell _ _ _ _ this]
      case rest =>
        obtain ⟨B, vs, us, rfl, hB, hr, hne, hBge, b3⟩ := hcut
        have k3 := k2.next b3
        obtain ⟨A3, c3, rfl⟩ := hr.form
        have e1 := k3.b.cell 1
        have e0 := k3.b.cell 0
        simp at e0 e1
        have K3 := Lib.hid k3
        have HB := Lib.hid hB
        have HR := Lib.hid hr
        have HNE := Lib.hid hne
        clear k2 HK p0 p1 b3 k0 HFS k3 hB hr hne
        go_wp2_with fail
        go_loopw [39] (fun i wr => ∃ (k : Nat) (pv : Value), k ≤ s.funs.length ∧ i = .int .i64 k ∧ Hid ((s.funs.take k).all s.fits = true) ∧ Blk wr B 121 #[.slice A0 n0 c0, .slice A3 s.sorts.length c3, pv] ∧ SRow w2.heap.size hi wr s.sorts (.slice A3 s.sorts.length c3) us ∧ ScKept s (.slice A0 n0 c0) (.slice (some ad) s.funs.length c) hi w.heap.size w wr) (fun i _ => s.funs.length - (intOf i).toNat)
        case atStart => exact ⟨0, _, Nat.zero_le _, rfl, Lib.hid (by simp), HB.out, HR.out, K3.out⟩
        case round =>
          obtain ⟨k, pv, hk, rfl, hf, hBr, hrr, kr⟩ := hrel
          have hzr := kr.bel.size
          have hlr := kr.b.lt
          by_cases hlt : k < s.funs.length
          · have hx : s.funs[k]? = some s.funs[k] := List.getElem?_eq_getElem hlt
            obtain ⟨ad', u, v, hAd, hPa2, hel, hsu, hbv, hsx⟩ := fn_el hrd hrow hx
            have hAd := Option.some.inj hAd
            subst hAd
            obtain ⟨r0, r1, r2, r3, r4⟩ := hel.keep (kr.bel.block _ (by omega))
            have hsu' := hsu.below kr.bel hhi
            have hbv' := hbv.below kr.bel (fun b hb => by omega)
            obtain ⟨A4, n4, c4, rfl⟩ := hsu.form
            obtain ⟨A5, n5, c5, rfl⟩ := hbv.form
            have hsucc := fits_succ hx hf.out
            have hfin := @fits_false s k s.funs[k] hx
            generalize s.funs[k] = x at *
            obtain ⟨name, sort, body⟩ := x
            simp only at r0 r1 r2 r3 r4 hsx hsu hsu' hbv hbv' hsucc hfin
            have bx : Below B wr (wr.setCell ⟨B, 2, none⟩ (.slice A4 n4 c4)) := (Below.refl B wr).setCell (p := ⟨B, 2, none⟩) (Nat.le_refl _) _
            have bz : Below B wr ((wr.setCell ⟨B, 2, none⟩ (.slice A4 n4 c4)).alloc (.cells #[.string name, .slice A4 n4 c4, .int .i64 body.kind, .int .i64 body.num, .slice A5 n5 c5] 55)) := bx.alloc (by have := hBr.lt; simp [World.setCell]; omega) _
            have hBz : Blk ((wr.setCell ⟨B, 2, none⟩ (.slice A4 n4 c4)).alloc (.cells #[.string name, .slice A4 n4 c4, .int .i64 body.kind, .int .i64 body.num, .slice A5 n5 c5] 55)) B 121 #[.slice A0 n0 c0, .slice A3 s.sorts.length c3, .slice A4 n4 c4] := ((hBr.set_ 2 _).alloc _).eq_ rfl
            have hrz : SRow w2.heap.size hi ((wr.setCell ⟨B, 2, none⟩ (.slice A4 n4 c4)).alloc (.cells #[.string name, .slice A4 n4 c4, .int .i64 body.kind, .int .i64 body.num, .slice A5 n5 c5] 55)) s.sorts (.slice A3 s.sorts.length c3) us :=
              hrr.far (fun b hb => by
                have h1 := (World.ownsRow.lt hrr.own b hb).2
                have h2 : b ≠ B := fun e => HNE.out (by rw [hb, e])
                rw [Below.heap_alloc _ _ _ (by simpa [World.setCell] using h1), Below.heap_setCell _ _ _ _ h2]) (fun b hb => bz.block b (by omega))
            have kz : ScKept s (.slice A0 n0 c0) (.slice (some ad) s.funs.length c) hi w.heap.size w ((wr.setCell ⟨B, 2, none⟩ (.slice A4 n4 c4)).alloc (.cells #[.string name, .slice A4 n4 c4, .int .i64 body.kind, .int .i64 body.num, .slice A5 n5 c5] 55)) :=
              ⟨kr.b.below bz (by omega), kr.i.below bz (by omega), hhi, kr.bel.trans (bz.mono (by omega))⟩
            have hzz := bz.size
            have hip : PlIn ((wr.setCell ⟨B, 2, none⟩ (.slice A4 n4 c4)).alloc (.cells #[.string name, .slice A4 n4 c4, .int .i64 body.kind, .int .i64 body.num, .slice A5 n5 c5] 55)) 0 ((wr.setCell ⟨B, 2, none⟩ (.slice A4 n4 c4)).alloc (.cells #[.string name, .slice A4 n4 c4, .int .i64 body.kind, .int .i64 body.num, .slice A5 n5 c5] 55)).heap.size ⟨s.syms, s.sorts, sort.args⟩ (.slice A0 n0 c0) (.slice A3 s.sorts.length c3) (.slice A4 n4 c4) := by
              refine ⟨kz.i.sy.more (by omega), hrz.in_ (by omega), ?_⟩
              have := (hsu'.below bz (by omega)).more (Nat.le_refl _) (Nat.le_trans hhi (Nat.le_trans hzr hzz))
              rwa [← S.eta sort] at this
            have hib := (hbv'.below bz (fun b hb => by omega)).more (fun b (hb : b < hi) => show b < ((wr.setCell ⟨B, 2, none⟩ (.slice A4 n4 c4)).alloc (.cells #[.string name, .slice A4 n4 c4, .int .i64 body.kind, .int .i64 body.num, .slice A5 n5 c5] 55)).heap.size by omega)
            have HI := Lib.hid (isBody_any ⟨s.syms, s.sorts, sort.args⟩ _ _ _ body _ _ _ hip (Nat.le_refl _) hib)
            have m0 := hBr.cell 0
            have m1 := hBr.cell 1
            have m2 := hBr.cell 2
            have o2 := hBr.frozen 2
            simp at m0 m1 m2
            have hlB := hBr.lt
            have KZ := Lib.hid kz
            have HBZ := Lib.hid hBz
            have HRZ := Lib.hid hrz
            cases hok : bodyB ⟨s.syms, s.sorts, sort.args⟩ body with
            | true =>
              have HS := Lib.hid (hsucc hok)
              rw [hok] at HI
              clear hx hel hsu hsu' hbv hbv' hsucc hfin hok bx bz hBz hrz kz hip hib hrr kr hBr
              go_wp2_with fail
              refine HI.out.mono ?_
              rintro e w4 ⟨rfl, b4⟩
              go_wp2_with fail
              go_roundw
              case rel => exact ⟨k + 1, _, by omega, by go_num, HS, HBZ.out.below b4 HBZ.out.lt, HRZ.out.next (by omega) b4, KZ.out.next b4⟩
              case measure => simp [intOf]; omega
            | false =>
              have HS := Lib.hid (hfin hok)
              rw [hok] at HI
              clear hx hel hsu hsu' hbv hbv' hsucc hfin hok bx bz hBz hrz kz hip hib hrr kr hBr
              go_wp2_with fail
              refine HI.out.mono ?_
              rintro e w4 ⟨rfl, b4⟩
              go_wp2_with fail
              go_ret
              exact ⟨ret_int (by rw [HF.out, HS.out]; rfl), (KZ.out.next b4).bel⟩
          · have hll2 : s.funs.take k = s.funs := List.take_of_length_le (by omega)
            rw [hll2] at hf
            clear hll2
            go_wp2_with fail
            go_ret
            exact ⟨ret_int (by rw [HF.out, hf.out]; rfl), kr.bel⟩
end Go.Proofs.YtkkfdiidneoelaaGreatDoor

namespace Go.Proofs.YtkkfdiidneoelaaGreatDoor
open Go.RowKit

theorem pick_head {p : Pl} {k n : Int} {s : S} (hl : p.params.length ≤ 8) (h : p.pick k n = some s) : headOk 8 p.funs.length p.syms.length k n = true := by
  simp only [Pl.pick, pickH] at h
  split at h
  · cases h
  rename_i hn
  simp only [headOk, Bool.and_eq_true, Bool.or_eq_true, decide_eq_true_eq]
  refine ⟨by omega, ?_⟩
  split at h
  · rename_i hk
    have := (List.getElem?_eq_some_iff.1 h).1
    exact .inl ⟨hk, by omega⟩
  split at h
  · rename_i hk
    have := (List.getElem?_eq_some_iff.1 h).1
    exact .inr (.inl ⟨hk, by omega⟩)
  split at h
  · rename_i hk
    have := (List.getElem?_eq_some_iff.1 h).1
    rw [List.length_map] at this
    exact .inr (.inr ⟨hk, by omega⟩)
  · cases h
mutual
theorem T.ty_heads {p : Pl} (hl : p.params.length ≤ 8) : ∀ (t : T) {s : S}, t.ty p.pick = some s → t.heads 8 p.funs.length p.syms.length = true
  | .mk k n l, s, h => by
    simp only [T.ty] at h
    cases hk : p.pick k n with
    | none => rw [hk] at h; cases h
    | some a =>
      rw [hk] at h
      simp only at h
      split at h
      · rename_i hL
        simp only [T.heads, Bool.and_eq_true]
        exact ⟨pick_head hl hk, T.tyL_heads hl l hL⟩
      · cases h
theorem T.tyL_heads {p : Pl} (hl : p.params.length ≤ 8) : ∀ (l : List T) {q : List S}, T.tyL p.pick l q = true → T.headsL 8 p.funs.length p.syms.length l = true
  | [], q, _ => by simp [T.headsL]
  | x :: r, [], h => by simp [T.tyL] at h
  | x :: r, b :: q, h => by
    simp only [T.tyL, Bool.and_eq_true] at h
    simp only [T.headsL, Bool.and_eq_true]
    refine ⟨?_, T.tyL_heads hl r h.2⟩
    cases hx : x.ty p.pick with
    | none => rw [hx] at h; exact absurd h.1 (by simp)
    | some y => exact T.ty_heads hl x hx
end
theorem body_ty {p : Pl} {t : T} (h : bodyB p t = true) : p.ok = true ∧ t.count ≤ 400 ∧ t.deep ≤ 30 ∧ t.ty p.pick = some (.mk []) := by
  simp only [bodyB, Bool.and_eq_true, decide_eq_true_eq] at h
  obtain ⟨h1, h2, h3, h4⟩ := h
  have h5 := h3
  simp only [Pl.sortE] at h3
  split at h3
  · rename_i hok
    split at h3
    · cases h3
    · split at h3
      · rename_i hs
        refine ⟨hok, h1, h2, ?_⟩
        rw [Option.isSome_iff_exists] at hs
        obtain ⟨s, hs⟩ := hs
        simp only [Pl.sortS, if_pos h5, hs, Option.getD_some] at h4
        rw [hs]
        have : s.args = [] := by simpa using h4
        rw [← S.eta s, this]
      · cases h3
  · cases h3
/-- What a valid scheme is. -/
structure Sc.Good (s : Sc) : Prop where
  sy : symsB s.syms = true
  n1 : 1 ≤ s.funs.length
  n64 : s.funs.length ≤ 64
  df : diffFrom [] (s.funs.map fnm) = true
  so : ∀ f ∈ s.funs, f.sort.ok = true
  bd : ∀ f ∈ s.funs, bodyB (s.pl f) f.body = true
  st : s.start = true
theorem Sc.good {s : Sc} (h : s.ok = true) : s.Good := by
  simp only [Sc.ok, Bool.and_eq_true, decide_eq_true_eq] at h
  obtain ⟨h1, h2, h3, h4, h5⟩ := h
  rw [List.all_eq_true] at h5
  obtain ⟨f, hf⟩ : ∃ f, f ∈ s.funs := by
    cases hh : s.funs with
    | nil => rw [hh] at h1; simp at h1
    | cons f r => exact ⟨f, List.mem_cons_self⟩
  have hp := (body_ty (h5 f hf)).1
  have hp2 := hp
  simp only [Pl.ok, Sc.pl, sortsB, Bool.and_eq_true] at hp2
  refine ⟨hp2.1, h1, h2, h3, fun g hg => ?_, h5, h4⟩
  have := hp2.2.1.2
  rw [List.all_eq_true] at this
  exact this g.sort (List.mem_map.2 ⟨g, hg, rfl⟩)
theorem nameB_size {b : ByteArray} (h : nameB b.data.toList = true) : b.size ≤ 24 := by
  simp only [nameB, Bool.and_eq_true, decide_eq_true_eq] at h
  simpa using h.2.1
theorem diff_names : ∀ (l : List (List UInt8)) (seen : List (List UInt8)), diffFrom seen l = true → ∀ x ∈ l, nameB x = true
  | [], _, _, x, h => by cases h
  | y :: r, seen, h, x, hx => by
    simp only [diffFrom, Bool.and_eq_true] at h
    rcases List.mem_cons.1 hx with rfl | hx
    · exact h.1
    · exact diff_names r _ h.2.2 x hx
theorem Sc.Good.sy_all {s : Sc} (h : s.Good) : s.syms.length ≤ 24 ∧ ∀ x ∈ s.syms, nameB (nm x) = true ∧ 0 ≤ x.rank ∧ x.rank ≤ 4 := by
  have h1 := h.sy
  simp only [symsB, Bool.and_eq_true, decide_eq_true_eq] at h1
  rw [syOk_diff] at h1
  simp only [Bool.and_eq_true, List.all_eq_true] at h1
  refine ⟨h1.1, fun x hx => ⟨diff_names _ _ h1.2.1 _ (List.mem_map.2 ⟨x, hx, rfl⟩), ?_⟩⟩
  have := h1.2.2 x hx
  simpa [rankB] using this
theorem Sc.Good.short {s : Sc} (h : s.Good) : s.short :=
  ⟨fun x hx => nameB_size ((h.sy_all).2 x hx).1, fun f hf => nameB_size (diff_names _ _ h.df _ (List.mem_map.2 ⟨f, hf, rfl⟩))⟩
theorem Sc.Good.body {s : Sc} (h : s.Good) {f : Fn} (hf : f ∈ s.funs) : f.body.count ≤ 400 ∧ f.body.heads 8 s.funs.length s.syms.length = true := by
  obtain ⟨h1, h2, _, h4⟩ := body_ty (h.bd f hf)
  obtain ⟨_, _, _, _, h5⟩ := Pl.ok_parts h1
  have := T.ty_heads h5 f.body h4
  refine ⟨h2, ?_⟩
  simpa [Sc.pl, Sc.sorts] using this

/-- The line of a symbol. -/
def symLine (x : Sy) : List UInt8 := [115, 121, 109, 98, 111, 108, 32] ++ nm x ++ [32] ++ Lib.decDigits x.rank.toNat ++ [10]
/-- The line of a function. -/
def funLine (s : Sc) (f : Fn) : List UInt8 := [102, 117, 110, 32] ++ fnm f ++ [32, 58, 32] ++ f.sort.text ++ [32, 61, 32] ++ f.body.text s ++ [10]
def symLines (l : List Sy) : List UInt8 := (l.map symLine).flatten
def funLines (s : Sc) (l : List Fn) : List UInt8 := (l.map (funLine s)).flatten
/-- The string of a scheme. -/
def Sc.text (s : Sc) : List UInt8 := symLines s.syms ++ funLines s s.funs
theorem symLines_succ {l : List Sy} {k : Nat} {x : Sy} (h : l[k]? = some x) : symLines (l.take (k + 1)) = symLines (l.take k) ++ symLine x := by
  simp [symLines, List.take_add_one, h]
theorem funLines_succ {s : Sc} {l : List Fn} {k : Nat} {x : Fn} (h : l[k]? = some x) : funLines s (l.take (k + 1)) = funLines s (l.take k) ++ funLine s x := by
  simp [funLines, List.take_add_one, h]
theorem symLines_length {s : Sc} (h : s.Good) (k : Nat) : (symLines (s.syms.take k)).length ≤ 1000 := by
  obtain ⟨h1, h2⟩ := h.sy_all
  have key : ∀ l : List Sy, (∀ x ∈ l, nameB (nm x) = true ∧ 0 ≤ x.rank ∧ x.rank ≤ 4) → (symLines l).length ≤ 40 * l.length := by
    intro l
    induction l with
    | nil => intro _; simp [symLines]
    | cons x r ih =>
      intro hl
      obtain ⟨g1, g2, g3⟩ := hl x (List.mem_cons_self)
      have := ih (fun y hy => hl y (List.mem_cons_of_mem _ hy))
      have hn : x.name.data.toList.length ≤ 24 := by have := nameB_size g1; simpa using this
      have hd : (Lib.decDigits x.rank.toNat).length = 1 := by rw [dec_one (by omega)]; rfl
      simp only [symLines, List.map_cons, List.flatten_cons, List.length_append, List.length_cons] at this ⊢
      have : (symLine x).length ≤ 40 := by simp only [symLine, nm, List.length_append, List.length_cons, List.length_nil, hd]; omega
      omega
  have := key (s.syms.take k) (fun x hx => h2 x (List.mem_of_mem_take hx))
  rw [List.length_take] at this
  omega
theorem funLine_length {s : Sc} (h : s.Good) {f : Fn} (hf : f ∈ s.funs) : (funLine s f).length ≤ 12000 := by
  obtain ⟨h1, h2⟩ := h.body hf
  have h3 := T.text_length h.short f.body h2
  have h4 := f.sort.text_length
  have h5 := S.ok_count (h.so f hf)
  have hn : f.name.data.toList.length ≤ 24 := by have := h.short.2 f hf; simpa using this
  simp only [funLine, fnm, List.length_append, List.length_cons, List.length_nil]
  omega
theorem funLines_length {s : Sc} (h : s.Good) (k : Nat) : (funLines s (s.funs.take k)).length ≤ 768000 := by
  have key : ∀ l : List Fn, (∀ x ∈ l, x ∈ s.funs) → (funLines s l).length ≤ 12000 * l.length := by
    intro l
    induction l with
    | nil => intro _; simp [funLines]
    | cons x r ih =>
      intro hl
      have := ih (fun y hy => hl y (List.mem_cons_of_mem _ hy))
      have h1 := funLine_length h (hl x (List.mem_cons_self))
      simp only [funLines, List.map_cons, List.flatten_cons, List.length_append, List.length_cons] at this ⊢
      omega
  have := key (s.funs.take k) (fun x hx => List.mem_of_mem_take hx)
  have h64 := h.n64
  rw [List.length_take] at this
  omega
end Go.Proofs.YtkkfdiidneoelaaGreatDoor

namespace Go.Proofs.YtkkfdiidneoelaaGreatDoor
open Go.RowKit

theorem refPlaceS_results {tmps : Array Value} {w : World} {a : Nat} {x y z : Value} (h2 : tmps.getD 4 undef = .pointer (some ⟨a, 0, none⟩))
    (ha : Blk w a 103 #[x, y, z]) : (results Tryz.f52 tmps).run Tryz.prog w = .ok (.agg #[x, y, z]) w := by
  have h0 := ha.cell 0
  have h1 := ha.cell 1
  have h3 := ha.cell 2
  simp at h0 h1 h3
  have h2' : tmps[4]?.getD undef = .pointer (some ⟨a, 0, none⟩) := by simpa using h2
  simp [results, Tryz.results52, go_sem, h2', h0, h1, h3]

set_option maxRecDepth 100000 in
set_option maxHeartbeats 3200000 in
theorem refPlaceS_any (s : Sc) (v0 v1 : Value) (w : World) (hi : Nat) (hin : ScIn w hi s v0 v1) (hhi : hi ≤ w.heap.size) (hl : s.funs.length ≤ 1000) (i : Nat) (f : Fn) (hf : s.funs[i]? = some f) :
    Calls Tryz.prog 52 #[.agg #[v0, v1], .int .i64 (i : Int)] w fun e w' => ∃ vf vp, e = .returned (.agg #[v0, vf, vp]) ∧ PlIn w' 0 w'.heap.size ⟨s.syms, s.sorts, f.sort.args⟩ v0 vf vp ∧ Below w.heap.size w w' := by
  obtain ⟨i0, hi0, hz0, hz1, hz2⟩ := info_parts sort_info2
  have k0 := ScKept.start hin hhi
  obtain ⟨⟨A0, n0, c0, rfl⟩, _⟩ := hin.form
  obtain ⟨A, _, c, us0, rfl, rfl, hnc, hc, hrd, hrow⟩ := hin.fn
  have hil : i < s.funs.length := (List.getElem?_eq_some_iff.1 hf).1
  obtain ⟨ad0, u0, vb0, rfl, hPa0, hel0, hsu0, hbv0, _⟩ := fn_el hrd hrow hf
  obtain ⟨A1, n1, c1, rfl⟩ := hsu0.form
  have d0 := k0.b.cell 0
  have d1 := k0.b.cell 1
  have HZ1 := Lib.hid hz1
  have HZ2 := Lib.hid hz2
  simp at d0 d1
  have hX := (Below.refl w.heap.size w).alloc (Nat.le_refl _) (.cells #[.slice A0 n0 c0, .slice (some ad0) s.funs.length c] 25)
  have hY := hX.alloc (by simp) (.cells #[.slice none 0 0, .slice none 0 0, .slice none 0 0] 103)
  have g1 := (hel0.keep (hY.block _ (by omega))).c1
  have e1 : (i : Int).toNat = i := by omega
  have hi1 : (0 : Int) ≤ (i : Int) := by omega
  have hi2 : (i : Int) < (s.funs.length : Int) := by omega
  have kb := (k0.b.alloc (.cells #[.slice none 0 0, .slice none 0 0, .slice none 0 0] 103))
  have b0 := kb.cell 0
  have b1 := kb.cell 1
  simp at b0 b1
  go_enter Tryz.func52, Tryz.ntmps52
  go_wp2_with fail
  go_region_held3 (fun w' => w'.cell? ⟨w.heap.size, 0, none⟩ = some (.slice A0 n0 c0) ∧ w'.cell? ⟨w.heap.size, 1, none⟩ = some (.slice (some ad0) s.funs.length c) ∧ w'.cell? ⟨(ad0.add (i * 5)).block, (ad0.add (i * 5)).off + 1, none⟩ = some (.slice A1 n1 c1)) (first | go_keep | assumption)
    (fail)
  have W1 : Blk ((((w.alloc (.cells #[.slice A0 n0 c0, .slice (some ad0) s.funs.length c] 25)).alloc (.cells #[.slice none 0 0, .slice none 0 0, .slice none 0 0] 103)).alloc (.cells #[.slice A0 n0 c0, .slice none 0 0, .slice A1 n1 c1] 103)).drew) (w.heap.size + 2) 103 #[.slice A0 n0 c0, .slice none 0 0, .slice A1 n1 c1] := by
    have := Blk.new ((w.alloc (.cells #[.slice A0 n0 c0, .slice (some ad0) s.funs.length c] 25)).alloc (.cells #[.slice none 0 0, .slice none 0 0, .slice none 0 0] 103)) 103 #[.slice A0 n0 c0, .slice none 0 0, .slice A1 n1 c1]
    simp only [World.size_alloc] at this
    exact this.drew
  have W2 : Blk ((((w.alloc (.cells #[.slice A0 n0 c0, .slice (some ad0) s.funs.length c] 25)).alloc (.cells #[.slice none 0 0, .slice none 0 0, .slice none 0 0] 103)).alloc (.cells #[.slice A0 n0 c0, .slice none 0 0, .slice A1 n1 c1] 103)).drew) (w.heap.size + 1) 103 #[.slice none 0 0, .slice none 0 0, .slice none 0 0] := by
    have := Blk.new (w.alloc (.cells #[.slice A0 n0 c0, .slice (some ad0) s.funs.length c] 25)) 103 #[.slice none 0 0, .slice none 0 0, .slice none 0 0]
    simp only [World.size_alloc] at this
    exact (this.alloc _).drew
  have W3 := ((k0.b.alloc (.cells #[.slice none 0 0, .slice none 0 0, .slice none 0 0] 103)).alloc (.cells #[.slice A0 n0 c0, .slice none 0 0, .slice A1 n1 c1] 103)).drew
  have W4 := (hY.alloc (by simp; omega) (.cells #[.slice A0 n0 c0, .slice none 0 0, .slice A1 n1 c1] 103)).drew
  have wb0 := W3.cell 0
  have wb1 := W3.cell 1
  simp at wb0 wb1
  have HW1 := Lib.hid W1
  have HW2 := Lib.hid W2
  have HW3 := Lib.hid W3
  have HW4 := Lib.hid W4
  clear W1 W2 W3 W4 kb b0 b1 k0 d0 d1 hX hY
  go_wp2_with fail
  go_loopw [21] (fun iv wr => ∃ (k : Nat) (vs : Value) (us : List Value), k ≤ s.funs.length ∧ iv = .int .i64 k ∧ SRow (w.heap.size + 3) hi wr ((s.funs.map Fn.sort).take k) vs us ∧ Blk wr (w.heap.size + 2) 103 #[.slice A0 n0 c0, vs, .slice A1 n1 c1] ∧
    Blk wr (w.heap.size + 1) 103 #[.slice none 0 0, .slice none 0 0, .slice none 0 0] ∧ Below w.heap.size w wr) (fun i _ => s.funs.length - (intOf i).toNat)
  case atStart => exact ⟨0, _, [], Nat.zero_le _, rfl, by simpa using SRow.nil _ _ _, HW1.out, HW2.out, HW4.out⟩
  case round =>
    obtain ⟨k, vs, us, hk, rfl, hrr, hpl, hrs, hbel⟩ := hrel
    have hzr := hbel.size
    have hpl0 := hpl.lt
    by_cases hlt : k < s.funs.length
    · have hx : s.funs[k]? = some s.funs[k] := List.getElem?_eq_getElem hlt
      obtain ⟨ad, u, v, had, hPa, hel, hsu, hbv, hsx⟩ := fn_el hrd hrow hx
      cases had
      obtain ⟨r0, r1, r2, r3, r4⟩ := hel.keep (hbel.block _ (by omega))
      have hsu' := hsu.below hbel hhi
      obtain ⟨A3, n3, c3, rfl⟩ := hsu.form
      obtain ⟨A2, n2, c2, rfl⟩ := hbv.form
      have hsnoc : (s.funs.map Fn.sort).take (k + 1) = (s.funs.map Fn.sort).take k ++ [s.funs[k].sort] := by rw [List.take_add_one, List.getElem?_map, hx] <;> rfl
      have hlk : ((s.funs.map Fn.sort).take k).length = k := by simp; omega
      generalize (s.funs.map Fn.sort).take k = rl at *
      generalize s.funs[k] = x at *
      obtain ⟨name, sort, body⟩ := x
      simp only at r0 r1 r2 r3 r4 hsx hsu hsu' hsnoc
      have HS := Lib.hid hsnoc
      have HL := Lib.hid hlk
      have hvl : ∀ b, vs.ownBlock = some b → w.heap.size + 3 ≤ b ∧ b < wr.heap.size := fun b hb => World.ownsRow.lt hrr.own b hb
      have hbb := Blk.new wr 55 #[.string name, .slice A3 n3 c3, .int .i64 body.kind, .int .i64 body.num, .slice A2 n2 c2]
      have b1 := hbb.cell 1
      have bx : Below wr.heap.size wr (wr.alloc (.cells #[.string name, .slice A3 n3 c3, .int .i64 body.kind, .int .i64 body.num, .slice A2 n2 c2] 55)) := (Below.refl _ _).alloc (Nat.le_refl _) _
      have hrr1 := hrr.next (by omega) bx
      have hsu1 := hsu'.below bx (by omega)
      have hpl1 := hpl.alloc (.cells #[.string name, .slice A3 n3 c3, .int .i64 body.kind, .int .i64 body.num, .slice A2 n2 c2] 55)
      have hrs1 := hrs.alloc (.cells #[.string name, .slice A3 n3 c3, .int .i64 body.kind, .int .i64 body.num, .slice A2 n2 c2] 55)
      have p1 := hpl1.cell 1
      simp at p1
      have HRR := Lib.hid hrr1
      have HSU := Lib.hid hsu1
      have hown1 := hrr1.own
      clear hx hel hsnoc hlk hsu hsu' hbv hrr hrr1 hsu1 hbb bx
      go_wp2_with
        (at_builtin
         refine wpList_append_lies _ rfl _ _ _ rfl (w.heap.size + 3) 50 i0 _ 1 24 Tryz.underlying48 hi0 hz0 HZ1.out HZ2.out rfl (by omega) vs _ us (by rfl) (hown1.alloc _)
           ⟨wr.heap.size + 1, 0, none⟩ 1 1 [.slice A3 n3 c3] (by rfl) (by rfl) (World.news_of_block (cs := #[.slice A3 n3 c3]) (t := 50) (fr := (0, 0)) (by simpa using heap_alloc_new (wr.alloc (.cells #[.string name, .slice A3 n3 c3, .int .i64 body.kind, .int .i64 body.num, .slice A2 n2 c2] 55)) _)) (fun u hu => by rw [List.mem_singleton.1 hu] <;> rfl) (by omega) (by rw [HL.out]; simp only [maxLen]; omega) (by rw [HL.out]; omega) (by simp; omega) (wr.heap.size + 2) (by simp) ?_
         intro gg cap2 w3 hown3 hgrow hat3 hlt3
         have hpl3 : Blk w3 (w.heap.size + 2) 103 #[.slice A0 n0 c0, vs, .slice A1 n1 c1] := (hgrow.block _ (by simp; omega) (fun e => by have := hvl _ e.symm; omega)).trans (hpl1.alloc _)
         have hrs3 : Blk w3 (w.heap.size + 1) 103 #[.slice none 0 0, .slice none 0 0, .slice none 0 0] := (hgrow.block _ (by simp; omega) (fun e => by have := hvl _ e.symm; omega)).trans (hrs1.alloc _)
         have q1 := hpl3.cell 1
         have q2 := hpl3.frozen 1
         simp at q1)
      go_roundw
      case rel =>
        refine ⟨k + 1, _, us ++ [.slice A3 n3 c3], by omega, by go_num, ?_, (hpl3.set_ 1 _).eq_ rfl, hrs3.far (by show w.heap.size + 1 ≠ w.heap.size + 2; omega) _, ?_⟩
        · rw [HS.out]
          refine (HRR.out.push HSU.out (by omega) (by simp; omega) hown3 hgrow).far (fun b hb => Below.heap_setCell _ _ _ _ ?_) (fun b hb => Below.heap_setCell _ _ _ _ (by show b ≠ w.heap.size + 2; omega))
          have e' : gg = b := by simpa [Value.ownBlock] using hb
          subst e'
          show gg ≠ w.heap.size + 2
          rcases hat3 with h | h
          · have := hvl _ h; omega
          · omega
        · exact (((hbel.alloc (by omega) _).alloc (by simp; omega) _).grown hgrow (by simp; omega) (fun b hb => by have := (hvl b hb).1; omega)).setCell (by show w.heap.size ≤ w.heap.size + 2; omega) _
      case measure => simp [intOf]; omega
    · have hll : (s.funs.map Fn.sort).take k = s.funs.map Fn.sort := List.take_of_length_le (by simp; omega)
      rw [hll] at hrr
      clear hll
      obtain ⟨A5, c5, rfl⟩ := hrr.form
      have x0 := hpl.cell 0
      have x1 := hpl.cell 1
      have x2 := hpl.cell 2
      have y0 := hrs.cell 0
      have y1 := hrs.cell 1
      have y2 := hrs.cell 2
      have z0 := hrs.frozen 0
      have z1 := hrs.frozen 1
      have z2 := hrs.frozen 2
      simp at x0 x1 x2 y0 y1 y2
      have HRR := Lib.hid hrr
      go_wp2_with fail
      have hBF := ((hbel.setCell (p := ⟨w.heap.size + 1, 0, none⟩) (Nat.le_succ _) (.slice A0 n0 c0)).setCell (p := ⟨w.heap.size + 1, 1, none⟩) (Nat.le_succ _) (.slice A5 (s.funs.map Fn.sort).length c5)).setCell (p := ⟨w.heap.size + 1, 2, none⟩) (Nat.le_succ _) (.slice A1 n1 c1)
      simp only [List.length_map] at hBF
      have hzF := hBF.size
      have hsm : S.mk f.sort.args = f.sort := by cases f.sort; rfl
      refine bodyPost_ret (refPlaceS_results rfl ((((hrs.set_ 0 _).set_ 1 _).set_ 2 _).eq_ rfl)) rfl ⟨_, _, rfl, ⟨(hin.sy.below hBF hhi).more (by omega), ?_, ?_⟩, hBF⟩
      · have hR := HRR.out
        have hov := fun b hb => (World.ownsRow.lt hR.own b hb).1
        simp only [List.length_map] at hR hov
        refine SRow.in_ (B := w.heap.size + 3) (hi := hi) (us := us) (hR.far (fun b hb => ?_) (fun b hb => ?_)) (by omega)
        · have := hov b hb
          rw [Below.heap_setCell _ _ _ _ (by show b ≠ w.heap.size + 1; omega), Below.heap_setCell _ _ _ _ (by show b ≠ w.heap.size + 1; omega), Below.heap_setCell _ _ _ _ (by show b ≠ w.heap.size + 1; omega)]
        · rw [Below.heap_setCell _ _ _ _ (by show b ≠ w.heap.size + 1; omega), Below.heap_setCell _ _ _ _ (by show b ≠ w.heap.size + 1; omega), Below.heap_setCell _ _ _ _ (by show b ≠ w.heap.size + 1; omega)]
      · show (S.mk f.sort.args).In _ _ _ _
        rw [hsm]
        exact (hsu0.below hBF hhi).more (Nat.le_refl _) (by omega)
end Go.Proofs.YtkkfdiidneoelaaGreatDoor

namespace Go.Proofs.YtkkfdiidneoelaaGreatDoor
open Go.RowKit

def fnOk (f : Fn) : Bool := nameB (fnm f) && (f.sort.ok && (decide (f.body.count ≤ 400) && decide (f.body.deep ≤ 30)))
def goodFrom (seen : List (List UInt8)) : List Fn → Bool
  | [] => true
  | f :: r => fnOk f && (!seen.contains (fnm f) && goodFrom (seen ++ [fnm f]) r)
/-- The body is a tree, by the reference's sorts. -/
def Sc.typed (s : Sc) (f : Fn) : Bool := match f.body.ty (s.pl f).pick with | some x => x.args.isEmpty | none => false
def Sc.sayOk (s : Sc) : Bool := symsB s.syms && (decide (1 ≤ s.funs.length) && (decide (s.funs.length ≤ 64) && (goodFrom [] s.funs && (s.start && s.funs.all s.typed))))
theorem goodFrom_iff : ∀ (l : List Fn) (seen : List (List UInt8)), goodFrom seen l = true ↔ diffFrom seen (l.map fnm) = true ∧ ∀ f ∈ l, f.sort.ok = true ∧ f.body.count ≤ 400 ∧ f.body.deep ≤ 30
  | [], seen => by simp [goodFrom, diffFrom]
  | f :: r, seen => by
    simp only [goodFrom, diffFrom, List.map_cons, Bool.and_eq_true, fnOk, decide_eq_true_eq, goodFrom_iff r, List.forall_mem_cons]
    constructor
    · rintro ⟨⟨h1, h2, h3, h4⟩, h5, h6, h7⟩; exact ⟨⟨h1, h5, h6⟩, ⟨h2, h3, h4⟩, h7⟩
    · rintro ⟨⟨h1, h5, h6⟩, ⟨h2, h3, h4⟩, h7⟩; exact ⟨⟨h1, h2, h3, h4⟩, h5, h6, h7⟩
theorem S.mem_parts : ∀ {l : List S} {x : S}, x ∈ l → x.count ≤ S.countL l ∧ x.deep ≤ S.deepL l ∧ (S.fewL l = true → x.few = true)
  | a :: r, x, h => by
    simp only [S.countL, S.deepL, S.fewL, Bool.and_eq_true]
    rcases List.mem_cons.1 h with rfl | h
    · exact ⟨by omega, by omega, fun h => h.1⟩
    · obtain ⟨h1, h2, h3⟩ := S.mem_parts h
      exact ⟨by omega, by omega, fun h => h3 h.2⟩
theorem S.ok_args {s : S} (h : s.ok = true) : sortsB 8 s.args = true := by
  obtain ⟨l⟩ := s
  simp only [S.ok, Bool.and_eq_true, decide_eq_true_eq] at h
  simp only [S.count, S.deep, S.few, Bool.and_eq_true, decide_eq_true_eq] at h
  obtain ⟨⟨h1, h2⟩, h3, h4⟩ := h
  simp only [sortsB, S.args, Bool.and_eq_true, List.all_eq_true]
  refine ⟨decide_eq_true h4, fun x hx => ?_⟩
  obtain ⟨g1, g2, g3⟩ := S.mem_parts hx
  simp only [S.ok, Bool.and_eq_true, decide_eq_true_eq]
  exact ⟨⟨by omega, by omega⟩, g3 h3⟩
theorem fits_iff {s : Sc} (hs : symsB s.syms = true) (hn : s.funs.length ≤ 64) (ho : ∀ f ∈ s.funs, f.sort.ok = true) {f : Fn} (hf : f ∈ s.funs) (hc : f.body.count ≤ 400) (hd : f.body.deep ≤ 30) : s.fits f = s.typed f := by
  have hp : (s.pl f).ok = true := by
    simp only [Pl.ok, Sc.pl, Bool.and_eq_true]
    refine ⟨hs, ?_, S.ok_args (ho f hf)⟩
    simp only [sortsB, Sc.sorts, List.length_map, Bool.and_eq_true, decide_eq_true_eq, List.all_eq_true, List.mem_map]
    exact ⟨hn, fun x ⟨g, hg, e⟩ => e ▸ ho g hg⟩
  have hl : f.body.large = false := by simp only [T.large, decide_eq_false_iff_not]; omega
  simp only [Sc.fits, bodyB, Sc.typed, Pl.sortS, Pl.sortE, hp, hl, hc, hd]
  cases f.body.ty (s.pl f).pick with
  | none => simp
  | some x => simp
theorem sayOk_ok (s : Sc) : s.sayOk = s.ok := by
  rw [Bool.eq_iff_iff]
  constructor
  · intro h
    simp only [Sc.sayOk, Bool.and_eq_true, decide_eq_true_eq, goodFrom_iff, List.all_eq_true] at h
    obtain ⟨h1, h2, h3, ⟨h4, h5⟩, h6, h7⟩ := h
    simp only [Sc.ok, Bool.and_eq_true, decide_eq_true_eq, List.all_eq_true]
    exact ⟨h2, h3, h4, h6, fun f hf => by rw [fits_iff h1 h3 (fun g hg => (h5 g hg).1) hf (h5 f hf).2.1 (h5 f hf).2.2]; exact h7 f hf⟩
  · intro h
    have hg := Sc.good h
    simp only [Sc.ok, Bool.and_eq_true, decide_eq_true_eq, List.all_eq_true] at h
    obtain ⟨h2, h3, h4, h6, h7⟩ := h
    have hb : ∀ f ∈ s.funs, f.body.count ≤ 400 ∧ f.body.deep ≤ 30 := fun f hf => by
      have := h7 f hf
      simp only [Sc.fits, bodyB, Bool.and_eq_true, decide_eq_true_eq] at this
      exact ⟨this.1, this.2.1⟩
    simp only [Sc.sayOk, Bool.and_eq_true, decide_eq_true_eq, goodFrom_iff, List.all_eq_true]
    exact ⟨hg.sy, h2, h3, ⟨h4, fun f hf => ⟨hg.so f hf, hb f hf⟩⟩, h6, fun f hf => by rw [← fits_iff hg.sy h3 hg.so hf (hb f hf).1 (hb f hf).2]; exact h7 f hf⟩
end Go.Proofs.YtkkfdiidneoelaaGreatDoor

namespace Go.Proofs.YtkkfdiidneoelaaGreatDoor
open Go.RowKit

theorem refOfS_any (p : Pl) (hok : p.ok = true) (v0 v1 v2 : Value) (t : T) (v : Value) (w : World) (hi : Nat) (P : Nat → Prop) (hp : PlIn w 0 hi p v0 v1 v2) (hhi : hi ≤ w.heap.size) (hin : t.In w P v) (hold : Old P w) :
    Calls Tryz.prog 51 #[.agg #[v0, v1, v2], .agg #[.int .i64 t.kind, .int .i64 t.num, v]] w fun e w' =>
      ∃ A c, e = .returned (.tuple #[.agg #[.slice A ((t.ty p.pick).getD (.mk [])).args.length c], .bool (t.ty p.pick).isSome]) ∧ Below w.heap.size w w' := by
  obtain ⟨A0, n0, c0, rfl⟩ := hp.s.form
  obtain ⟨A1, n1, c1, rfl⟩ := hp.f.form
  obtain ⟨A2, n2, c2, rfl⟩ := hp.r.form
  refine (ofT_any p.pick (fun (k n : Int) (s : S) (h : p.pick k n = some s) => S.ok_count (Pl.pick_ok hok h)) (.slice A0 n0 c0) (.slice A1 n1 c1) (.slice A2 n2 c2) ⟨_, _, _, rfl⟩ ⟨_, _, _, rfl⟩ ⟨_, _, _, rfl⟩
    (fun W => PlIn W 0 hi p (.slice A0 n0 c0) (.slice A1 n1 c1) (.slice A2 n2 c2) ∧ hi ≤ W.heap.size) (fun W W' h hb => ⟨h.1.below hb h.2, Nat.le_trans h.2 hb.size⟩) hi (fun W h => h.2) (fun lo h => lo = 0 ∧ h = hi) (fun lo h hh => by omega)
    (fun x v W Q h hx ho => refHead_any p hok hi _ _ _ x v W Q h.1 h.2 hx ho) t.count t v w P (Nat.le_refl _) ⟨hp, hhi⟩ hin hold).mono ?_
  rintro e w' ⟨u, rfl, ⟨lo, h, hs, _⟩, hb⟩
  generalize (t.ty p.pick).getD (.mk []) = s at *
  obtain ⟨l⟩ := s
  simp only [S.In] at hs
  obtain ⟨A, n, c, rfl, e2, _⟩ := hs
  exact ⟨A, c, by simp only [S.args, e2], hb⟩
end Go.Proofs.YtkkfdiidneoelaaGreatDoor

namespace Go.Proofs.YtkkfdiidneoelaaGreatDoor
open Go.RowKit

set_option maxRecDepth 100000 in
set_option maxHeartbeats 3200000 in
theorem refScIs_any (s : Sc) (v0 v1 : Value) (w : World) (hi : Nat) (hin : ScIn w hi s v0 v1) (hhi : hi ≤ w.heap.size) :
    Calls Tryz.prog 20 #[.agg #[v0, v1]] w fun e w' => e = .returned (.bool s.sayOk) ∧ Below w.heap.size w w' := by
  have k0 := ScKept.start hin hhi
  obtain ⟨A0, n0, c0, rfl⟩ := hin.sy.form
  obtain ⟨A, _, c, us0, rfl, rfl, hnc, hc, hrd, hrow⟩ := hin.fn
  have d0 := k0.b.cell 0
  have d1 := k0.b.cell 1
  have HSy := Lib.hid (refSymbols_any s.syms (.slice A0 n0 c0) _ _ k0.i.sy (fun b hb => by have := k0.hi; have := k0.b.lt; omega))
  cases hS : symsB s.syms with
  | false =>
    have HE : Hid (s.sayOk = false) := Lib.hid (by simp [Sc.sayOk, hS])
    rw [hS] at HSy
    clear hS
    go_enter Tryz.func20, Tryz.ntmps20
    go_wp2_with fail
    refine HSy.out.mono ?_
    rintro e w1 ⟨rfl, b1⟩
    have k1 := k0.next b1
    go_wp2_with fail
    go_ret
    exact ⟨by rw [HE.out] <;> rfl, k1.bel⟩
  | true =>
    rw [hS] at HSy
    by_cases hn1 : 1 ≤ s.funs.length
    · by_cases hn64 : s.funs.length ≤ 64
      · have hd1 : decide ((s.funs.length : Int) < 1) = false := decide_eq_false (by omega)
        have hd2 : decide ((64 : Int) < (s.funs.length : Int)) = false := decide_eq_false (by omega)
        have HG : Hid (goodFrom [] s.funs = false → s.sayOk = false) := Lib.hid (fun h => by simp [Sc.sayOk, h])
        have HSY : Hid (symsB s.syms = true) := Lib.hid hS
        clear hS
        go_enter Tryz.func20, Tryz.ntmps20
        go_wp2_with fail
        refine HSy.out.mono ?_
        rintro e w1 ⟨rfl, b1⟩
        have k1 := k0.next b1
        have e1 := k1.b.cell 1
        simp at e1
        clear d0 d1 HSy b1 k0
        go_wp2_with fail
        go_loopw [30] (fun iv wr => ∃ k : Nat, k ≤ s.funs.length ∧ iv = .int .i64 k ∧ ScKept s (.slice A0 n0 c0) (.slice A s.funs.length c) hi w.heap.size w wr ∧ goodFrom [] s.funs = goodFrom ((s.funs.take k).map fnm) (s.funs.drop k)) (fun iv _ => s.funs.length - (intOf iv).toNat)
        case atStart => exact ⟨0, Nat.zero_le _, rfl, k1, rfl⟩
        case round =>
          obtain ⟨k, hk, rfl, hkp, hgood⟩ := hrel
          have hbl := hkp.b.lt
          have hhi' := hkp.hi
          by_cases hlt : k < s.funs.length
          · have hx : s.funs[k]? = some s.funs[k] := List.getElem?_eq_getElem hlt
            obtain ⟨ad, u, v, rfl, hPa, hel, hsu, hbv, hsx⟩ := fn_el hrd hrow hx
            obtain ⟨r0, r1, r2, r3, r4⟩ := hel.keep (hkp.bel.block _ (by omega))
            obtain ⟨A1, n1, c1, rfl⟩ := hsu.form
            obtain ⟨A2, n2, c2, rfl⟩ := hbv.form
            have hdrop : s.funs.drop k = s.funs[k] :: s.funs.drop (k + 1) := (List.getElem_cons_drop hlt).symm
            have hsnoc : (s.funs.take (k + 1)).map fnm = (s.funs.take k).map fnm ++ [fnm s.funs[k]] := by rw [List.take_add_one, hx, List.map_append] <;> rfl
            have hG1 : goodFrom [] s.funs = (fnOk s.funs[k] && (!((s.funs.take k).map fnm).contains (fnm s.funs[k]) && goodFrom ((s.funs.take (k + 1)).map fnm) (s.funs.drop (k + 1)))) := by rw [hgood, hdrop, goodFrom, hsnoc]
            have HG1 := Lib.hid hG1
            have HX := Lib.hid hx
            generalize s.funs[k] = x at *
            have bx : Below wr.heap.size wr (wr.alloc (.cells #[.string x.name, .slice A1 n1 c1, .int .i64 x.body.kind, .int .i64 x.body.num, .slice A2 n2 c2] 55)) := (Below.refl _ _).alloc (Nat.le_refl _) _
            have hk2 := hkp.next bx
            have hbb := Blk.new wr 55 #[.string x.name, .slice A1 n1 c1, .int .i64 x.body.kind, .int .i64 x.body.num, .slice A2 n2 c2]
            have f0 := hbb.cell 0
            have f1 := hbb.cell 1
            have f2 := hbb.cell 2
            have f3 := hbb.cell 3
            have f4 := hbb.cell 4
            simp at f0 f1 f2 f3 f4
            obtain ⟨bN, hbN⟩ : ∃ b, b = nameB (fnm x) := ⟨_, rfl⟩
            obtain ⟨bS, hbS⟩ : ∃ b, b = x.sort.ok := ⟨_, rfl⟩
            have HNm := Lib.hid (fun W => refName_any x.name W hsx)
            have HSo := Lib.hid (fun W (h : ScKept s (.slice A0 n0 c0) (.slice (some ad) s.funs.length c) hi w.heap.size w W) => is_any x.sort (.slice A1 n1 c1) W 0 hi (hsu.below (h.bel.mono (by omega)) (Nat.le_refl _)) (by have := h.b.lt; omega))
            rw [show nameB x.name.data.toList = bN from hbN.symm] at HNm
            rw [← hbS] at HSo
            have HBN := Lib.hid hbN
            have HBS := Lib.hid hbS
            clear hx hdrop hsnoc hG1 hgood hbN hbS hel bx
            go_wp2_with fail
            refine (HNm.out _).mono ?_
            rintro e w2 ⟨rfl, rfl⟩
            cases bN with
            | false =>
              have HE : Hid (s.sayOk = false) := Lib.hid (HG.out (by rw [HG1.out]; simp [fnOk, ← HBN.out]))
              go_wp2_with fail
              go_ret
              exact ⟨by rw [HE.out] <;> rfl, hk2.bel⟩
            | true =>
              go_wp2_with fail
              refine (HSo.out _ hk2).mono ?_
              rintro e w3 ⟨rfl, b3⟩
              have hk3 := hk2.next b3
              cases bS with
              | false =>
                have HE : Hid (s.sayOk = false) := Lib.hid (HG.out (by rw [HG1.out]; simp [fnOk, ← HBS.out]))
                go_wp2_with fail
                go_ret
                exact ⟨by rw [HE.out] <;> rfl, hk3.bel⟩
              | true =>
                have g2 := (hbb.below b3 hbb.lt).cell 2
                have g3 := (hbb.below b3 hbb.lt).cell 3
                have g4 := (hbb.below b3 hbb.lt).cell 4
                simp at g2 g3 g4
                have hz3 := hk3.b.lt
                have hiT : x.body.In w3 (fun b => b < hi) (.slice A2 n2 c2) := T.In.below hbv (hk3.bel.mono (by omega)) (fun _ h => by omega)
                have HNo := Lib.hid (nodesT_any x.body.count x.body (.slice A2 n2 c2) 400 w3 _ (Nat.le_refl _) (by decide) (by decide) hiT (fun b h => by omega))
                by_cases hcn : x.body.count ≤ 400
                · rw [show min (x.body.count : Int) (400 + 1) = (x.body.count : Int) from by omega] at HNo
                  have hcd : decide ((400 : Int) < (x.body.count : Int)) = false := decide_eq_false (by omega)
                  have hcd' : decide (400 < x.body.count) = false := decide_eq_false (by omega)
                  go_wp2_with fail
                  refine HNo.out.mono ?_
                  rintro e w4 ⟨rfl, b4⟩
                  have hk4 := hk3.next b4
                  have hbb4 := (hbb.below b3 hbb.lt).below b4 (hbb.below b3 hbb.lt).lt
                  have m2 := hbb4.cell 2
                  have m3 := hbb4.cell 3
                  have m4 := hbb4.cell 4
                  simp at m2 m3 m4
                  have hz4 := hk4.b.lt
                  have hiT4 : x.body.In w4 (fun b => b < hi) (.slice A2 n2 c2) := T.In.below hbv (hk4.bel.mono (by omega)) (fun _ h => by omega)
                  have HDp := Lib.hid (depthT_any x.body.count x.body (.slice A2 n2 c2) w4 _ (Nat.le_refl _) (by omega) hiT4 (fun b h => by omega))
                  clear g2 g3 g4 hiT HNo b4
                  by_cases hdp : x.body.deep ≤ 30
                  · have hdd : decide ((30 : Int) < (x.body.deep : Int)) = false := decide_eq_false (by omega)
                    have hdd' : decide (30 < x.body.deep) = false := decide_eq_false (by omega)
                    have HOK : Hid (fnOk x = true) := Lib.hid (by simp [fnOk, ← HBN.out, ← HBS.out, hcn, hdp])
                    have hkc : ¬ c < k := by omega
                    have hkc2 : (k : Int) ≤ (c : Int) := by omega
                    have hkn : (0 : Int) ≤ (k : Int) := by omega
                    go_wp2_with fail
                    refine HDp.out.mono ?_
                    rintro e w5 ⟨rfl, b5⟩
                    have hk5 := hk4.next b5
                    have hbb5 := hbb4.below b5 hbb4.lt
                    have z1 := hk5.b.cell 1
                    simp at z1
                    clear m2 m3 m4 hiT4 HDp
                    go_wp2_with fail
                    generalize wr.heap.size = gb at *
                    go_loopw [62] (fun jv wx => ∃ j : Nat, j ≤ k ∧ jv = .int .i64 j ∧ ScKept s (.slice A0 n0 c0) (.slice (some ad) s.funs.length c) hi w.heap.size w wx ∧ Blk wx gb 55 #[.string x.name, .slice A1 n1 c1, .int .i64 x.body.kind, .int .i64 x.body.num, .slice A2 n2 c2] ∧
                      ∀ i y, i < j → s.funs[i]? = some y → fnm y ≠ fnm x) (fun jv _ => k - (intOf jv).toNat)
                    case atStart => exact ⟨0, Nat.zero_le _, rfl, hk5, hbb5, fun i y h => by omega⟩
                    case round =>
                      obtain ⟨j, hj, rfl, hkx, hbx, hdf⟩ := hrel
                      have hzx := hkx.b.lt
                      by_cases hjk : j < k
                      · have hy : s.funs[j]? = some (s.funs[j]'(by omega)) := List.getElem?_eq_getElem (by omega)
                        obtain ⟨ad', u', v', had', hPa', hel', hsu', hbv', hsy'⟩ := fn_el hrd hrow hy
                        cases had'
                        obtain ⟨t0, t1, t2, t3, t4⟩ := hel'.keep (hkx.bel.block _ (by omega))
                        obtain ⟨A5, n5, c5, rfl⟩ := hsu'.form
                        obtain ⟨A6, n6, c6, rfl⟩ := hbv'.form
                        have HJ := Lib.hid hy
                        generalize s.funs[j]'(by omega) = y at *
                        have bx : Below wr.heap.size wr (wr.alloc (.cells #[.string y.name, .slice A5 n5 c5, .int .i64 y.body.kind, .int .i64 y.body.num, .slice A6 n6 c6] 55)) := (Below.refl _ _).alloc (Nat.le_refl _) _
                        have hkx2 := hkx.next bx
                        have hbx2 := hbx.alloc (.cells #[.string y.name, .slice A5 n5 c5, .int .i64 y.body.kind, .int .i64 y.body.num, .slice A6 n6 c6] 55)
                        have hyb := Blk.new wr 55 #[.string y.name, .slice A5 n5 c5, .int .i64 y.body.kind, .int .i64 y.body.num, .slice A6 n6 c6]
                        have l0 := hbx2.cell 0
                        have l1 := hyb.cell 0
                        simp at l0 l1
                        clear hy hel' bx hyb
                        by_cases hne : x.name = y.name
                        · have HE : Hid (s.sayOk = false) := Lib.hid (HG.out (by
                            have hm : fnm x ∈ (s.funs.take k).map fnm := List.mem_map.2 ⟨y, List.mem_of_getElem? (i := j) (by rw [List.getElem?_take_of_lt hjk]; exact HJ.out), by simp [fnm, hne]⟩
                            have hct : ((s.funs.take k).map fnm).contains (fnm x) = true := List.contains_iff_mem.2 hm
                            rw [HG1.out, hct]
                            simp))
                          have hdn : decide (x.name = y.name) = true := decide_eq_true hne
                          go_wp2_with fail
                          go_ret
                          exact ⟨by rw [HE.out] <;> rfl, hkx2.bel⟩
                        · have hdn : decide (x.name = y.name) = false := decide_eq_false hne
                          have hnb : (x.name.toList == y.name.toList) = false := beq_false_of_ne (fun e => hne (nm_eq (by rw [← ByteArray.toList_eq, ← ByteArray.toList_eq]; exact e)))
                          have HNE := Lib.hid hne
                          clear hne hdn
                          go_wp2_with fail
                          go_roundw
                          case rel =>
                            refine ⟨j + 1, by omega, by go_num, hkx2, hbx2, fun i z hi hz => ?_⟩
                            rcases Nat.lt_or_ge i j with h | h
                            · exact hdf i z h hz
                            · have : i = j := by omega
                              subst this
                              rw [HJ.out] at hz
                              cases hz
                              intro e
                              exact HNE.out (nm_eq e.symm)
                          case measure => simp [intOf]; omega
                      · have HN : Hid (goodFrom [] s.funs = goodFrom ((s.funs.take (k + 1)).map fnm) (s.funs.drop (k + 1))) := Lib.hid (by
                          have hct : ((s.funs.take k).map fnm).contains (fnm x) = false := by
                            rw [Bool.eq_false_iff]
                            intro hh
                            obtain ⟨y, hy, he⟩ := List.mem_map.1 (List.contains_iff_mem.1 hh)
                            obtain ⟨i, hi⟩ := List.mem_iff_getElem?.1 hy
                            rw [List.getElem?_take] at hi
                            split at hi
                            · exact hdf i y (by omega) hi he
                            · cases hi
                          rw [HG1.out, HOK.out, hct]
                          simp)
                        clear hdf
                        go_wp2_with fail
                        go_roundw
                        case rel => exact ⟨k + 1, by omega, by go_num, hkx, HN.out⟩
                        case measure => simp [intOf]; omega
                  · have hdd : decide ((30 : Int) < (x.body.deep : Int)) = true := decide_eq_true (by omega)
                    have hdd' : decide (30 < x.body.deep) = true := decide_eq_true (by omega)
                    have HE : Hid (s.sayOk = false) := Lib.hid (HG.out (by rw [HG1.out]; simp [fnOk, hdp]))
                    go_wp2_with fail
                    refine HDp.out.mono ?_
                    rintro e w5 ⟨rfl, b5⟩
                    have hk5 := hk4.next b5
                    go_wp2_with fail
                    go_ret
                    exact ⟨by rw [HE.out] <;> rfl, hk5.bel⟩
                · rw [show min (x.body.count : Int) (400 + 1) = 401 from by omega] at HNo
                  have HE : Hid (s.sayOk = false) := Lib.hid (HG.out (by rw [HG1.out]; simp [fnOk, hcn]))
                  go_wp2_with fail
                  refine HNo.out.mono ?_
                  rintro e w4 ⟨rfl, b4⟩
                  have hk4 := hk3.next b4
                  go_wp2_with fail
                  go_ret
                  exact ⟨by rw [HE.out] <;> rfl, hk4.bel⟩
          · have hGd : goodFrom [] s.funs = true := by rw [hgood, List.drop_of_length_le (by omega)] <;> rfl
            obtain ⟨hdf0, hall⟩ := (goodFrom_iff _ _).1 hGd
            obtain ⟨f0, r0, hfs⟩ : ∃ f r, s.funs = f :: r := by
              cases hh : s.funs with
              | nil => rw [hh] at hn1; simp at hn1
              | cons f r => exact ⟨f, r, rfl⟩
            have hx0 : s.funs[0]? = some f0 := by rw [hfs] <;> rfl
            have hst : s.start = f0.sort.args.isEmpty := by unfold Sc.start; rw [hfs]
            obtain ⟨ad, u0, b0, rfl, hPa, hel0, hsu0, hbv0, _⟩ := fn_el hrd hrow hx0
            have q1 := (hel0.keep (hkp.bel.block _ (by omega))).zero
            have HALL := Lib.hid hall
            obtain ⟨A1, n1, c1, rfl⟩ := hsu0.form
            have hlen0 : f0.sort.args.length = n1 := by
              have hs0 := hsu0
              rw [← S.eta f0.sort] at hs0
              simp only [S.In] at hs0
              obtain ⟨_, _, _, e1, e2, _⟩ := hs0
              injection e1 with _ e3 _
              rw [e2, e3]
            have z0 := hkp.b.cell 0
            have z1 := hkp.b.cell 1
            simp at z0 z1
            have hll : 0 < s.funs.length := by omega
            cases hs0 : f0.sort.args.isEmpty with
            | false =>
              have HE : Hid (s.sayOk = false) := Lib.hid (by simp [Sc.sayOk, hst, hs0])
              have hne : f0.sort.args ≠ [] := fun e => by rw [e] at hs0; cases hs0
              have hpos : 0 < f0.sort.args.length := List.length_pos_iff.2 hne
              have hd3 : decide ((0 : Int) < (n1 : Int)) = true := decide_eq_true (by omega)
              clear hst hs0 hne hx0 hfs hel0 hsu0 hbv0 hall hdf0 hGd hgood HG
              go_wp2_with fail
              go_ret
              exact ⟨by rw [HE.out] <;> rfl, hkp.bel⟩
            | true =>
              have hemp : f0.sort.args = [] := by simpa using hs0
              have hn0 : n1 = 0 := by rw [← hlen0, hemp] <;> rfl
              subst hn0
              have HF : Hid (s.sayOk = s.funs.all s.typed) := Lib.hid (by
                simp only [Sc.sayOk, HSY.out, hGd, hst, hs0, Bool.true_and]
                rw [decide_eq_true hn64, decide_eq_true hn1] <;> rfl)
              clear hst hs0 hemp hx0 hfs hel0 hsu0 hbv0 hall hdf0 hGd hgood HG hlen0
              go_wp2_with fail
              go_loopw [84] (fun iv wx => ∃ j : Nat, j ≤ s.funs.length ∧ iv = .int .i64 j ∧ ScKept s (.slice A0 n0 c0) (.slice (some ad) s.funs.length c) hi w.heap.size w wx ∧ (s.funs.take j).all s.typed = true) (fun iv _ => s.funs.length - (intOf iv).toNat)
              case atStart => exact ⟨0, Nat.zero_le _, rfl, hkp, by simp⟩
              case round =>
                obtain ⟨j, hj, rfl, hkq, hty⟩ := hrel
                have hbq := hkq.b.lt
                have hhq := hkq.hi
                by_cases hlt : j < s.funs.length
                · have hx : s.funs[j]? = some s.funs[j] := List.getElem?_eq_getElem hlt
                  obtain ⟨ad', u, v, had', hPa', hel, hsu, hbv, hsx⟩ := fn_el hrd hrow hx
                  cases had'
                  obtain ⟨r0, r1, r2, r3, r4⟩ := hel.keep (hkq.bel.block _ (by omega))
                  have hmem : s.funs[j] ∈ s.funs := List.getElem_mem hlt
                  have hpok : (s.pl s.funs[j]).ok = true := by
                    simp only [Pl.ok, Sc.pl, Bool.and_eq_true]
                    refine ⟨HSY.out, ?_, S.ok_args (HALL.out _ hmem).1⟩
                    simp only [sortsB, Sc.sorts, List.length_map, Bool.and_eq_true, decide_eq_true_eq, List.all_eq_true, List.mem_map]
                    exact ⟨hn64, fun x ⟨g, hg, e⟩ => e ▸ (HALL.out g hg).1⟩
                  have HP := Lib.hid (fun W (h1 : ScIn W hi s (.slice A0 n0 c0) (.slice (some ad) s.funs.length c)) (h2 : hi ≤ W.heap.size) => refPlaceS_any s (.slice A0 n0 c0) (.slice (some ad) s.funs.length c) W hi h1 h2 (by omega) j s.funs[j] hx)
                  obtain ⟨A4, n4, c4, rfl⟩ := hsu.form
                  obtain ⟨A5, n5, c5, rfl⟩ := hbv.form
                  have HO := Lib.hid (fun vf vp W hi2 (h1 : PlIn W 0 hi2 (s.pl s.funs[j]) (.slice A0 n0 c0) vf vp) (h2 : hi2 ≤ W.heap.size) (h3 : s.funs[j].body.In W (fun b => b < hi) (.slice A5 n5 c5)) (h4 : Old (fun b => b < hi) W) => refOfS_any (s.pl s.funs[j]) hpok (.slice A0 n0 c0) vf vp s.funs[j].body (.slice A5 n5 c5) W hi2 (fun b => b < hi) h1 h2 h3 h4)
                  have hTY : ∀ (o : Option S), o = s.funs[j].body.ty (s.pl s.funs[j]).pick → s.typed s.funs[j] = (o.isSome && decide ((o.getD (.mk [])).args.length = 0)) := by
                    rintro o rfl
                    unfold Sc.typed
                    cases s.funs[j].body.ty (s.pl s.funs[j]).pick with
                    | none => rfl
                    | some y => cases hy : y.args <;> simp [hy]
                  have HTY := Lib.hid (hTY _ rfl)
                  have HSU : Hid (s.typed s.funs[j] = true → (s.funs.take (j + 1)).all s.typed = true) := Lib.hid (fun h => by rw [List.take_add_one, hx, List.all_append, hty]; simp [h])
                  have HNO : Hid (s.typed s.funs[j] = false → s.funs.all s.typed = false) := Lib.hid (fun h => by
                    rw [Bool.eq_false_iff]
                    intro hh
                    rw [List.all_eq_true] at hh
                    have := hh _ hmem
                    rw [h] at this; cases this)
                  generalize hoo : s.funs[j].body.ty (s.pl s.funs[j]).pick = oo at *
                  generalize hbo : oo.isSome = bo at *
                  generalize hno : (oo.getD (.mk [])).args.length = no at *
                  have hpl : (⟨s.syms, s.sorts, s.funs[j].sort.args⟩ : Pl) = s.pl s.funs[j] := rfl
                  rw [hpl] at HP
                  generalize s.pl s.funs[j] = pl at *
                  generalize s.typed s.funs[j] = tyb at *
                  generalize s.funs[j] = x at *
                  clear hx hmem hpok hTY hoo hbo hno hpl hel hty
                  have bx : Below wr.heap.size wr (wr.alloc (.cells #[.string x.name, .slice A4 n4 c4, .int .i64 x.body.kind, .int .i64 x.body.num, .slice A5 n5 c5] 55)) := (Below.refl _ _).alloc (Nat.le_refl _) _
                  have hk2 := hkq.next bx
                  have hbb := Blk.new wr 55 #[.string x.name, .slice A4 n4 c4, .int .i64 x.body.kind, .int .i64 x.body.num, .slice A5 n5 c5]
                  have HKN : Hid (∀ W W', (ScKept s (.slice A0 n0 c0) (.slice (some ad) s.funs.length c) hi w.heap.size w W ∧ Blk W wr.heap.size 55 #[.string x.name, .slice A4 n4 c4, .int .i64 x.body.kind, .int .i64 x.body.num, .slice A5 n5 c5]) → Below W.heap.size W W' →
                      (ScKept s (.slice A0 n0 c0) (.slice (some ad) s.funs.length c) hi w.heap.size w W' ∧ Blk W' wr.heap.size 55 #[.string x.name, .slice A4 n4 c4, .int .i64 x.body.kind, .int .i64 x.body.num, .slice A5 n5 c5])) := Lib.hid fun W W' h hb => ⟨h.1.next hb, h.2.below hb h.2.lt⟩
                  generalize hKK : (fun W => ScKept s (.slice A0 n0 c0) (.slice (some ad) s.funs.length c) hi w.heap.size w W ∧ Blk W wr.heap.size 55 #[.string x.name, .slice A4 n4 c4, .int .i64 x.body.kind, .int .i64 x.body.num, .slice A5 n5 c5]) = K
                  have of_ : ∀ W, K W → ScKept s (.slice A0 n0 c0) (.slice (some ad) s.funs.length c) hi w.heap.size w W ∧ Blk W wr.heap.size 55 #[.string x.name, .slice A4 n4 c4, .int .i64 x.body.kind, .int .i64 x.body.num, .slice A5 n5 c5] := fun W h => by rw [← hKK] at h; exact h
                  have hKn : ∀ W W', K W → Below W.heap.size W W' → K W' := fun W W' h hb => by
                    rw [← hKK] at h ⊢
                    exact HKN.out W W' h hb
                  have HCell : Hid (∀ W, K W → W.cell? ⟨w.heap.size, 0, none⟩ = some (.slice A0 n0 c0) ∧ W.cell? ⟨w.heap.size, 1, none⟩ = some (.slice (some ad) s.funs.length c) ∧ W.cell? ⟨wr.heap.size, 2, none⟩ = some (.int .i64 x.body.kind) ∧ W.cell? ⟨wr.heap.size, 3, none⟩ = some (.int .i64 x.body.num) ∧ W.cell? ⟨wr.heap.size, 4, none⟩ = some (.slice A5 n5 c5)) := Lib.hid fun W h => by
                    obtain ⟨h1, h2⟩ := of_ W h
                    have a0 := h1.b.cell 0
                    have a1 := h1.b.cell 1
                    have a2 := h2.cell 2
                    have a3 := h2.cell 3
                    have a4 := h2.cell 4
                    simp at a0 a1 a2 a3 a4
                    exact ⟨a0, a1, a2, a3, a4⟩
                  have HSK : Hid (∀ W, K W → ScKept s (.slice A0 n0 c0) (.slice (some ad) s.funs.length c) hi w.heap.size w W) := Lib.hid fun W h => (of_ W h).1
                  have HPL := Lib.hid (fun W (h : K W) => (HP.out W (of_ W h).1.i (by have := (of_ W h).1.b.lt; have := (of_ W h).1.hi; omega)).mono fun e w' ⟨vf, vp, he, hp, hb⟩ => (⟨vf, vp, he, hp, hb, hKn _ _ h hb⟩ : ∃ vf vp, e = Ending.returned (.agg #[.slice A0 n0 c0, vf, vp]) ∧ PlIn w' 0 w'.heap.size pl (.slice A0 n0 c0) vf vp ∧ Below W.heap.size W w' ∧ K w'))
                  have HOF := Lib.hid (fun vf vp W hi2 (h : K W) (hp : PlIn W 0 hi2 pl (.slice A0 n0 c0) vf vp) (h2 : hi2 ≤ W.heap.size) => (HO.out vf vp W hi2 hp h2 (T.In.below hbv ((of_ W h).1.bel.mono (by omega)) (fun _ h => by omega)) (fun b hb => by have := (of_ W h).1.b.lt; omega)).mono fun e w' ⟨A, cc, he, hb⟩ => (⟨A, cc, he, hb, hKn _ _ h hb⟩ : ∃ A cc, e = Ending.returned (.tuple #[.agg #[.slice A no cc], .bool bo]) ∧ Below W.heap.size W w' ∧ K w'))
                  have HKa : Hid (∀ W o, K W → K (W.alloc o)) := Lib.hid fun W o h => hKn _ _ h ((Below.refl _ _).alloc (Nat.le_refl _) _)
                  have HKd : Hid (∀ W, K W → K W.drew) := Lib.hid fun W h => hKn _ _ h (Below.refl _ _).drew
                  have k0' : K (wr.alloc (.cells #[.string x.name, .slice A4 n4 c4, .int .i64 x.body.kind, .int .i64 x.body.num, .slice A5 n5 c5] 55)) := by rw [← hKK]; exact ⟨hk2, hbb⟩
                  obtain ⟨l0, l1, l2, l3, l4⟩ := HCell.out _ k0'
                  have HKs : Hid (∀ W b v, K W → wr.heap.size + 1 ≤ b → K (W.setCell ⟨b, 0, none⟩ v)) := Lib.hid fun W b v h hb => by
                    obtain ⟨h1, h2⟩ := of_ W h
                    have hbl : Below (wr.heap.size + 1) W (W.setCell ⟨b, 0, none⟩ v) := (Below.refl _ _).setCell hb _
                    rw [← hKK]
                    exact ⟨⟨h1.b.below hbl (by omega), h1.i.below hbl (by omega), h1.hi, h1.bel.trans (hbl.mono (by omega))⟩, h2.below hbl (by omega)⟩
                  have hgs : wr.heap.size + 1 ≤ (wr.alloc (.cells #[.string x.name, .slice A4 n4 c4, .int .i64 x.body.kind, .int .i64 x.body.num, .slice A5 n5 c5] 55)).heap.size := by simp
                  clear hKK of_ hKn HKN HP HO hk2 hbb bx hkq hsu hbv
                  generalize hgb : wr.heap.size = gb at *
                  go_upto_region 20 with fail
                  generalize hw2 : (wr.alloc (.cells #[.string x.name, .slice A4 n4 c4, .int .i64 x.body.kind, .int .i64 x.body.num, .slice A5 n5 c5] 55)) = w2 at *
                  clear hw2 hgb r0 r1 r2 r3 r4
                  have kd := HKd.out _ k0'
                  have kad := HKd.out _ (HKa.out _ (.cells #[.slice none 0 0] 50) k0')
                  have ba := (Blk.new w2 50 #[.slice none 0 0]).drew
                  go_region_held3 (fun w' => w'.cell? ⟨w.heap.size, 0, none⟩ = some (.slice A0 n0 c0) ∧ w'.cell? ⟨w.heap.size, 1, none⟩ = some (.slice (some ad) s.funs.length c) ∧ w'.cell? ⟨gb, 2, none⟩ = some (.int .i64 x.body.kind) ∧ w'.cell? ⟨gb, 3, none⟩ = some (.int .i64 x.body.num) ∧ w'.cell? ⟨gb, 4, none⟩ = some (.slice A5 n5 c5))
                    (first
                      | assumption
                      | exact HCell.out _ (by assumption)
                      | exact HCell.out _ (HKs.out _ _ _ (by assumption) (by show gb + 1 ≤ _; omega))
                      | go_keep)
                    (first
                    | (go_at_call 52
                       first
                       | ((with_reducible refine (HPL.out _ kd).mono ?_); rintro e W3 ⟨vf, vp, rfl, hp3, b3, K3⟩; have C3 := HCell.out _ K3; have hz3 : w2.heap.size ≤ W3.heap.size := (by have h := b3.size; have e : w2.drew.heap.size = w2.heap.size := rfl; omega); have hB3 : True := trivial)
                       | ((with_reducible refine (HPL.out _ kad).mono ?_); rintro e W3 ⟨vf, vp, rfl, hp3, b3, K3⟩; have C3 := HCell.out _ K3; have hz3 : w2.heap.size ≤ W3.heap.size := (by have h := b3.size; have e : (w2.alloc (.cells #[.slice none 0 0] 50)).drew.heap.size = (w2.alloc (.cells #[.slice none 0 0] 50)).heap.size := rfl; simp only [World.size_alloc] at e h; omega); have hB3 := ba.below b3 ba.lt))
                    | (go_at_call 51
                       first
                       | ((with_reducible refine (HOF.out _ _ _ _ K3 hp3 (Nat.le_refl _)).mono ?_); rintro e W4 ⟨AA, cc, rfl, b4, K4⟩; have C4 := HCell.out _ K4; first | (have hB4 := hB3.below b4 hB3.lt; have x0 := hB4.cell 0; have y0 := hB4.frozen 0; simp at x0) | have hB4 : True := trivial)
                       | ((with_reducible refine (HOF.out _ _ _ _ (HKa.out _ _ K3) (hp3.below ((Below.refl _ _).alloc (Nat.le_refl _) _) (Nat.le_refl _)) (by simp)).mono ?_); rintro e W4 ⟨AA, cc, rfl, b4, K4⟩; have C4 := HCell.out _ K4; have hB4 := (Blk.new W3 50 #[.slice none 0 0]).below b4 (by simp); have x0 := hB4.cell 0; have y0 := hB4.frozen 0; simp at x0)))
                  all_goals
                    first | (have z1 := (hB4.set_ 0 (.slice AA no cc)).cell 0; simp at z1) | skip
                    cases bo with
                    | false =>
                      have HE : Hid (s.sayOk = false) := Lib.hid (HF.out.trans (HNO.out (by rw [HTY.out] <;> rfl)))
                      go_wp2_with fail
                      go_ret
                      exact ⟨by rw [HE.out] <;> rfl, (HSK.out _ (by first | exact HKa.out _ _ K4 | exact HKs.out _ _ _ K4 (by omega))).bel⟩
                    | true =>
                      by_cases hn : no = 0
                      · subst hn
                        have HT := Lib.hid (HSU.out (by rw [HTY.out] <;> rfl))
                        go_wp2_with fail
                        go_roundw
                        case rel => exact ⟨j + 1, by omega, by go_num, HSK.out _ (by first | exact HKa.out _ _ K4 | exact HKs.out _ _ _ K4 (by omega)), HT.out⟩
                        case measure => simp [intOf]; omega
                      · have HE : Hid (s.sayOk = false) := Lib.hid (HF.out.trans (HNO.out (by rw [HTY.out]; simp [hn])))
                        have hd5 : decide ((0 : Int) < (no : Int)) = true := decide_eq_true (by omega)
                        go_wp2_with fail
                        go_ret
                        exact ⟨by rw [HE.out] <;> rfl, (HSK.out _ (by first | exact HKa.out _ _ K4 | exact HKs.out _ _ _ K4 (by omega))).bel⟩
                · have hta : s.funs.all s.typed = true := by
                    rw [List.take_of_length_le (by omega)] at hty
                    exact hty
                  have HE := Lib.hid (HF.out.trans hta)
                  clear hta hty
                  go_wp2_with fail
                  go_ret
                  exact ⟨by rw [HE.out] <;> rfl, hkq.bel⟩
      · have HE : Hid (s.sayOk = false) := Lib.hid (by simp [Sc.sayOk, hn64])
        have hd1 : decide ((s.funs.length : Int) < 1) = false := decide_eq_false (by omega)
        have hd2 : decide ((64 : Int) < (s.funs.length : Int)) = true := decide_eq_true (by omega)
        clear hS
        go_enter Tryz.func20, Tryz.ntmps20
        go_wp2_with fail
        refine HSy.out.mono ?_
        rintro e w1 ⟨rfl, b1⟩
        have k1 := k0.next b1
        have e1 := k1.b.cell 1
        simp at e1
        go_wp2_with fail
        go_ret
        exact ⟨by rw [HE.out] <;> rfl, k1.bel⟩
    · have hz : s.funs.length = 0 := by omega
      have HE : Hid (s.sayOk = false) := Lib.hid (by simp [Sc.sayOk, hz])
      have hd1 : decide ((s.funs.length : Int) < 1) = true := decide_eq_true (by omega)
      clear hS hz hn1
      go_enter Tryz.func20, Tryz.ntmps20
      go_wp2_with fail
      refine HSy.out.mono ?_
      rintro e w1 ⟨rfl, b1⟩
      have k1 := k0.next b1
      have e1 := k1.b.cell 1
      simp at e1
      go_wp2_with fail
      go_ret
      exact ⟨by rw [HE.out] <;> rfl, k1.bel⟩

end Go.Proofs.YtkkfdiidneoelaaGreatDoor
