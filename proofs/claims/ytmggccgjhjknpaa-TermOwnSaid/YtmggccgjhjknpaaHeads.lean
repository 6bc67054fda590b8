/-
  term.symbolSorts, term.headsOf, (term.heads).head: contracts.
-/
import Derived.Test.YtmggccgjhjknpaaSort
import Derived.Deep.AppendLies
namespace Go.Proofs.Ytmggccgjhjknpaa
open Go.RowKit

theorem S.In_drewN {w : World} {lo hi : Nat} {s : S} {v : Value} (h : s.In w lo hi v) (n : Nat) : s.In (w.drewN n) lo hi v := S.In.keep (w := w) (w' := w.drewN n) (fun _ _ _ => rfl) s h
/-- The sort of a symbol of a rank. -/
def rankS (r : Nat) : S := .mk (List.replicate r (.mk []))
/-- A slice of its own that holds the sorts of symbols of these ranks. -/
structure RankRow (B : Nat) (w : World) (l : List Nat) (v : Value) (us : List Value) : Prop where
  own : w.ownsRow B 40 1 v l.length us
  el : ∀ (j r : Nat), l[j]? = some r → ∃ g, us[j]? = some (.slice (some ⟨g, 0, none⟩) r r) ∧ B ≤ g ∧ g < w.heap.size ∧ v.ownBlock ≠ some g ∧ Blk w g 40 (madeCells #[.slice none 0 0] r)
theorem sort_info2 : (Try.prog.info? 40).map (fun i => (i.zero, i.size, i.bytes)) = some (some (.agg #[.slice none 0 0]), 1, 24) := by kernel_rfl
theorem made_at {r j : Nat} (h : j < r) : (madeCells #[.slice none 0 0] r)[j]? = some (.slice none 0 0) := by
  simp [madeCells, h, Nat.mod_one]
theorem S.In_ranks {w : World} {lo hi g r : Nat} (hr : r ≤ 100) (h : Blk w g 40 (madeCells #[.slice none 0 0] r)) (h1 : lo ≤ g) (h2 : g < hi) : (rankS r).In w lo hi (.slice (some ⟨g, 0, none⟩) r r) := by
  simp only [rankS, S.In]
  refine ⟨_, _, _, rfl, by simp, Nat.le_refl _, by omega, S.All.mk_ fun j x hx => ?_⟩
  rw [List.getElem?_replicate] at hx
  split at hx
  · rename_i hj
    cases hx
    refine ⟨_, _, rfl, h1, h2, ?_, S.In_nil⟩
    have hadd : (⟨g, 0, none⟩ : Addr).add (0 + j) = ⟨g, j, none⟩ := by unfold Addr.add; split <;> simp_all
    rw [hadd, h.cell, made_at hj]
  · cases hx
theorem RankRow.in_ {B : Nat} {w : World} {l : List Nat} {v : Value} {us : List Value} (h : RankRow B w l v us) (hl : ∀ r ∈ l, r ≤ 100) : (S.mk (l.map rankS)).In w B w.heap.size v := by
  simp only [S.In]
  rcases h.own.2 with ⟨rfl, h0⟩ | ⟨g, cap, cur, rfl, h1, h2, h3, h4, h5, h6⟩
  · have : l = [] := List.eq_nil_of_length_eq_zero h0
    subst this
    exact ⟨_, _, _, rfl, rfl, Nat.le_refl _, by omega, by simp [S.All]⟩
  · refine ⟨_, _, _, rfl, by simp, h3, by simpa [maxLen] using h4, S.All.mk_ fun j x hx => ?_⟩
    rw [List.getElem?_map, Option.map_eq_some_iff] at hx
    obtain ⟨r, hr, rfl⟩ := hx
    obtain ⟨g', e1, e2, e3, _, e5⟩ := h.el j r hr
    have hg := World.ownsRow.lt h.own g rfl
    refine ⟨_, _, rfl, hg.1, hg.2, ?_, S.In_ranks (hl r (List.mem_of_getElem? hr)) e5 e2 e3⟩
    rw [Nat.zero_add]
    exact World.ownsRow.cells h.own (g := g) rfl j _ e1
theorem RankRow.form {B : Nat} {w : World} {l : List Nat} {v : Value} {us : List Value} (h : RankRow B w l v us) : ∃ A c, v = .slice A l.length c := by
  rcases h.own.2 with ⟨rfl, h0⟩ | ⟨g, cap, cur, rfl, _⟩
  · exact ⟨none, 0, by rw [h0]⟩
  · exact ⟨_, cap, rfl⟩
theorem owns_kept1 {w w' : World} {base : Nat} {e : TypeId} {size : Nat} {v : Value} {n : Nat} {xs : List Value} (h : w.ownsRow base e size v n xs) (hk : ∀ b, v.ownBlock = some b → w'.heap[b]? = w.heap[b]?) : w'.ownsRow base e size v n xs := owns_kept3 h hk
theorem RankRow.push {B : Nat} {wr w1 w2 : World} {l : List Nat} {v : Value} {us : List Value} (h : RankRow B wr l v us) (hBr : B ≤ wr.heap.size) (hk : ∀ b, b < wr.heap.size → w1.heap[b]? = wr.heap[b]?) (hz : wr.heap.size ≤ w1.heap.size)
    {gx r : Nat} (hgx : wr.heap.size ≤ gx) (hgx2 : gx < w1.heap.size) (hbx : Blk w1 gx 40 (madeCells #[.slice none 0 0] r)) {o1 : Obj} {g cap : Nat}
    (hown2 : w2.ownsRow B 40 1 (.slice (some ⟨g, 0, none⟩) (l.length + 1) cap) (l.length + 1) (us ++ [.slice (some ⟨gx, 0, none⟩) r r])) (hgrow : (w1.alloc o1).grownBy w2 v.ownBlock)
    (hat : v.ownBlock = some g ∨ g = w1.heap.size + 1) : RankRow B w2 (l ++ [r]) (.slice (some ⟨g, 0, none⟩) (l.length + 1) cap) (us ++ [.slice (some ⟨gx, 0, none⟩) r r]) := by
  have hgs := hgrow.size
  simp only [World.size_alloc] at hgs
  have hfar : ∀ b, b < w1.heap.size → v.ownBlock ≠ some b → w2.heap[b]? = w1.heap[b]? := fun b hb' hne => by
    rw [hgrow.block b (by simp; omega) (fun e => hne e.symm), Below.heap_alloc _ _ _ hb']
  have hvlt : ∀ b, v.ownBlock = some b → b < wr.heap.size := fun b hb' => (World.ownsRow.lt h.own b hb').2
  have hul : us.length = l.length := by simpa using h.own.1
  refine ⟨by rw [List.length_append]; exact hown2, fun j r' hj => ?_⟩
  rcases Nat.lt_or_ge j l.length with hlt | hge
  · rw [List.getElem?_append_left hlt] at hj
    obtain ⟨g', e1, e2, e3, e4, e5⟩ := h.el j r' hj
    refine ⟨g', by rw [List.getElem?_append_left (by omega)]; exact e1, e2, by omega, fun e => ?_, (hfar g' (by omega) e4).trans ((hk g' e3).trans e5)⟩
    have e' : g = g' := by simpa [Value.ownBlock] using e
    rcases hat with ha | ha
    · exact e4 (by rw [ha, e'])
    · omega
  · rw [List.getElem?_append_right hge] at hj
    have hj0 : j - l.length = 0 := by
      rcases Nat.eq_zero_or_pos (j - l.length) with h0 | h0
      · exact h0
      · rw [List.getElem?_eq_none (by simp; omega)] at hj; cases hj
    rw [hj0] at hj
    simp at hj
    subst hj
    refine ⟨gx, by rw [List.getElem?_append_right (by omega), hul, hj0]; rfl, by omega, by omega, fun e => ?_, (hfar gx hgx2 (fun e => by have := hvlt gx e; omega)).trans hbx⟩
    have e' : g = gx := by simpa [Value.ownBlock] using e
    rcases hat with ha | ha
    · have := hvlt g ha; omega
    · omega

/-- Ranks, as numbers. -/
def ranksOf (l : List Sy) : List Nat := l.map fun x => x.rank.toNat
set_option maxRecDepth 100000 in
set_option maxHeartbeats 1600000 in
theorem symbolSorts_any (l : List Sy) (v : Value) (w : World) (P : Nat → Prop) (hin : SyIn w P l v) (hold : Old P w) (h24 : l.length ≤ 24) (hr : ∀ x ∈ l, 0 ≤ x.rank ∧ x.rank ≤ 4) :
    Calls Try.prog 79 #[v] w fun e w' => ∃ v us, e = .returned v ∧ RankRow w.heap.size w' (ranksOf l) v us ∧ Below w.heap.size w w' := by
  obtain ⟨i0, hi0, hz0, hz1, hz2⟩ := info_parts sort_info2
  obtain ⟨A, _, c, rfl, rfl, hnc, hc, hrd, hsz⟩ := hin
  have hmk := fun W (r : Nat) (h4 : r ≤ 4) => run_make (P := Try.prog) W 23 40 i0 _ Try.underlying23 hi0 hz0 .i64 .i64 (r : Int) (r : Int) (by omega) (by omega) (by rw [hz2]; omega) (by omega)
  simp only [hz1, Int.toNat_natCast, Nat.mul_one] at hmk
  have HMK := Lib.hid hmk
  have HZ1 := Lib.hid hz1
  have HZ2 := Lib.hid hz2
  clear hmk
  go_enter Try.func79, Try.ntmps79
  go_wp2_with fail
  go_loopw [8, 3] (fun i v wr => ∃ (k : Nat) (us : List Value), k ≤ l.length ∧ i = .int .i64 k ∧ RankRow w.heap.size wr (ranksOf (l.take k)) v us ∧ Below w.heap.size w wr) (fun i _ _ => l.length - (intOf i).toNat)
  case atStart => exact ⟨0, [], Nat.zero_le _, rfl, ⟨⟨by simp [ranksOf], .inl ⟨rfl, by simp [ranksOf]⟩⟩, fun j r hj => by simp [ranksOf] at hj⟩, Below.refl _ _⟩
  case round =>
    obtain ⟨k, us, hk, rfl, hrr, hbel⟩ := hrel
    have hzr := hbel.size
    by_cases hlt : k < l.length
    · have hx : l[k]? = some l[k] := List.getElem?_eq_getElem hlt
      obtain ⟨ad, rfl, hPa, hel⟩ := sy_el hrd hx
      obtain ⟨r0, r1⟩ := hel.keep (hbel.block _ (hold _ hPa))
      have hrk := hr l[k] (List.getElem_mem hlt)
      have hsnoc : ranksOf (l.take (k + 1)) = ranksOf (l.take k) ++ [l[k].rank.toNat] := by unfold ranksOf; rw [List.take_add_one, hx, List.map_append]; rfl
      have hlk : (ranksOf (l.take k)).length = k := by simp [ranksOf]; omega
      generalize ranksOf (l.take k) = rl at *
      generalize l[k] = x at *
      obtain ⟨name, rank⟩ := x
      simp only at *
      obtain ⟨r, rfl⟩ : ∃ r : Nat, rank = (r : Int) := ⟨rank.toNat, by omega⟩
      have h4 : r ≤ 4 := by omega
      rw [Int.toNat_natCast] at hsnoc
      have HS := Lib.hid hsnoc
      have HL := Lib.hid hlk
      have hmake := HMK.out ((wr.alloc (.cells #[.string name, .int .i64 (r : Int)] 66))) r h4
      have hvl : ∀ b, u3.ownBlock = some b → w.heap.size ≤ b ∧ b < wr.heap.size := fun b hb => World.ownsRow.lt hrr.own b hb
      have hbx : Blk ((wr.alloc (.cells #[.string name, .int .i64 (r : Int)] 66)).alloc (.cells (madeCells #[.slice none 0 0] r) 40)) (wr.heap.size + 1) 40 (madeCells #[.slice none 0 0] r) := by
        simpa using Blk.new (wr.alloc (.cells #[.string name, .int .i64 (r : Int)] 66)) 40 (madeCells #[.slice none 0 0] r)
      have hk1 : ∀ b, b < wr.heap.size → ((wr.alloc (.cells #[.string name, .int .i64 (r : Int)] 66)).alloc (.cells (madeCells #[.slice none 0 0] r) 40)).heap[b]? = wr.heap[b]? := fun b hb => by
        rw [Below.heap_alloc _ _ _ (by simp; omega), Below.heap_alloc _ _ _ hb]
      have hmz : (Value.agg #[Value.slice none 0 0]).cells = #[.slice none 0 0] := rfl
      rw [hmz] at hmake
      have hown1 : ((wr.alloc (.cells #[.string name, .int .i64 (r : Int)] 66)).alloc (.cells (madeCells #[.slice none 0 0] r) 40)).ownsRow w.heap.size 40 1 u3 rl.length us := owns_kept3 hrr.own (fun b hb => hk1 b (hvl b hb).2)
      have hw2z : ((wr.alloc (.cells #[.string name, .int .i64 (r : Int)] 66)).alloc (.cells (madeCells #[.slice none 0 0] r) 40)).heap.size = wr.heap.size + 2 := by simp
      generalize hmc : madeCells #[Value.slice none 0 0] r = mc at *
      have HMC := Lib.hid hmc
      clear hx hel hsnoc hlk hmz hmc
      have HW2 := Lib.hid hw2z
      clear hw2z
      go_wp2_with
        (at_builtin
         refine wpList_append_lies _ rfl _ _ _ rfl w.heap.size 40 i0 _ 1 24 Try.underlying23 hi0 hz0 HZ1.out HZ2.out rfl (by omega) u3 _ us (by rfl) (hown1.alloc _)
           ⟨wr.heap.size + 1 + 1, 0, none⟩ 1 1 [.slice (some ⟨wr.heap.size + 1, 0, none⟩) r r] (by rfl) (by rfl) (World.news_of_block (cs := #[.slice (some ⟨wr.heap.size + 1, 0, none⟩) r r]) (t := 40) (fr := (0, 0)) (by simpa using heap_alloc_new ((wr.alloc (.cells #[.string name, .int .i64 (r : Int)] 66)).alloc (.cells mc 40)) _)) (fun u hu => by rw [List.mem_singleton.1 hu]; rfl) (by omega) (by rw [HL.out]; simp only [maxLen]; omega) (by rw [HL.out]; omega) (by simp; omega) (wr.heap.size + 2 + 1) (by simp) ?_
         intro gg cap2 w3 hown3 hgrow hat3 hlt3)
      go_roundw
      case rel =>
        refine ⟨k + 1, us ++ [.slice (some ⟨wr.heap.size + 1, 0, none⟩) r r], by omega, by go_num, ?_, ?_⟩
        · rw [HS.out]
          exact hrr.push (gx := wr.heap.size + 1) (by omega) hk1 (by rw [HW2.out]; omega) (by omega) (by rw [HW2.out]; omega) (by rw [HMC.out]; exact hbx) hown3 hgrow (by rw [HW2.out]; exact hat3)
        · exact (((hbel.alloc (by omega) _).alloc (by simp; omega) _).alloc (by simp; omega) _).grown hgrow (by simp; omega) (fun b hb => (hvl b hb).1)
      case measure => simp [intOf]; omega
    · have hll : l.take k = l := List.take_of_length_le (by omega)
      rw [hll] at hrr
      clear hll
      go_wp2_with fail
      go_ret
      exact ⟨_, _, rfl, hrr, hbel⟩

theorem head_results {tmps : Array Value} {w : World} {a : Nat} {x u : Value} (h2 : tmps.getD 4 undef = .pointer (some ⟨a, 0, none⟩)) (h3 : tmps.getD 5 undef = u)
    (ha : Blk w a 40 #[x]) : (results Try.f80 tmps).run Try.prog w = .ok (.tuple #[.agg #[x], u]) w := by
  have h4 := ha.cell 0
  simp at h4
  have h2' : tmps[4]?.getD undef = .pointer (some ⟨a, 0, none⟩) := by simpa using h2
  have h3' : tmps[5]?.getD undef = u := by simpa using h3
  simp [results, Try.results80, go_sem, h2', h3', h4]
/-- Three lists of sorts: two below block h, the third one between blocks lo2 and h2. -/
structure Heads (h lo2 h2 : Nat) (l0 l1 l2 : List S) (p0 p1 p2 : Value) (w : World) : Prop where
  i0 : (S.mk l0).In w 0 h p0
  i1 : (S.mk l1).In w 0 h p1
  i2 : (S.mk l2).In w lo2 h2 p2
  hh : h ≤ w.heap.size
  hh2 : h2 ≤ w.heap.size
theorem Heads.below {h lo2 h2 : Nat} {l0 l1 l2 : List S} {p0 p1 p2 : Value} {w w' : World} (hs : Heads h lo2 h2 l0 l1 l2 p0 p1 p2 w) (hb : Below w.heap.size w w') : Heads h lo2 h2 l0 l1 l2 p0 p1 p2 w' :=
  ⟨hs.i0.below hb hs.hh, hs.i1.below hb hs.hh, hs.i2.below hb hs.hh2, Nat.le_trans hs.hh hb.size, Nat.le_trans hs.hh2 hb.size⟩
/-- Where heads' sorts lie. -/
def HeadsR (h lo2 h2 lo hi : Nat) : Prop := (lo = 0 ∧ hi = h) ∨ (lo = lo2 ∧ hi = h2)

set_option maxRecDepth 100000 in
set_option maxHeartbeats 3200000 in
theorem head_any (h lo2 h2 : Nat) (l0 l1 l2 : List S) (p0 p1 p2 : Value) (x : T) (v : Value) (w : World) (P : Nat → Prop) (hs : Heads h lo2 h2 l0 l1 l2 p0 p1 p2 w) (hin : x.In w P v) (_hold : Old P w) :
    Calls Try.prog 80 #[.agg #[p0, p1, p2], .agg #[.int .i64 x.kind, .int .i64 x.num, v]] w (Found (HeadsR h lo2 h2) (pickH l0 l1 l2 x.kind x.num) w) := by
  have hs' := hs
  obtain ⟨g0, g1, g2, hh, hh2⟩ := hs
  simp only [S.In] at g0 g1 g2
  obtain ⟨A0, n0, c0, rfl, hn0, hc0, hm0, a0⟩ := g0
  obtain ⟨A1, n1, c1, rfl, hn1, hc1, hm1, a1⟩ := g1
  obtain ⟨A2, n2, c2, rfl, hn2, hc2, hm2, a2⟩ := g2
  obtain ⟨A, n, c, rfl⟩ := hin.form
  obtain ⟨kd, nm, l⟩ := x
  simp only [T.kind, T.num]
  have hw3 : Below w.heap.size w (((w.alloc (.cells #[.slice A0 n0 c0, .slice A1 n1 c1, .slice A2 n2 c2] 72)).alloc (.cells #[.int .i64 kd, .int .i64 nm, .slice A n c] 35)).alloc (.cells #[.slice none 0 0] 40)) := (((Below.refl _ _).alloc (Nat.le_refl _) _).alloc (by simp) _).alloc (by simp; omega) _
  have bR : Blk (((w.alloc (.cells #[.slice A0 n0 c0, .slice A1 n1 c1, .slice A2 n2 c2] 72)).alloc (.cells #[.int .i64 kd, .int .i64 nm, .slice A n c] 35)).alloc (.cells #[.slice none 0 0] 40)) (w.heap.size + 1 + 1) 40 #[.slice none 0 0] := by
    simpa using Blk.new ((w.alloc (.cells #[.slice A0 n0 c0, .slice A1 n1 c1, .slice A2 n2 c2] 72)).alloc (.cells #[.int .i64 kd, .int .i64 nm, .slice A n c] 35)) 40 #[.slice none 0 0]
  by_cases k0 : kd < 0
  · have HF : Hid (pickH l0 l1 l2 kd nm = none) := Lib.hid (by
      have h1 : kd ≠ 0 := by omega
      have h2 : kd ≠ 1 := by omega
      have h3 : kd ≠ 2 := by omega
      simp [pickH, h1, h2, h3])
    have e1 : decide (kd < 0) = true := decide_eq_true k0
    clear hn0 hn1 hn2
    go_enter Try.func80, Try.ntmps80
    go_wp2_with fail
    go_quiet (fail)
    go_wp2
    rw [HF.out]
    exact bodyPost_ret (head_results rfl rfl ((bR.drewN _).set_ 0 _)) rfl ⟨_, rfl, S.At_nil, (below_drewN hw3 _).setCell (by simp; omega) _⟩
  · have e1 : decide (kd < 0) = false := decide_eq_false k0
    by_cases k3 : 3 ≤ kd
    · have HF : Hid (pickH l0 l1 l2 kd nm = none) := Lib.hid (by
        have h1 : kd ≠ 0 := by omega
        have h2 : kd ≠ 1 := by omega
        have h3 : kd ≠ 2 := by omega
        simp [pickH, h1, h2, h3])
      have e2 : decide (3 ≤ kd) = true := decide_eq_true k3
      clear hn0 hn1 hn2
      go_enter Try.func80, Try.ntmps80
      go_wp2_with fail
      go_quiet (fail)
      go_wp2
      rw [HF.out]
      exact bodyPost_ret (head_results rfl rfl ((bR.drewN _).set_ 0 _)) rfl ⟨_, rfl, S.At_nil, (below_drewN hw3 _).setCell (by simp; omega) _⟩
    · have e2 : decide (3 ≤ kd) = false := decide_eq_false k3
      by_cases hneg : nm < 0
      · have HF : Hid (pickH l0 l1 l2 kd nm = none) := Lib.hid (by simp [pickH, hneg])
        have e3 : decide (nm < 0) = true := decide_eq_true hneg
        clear hn0 hn1 hn2
        go_enter Try.func80, Try.ntmps80
        go_wp2_with fail
        go_quiet (fail)
        go_wp2
        rw [HF.out]
        exact bodyPost_ret (head_results rfl rfl ((bR.drewN _).set_ 0 _)) rfl ⟨_, rfl, S.At_nil, (below_drewN hw3 _).setCell (by simp; omega) _⟩
      · obtain ⟨j, rfl⟩ : ∃ j : Nat, nm = (j : Int) := ⟨nm.toNat, by omega⟩
        have e3 : decide ((j : Int) < 0) = false := decide_eq_false (by omega)
        have hkk : kd = 0 ∨ kd = 1 ∨ kd = 2 := by omega
        clear e1 e2 k0 k3 hneg
        rcases hkk with rfl | rfl | rfl
        · by_cases hj : n0 ≤ j
          · have HF : Hid (pickH l0 l1 l2 0 (j : Int) = none) := Lib.hid (by simp [pickH]; omega)
            have e4 : decide (n0 ≤ j) = true := decide_eq_true hj
            clear hn0 hn1 hn2
            go_enter Try.func80, Try.ntmps80
            go_wp2_with fail
            go_quiet (fail)
            go_wp2
            rw [HF.out]
            exact bodyPost_ret (head_results rfl rfl ((bR.drewN _).set_ 0 _)) rfl ⟨_, rfl, S.At_nil, (below_drewN hw3 _).setCell (by simp; omega) _⟩
          · skip
            have hlt : j < l0.length := by omega
            have hx : l0[j]? = some l0[j] := List.getElem?_eq_getElem hlt
            have HF : Hid (pickH l0 l1 l2 0 (j : Int) = some l0[j]) := Lib.hid (by simp [pickH, hlt])
            obtain ⟨ad, u, rfl, _, hlt2, hcl, hinx⟩ := a0.at_ hx
            rw [Nat.zero_add] at hcl
            have hcl3 := (hw3.cell (p := ad.add j) (by rw [block_of_add]; omega)).trans hcl
            obtain ⟨A7, n7, c7, rfl⟩ := hinx.form
            have hin7 := hinx.below hw3 hh
            generalize l0[j] = y at *
            have hjn : j < n0 := by omega
            have e4 : decide (n0 ≤ j) = false := decide_eq_false (by omega)
            clear hx hcl hn0 hn1 hn2
            go_enter Try.func80, Try.ntmps80
            go_wp2_with fail
            go_quiet (fail)
            go_wp2
            go_region
            go_wp2
            rw [HF.out]
            exact bodyPost_ret (head_results rfl rfl (((bR.drewN _).set_ 0 _))) rfl ⟨_, rfl, ⟨0, h, S.In_set (S.In_drewN hin7 _) (.inr (by omega)), .inl (.inl ⟨rfl, rfl⟩), by simp [World.setCell]; omega⟩, (below_drewN hw3 _).setCell (by simp; omega) _⟩
        · by_cases hj : n1 ≤ j
          · have HF : Hid (pickH l0 l1 l2 1 (j : Int) = none) := Lib.hid (by simp [pickH]; omega)
            have e4 : decide (n1 ≤ j) = true := decide_eq_true hj
            clear hn0 hn1 hn2
            go_enter Try.func80, Try.ntmps80
            go_wp2_with fail
            go_quiet (fail)
            go_wp2
            rw [HF.out]
            exact bodyPost_ret (head_results rfl rfl ((bR.drewN _).set_ 0 _)) rfl ⟨_, rfl, S.At_nil, (below_drewN hw3 _).setCell (by simp; omega) _⟩
          · skip
            have hlt : j < l1.length := by omega
            have hx : l1[j]? = some l1[j] := List.getElem?_eq_getElem hlt
            have HF : Hid (pickH l0 l1 l2 1 (j : Int) = some l1[j]) := Lib.hid (by simp [pickH, hlt])
            obtain ⟨ad, u, rfl, _, hlt2, hcl, hinx⟩ := a1.at_ hx
            rw [Nat.zero_add] at hcl
            have hcl3 := (hw3.cell (p := ad.add j) (by rw [block_of_add]; omega)).trans hcl
            obtain ⟨A7, n7, c7, rfl⟩ := hinx.form
            have hin7 := hinx.below hw3 hh
            generalize l1[j] = y at *
            have hjn : j < n1 := by omega
            have e4 : decide (n1 ≤ j) = false := decide_eq_false (by omega)
            clear hx hcl hn0 hn1 hn2
            go_enter Try.func80, Try.ntmps80
            go_wp2_with fail
            go_quiet (fail)
            go_wp2
            go_region
            go_wp2
            rw [HF.out]
            exact bodyPost_ret (head_results rfl rfl (((bR.drewN _).set_ 0 _))) rfl ⟨_, rfl, ⟨0, h, S.In_set (S.In_drewN hin7 _) (.inr (by omega)), .inl (.inl ⟨rfl, rfl⟩), by simp [World.setCell]; omega⟩, (below_drewN hw3 _).setCell (by simp; omega) _⟩
        · by_cases hj : n2 ≤ j
          · have HF : Hid (pickH l0 l1 l2 2 (j : Int) = none) := Lib.hid (by simp [pickH]; omega)
            have e4 : decide (n2 ≤ j) = true := decide_eq_true hj
            clear hn0 hn1 hn2
            go_enter Try.func80, Try.ntmps80
            go_wp2_with fail
            go_quiet (fail)
            go_wp2
            rw [HF.out]
            exact bodyPost_ret (head_results rfl rfl ((bR.drewN _).set_ 0 _)) rfl ⟨_, rfl, S.At_nil, (below_drewN hw3 _).setCell (by simp; omega) _⟩
          · skip
            have hlt : j < l2.length := by omega
            have hx : l2[j]? = some l2[j] := List.getElem?_eq_getElem hlt
            have HF : Hid (pickH l0 l1 l2 2 (j : Int) = some l2[j]) := Lib.hid (by simp [pickH, hlt])
            obtain ⟨ad, u, rfl, _, hlt2, hcl, hinx⟩ := a2.at_ hx
            rw [Nat.zero_add] at hcl
            have hcl3 := (hw3.cell (p := ad.add j) (by rw [block_of_add]; omega)).trans hcl
            obtain ⟨A7, n7, c7, rfl⟩ := hinx.form
            have hin7 := hinx.below hw3 hh2
            generalize l2[j] = y at *
            have hjn : j < n2 := by omega
            have e4 : decide (n2 ≤ j) = false := decide_eq_false (by omega)
            clear hx hcl hn0 hn1 hn2
            go_enter Try.func80, Try.ntmps80
            go_wp2_with fail
            go_quiet (fail)
            go_wp2
            go_region
            go_wp2
            rw [HF.out]
            exact bodyPost_ret (head_results rfl rfl (((bR.drewN _).set_ 0 _))) rfl ⟨_, rfl, ⟨lo2, h2, S.In_set (S.In_drewN hin7 _) (.inr (by omega)), .inl (.inr ⟨rfl, rfl⟩), by simp [World.setCell]; omega⟩, (below_drewN hw3 _).setCell (by simp; omega) _⟩
end Go.Proofs.Ytmggccgjhjknpaa
