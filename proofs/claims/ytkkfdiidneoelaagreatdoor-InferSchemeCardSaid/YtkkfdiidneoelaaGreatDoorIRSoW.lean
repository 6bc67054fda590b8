/-
  The reference's Sorts: its walk.
-/
import Derived.Test.YtkkfdiidneoelaaGreatDoorIRSo
import Derived.Laws.MakeOwn
namespace Go.Proofs.YtkkfdiidneoelaaGreatDoor
open Go.RowKit

theorem zs_formR {B : Nat} {w : World} {l : List Nat} {v : Value} (h : Zs B w (nints l) v) : ∃ A c, v = .slice A l.length c := by
  obtain ⟨A, c, rfl, _, _⟩ := h.form
  exact ⟨A, c, by rw [nints_len]⟩
theorem own_formR {w : World} {B : Nat} {t : TypeId} {k n : Nat} {v : Value} {xs : List Value} (h : w.ownsRow B t k v n xs) : ∃ A m c, m = n ∧ v = .slice A n c := by
  rcases h.2 with ⟨rfl, h0⟩ | ⟨g, cap, cur, rfl, _⟩
  · exact ⟨none, n, 0, rfl, by rw [h0]⟩
  · exact ⟨_, n, cap, rfl, rfl⟩
theorem own_addr2 {w : World} {B n c : Nat} {A : Option Addr} {t : TypeId} {k : Nat} {xs : List Value} (h : w.ownsRow B t k (.slice A n c) n xs) (hn : 0 < n) : ∃ g, A = some ⟨g, 0, none⟩ ∧ B ≤ g ∧ g < w.heap.size := by
  have hl := h.lt
  rcases h.2 with ⟨e, hz⟩ | ⟨g, cap, cur, e, _⟩
  · omega
  · injection e with e1 e2 e3
    subst e1
    exact ⟨g, rfl, (hl g rfl).1, (hl g rfl).2⟩
theorem zs_own {B : Nat} {w : World} {l : List Nat} {v : Value} (h : Zs B w (nints l) v) : w.ownsRow B 3 1 v l.length ((nints l).map (Value.int .i64)) := by
  have h' := h
  unfold Zs at h'
  rwa [nints_len] at h'
theorem ranksOf_snoc {l : List Sy} {k : Nat} {x : Sy} (h : l[k]? = some x) : ranksOf (l.take (k + 1)) = ranksOf (l.take k) ++ [x.rank.toNat] := by
  rw [List.take_add_one, h]; simp [ranksOf]
theorem zeros_ints (r : Nat) : (List.replicate r (Value.int .i64 0)) = (nints (List.replicate r 0)).map (Value.int .i64) := by simp [nints]
/-- A made row of zeros. -/
theorem zs_zeros (W : World) (r : Nat) (hr : r ≤ maxLen) : Zs W.heap.size (W.alloc (.cells (madeCells #[Value.int .i64 0] r) 3)) (nints (List.replicate r 0)) (.slice (some ⟨W.heap.size, 0, none⟩) r r) := by
  have h := World.ownsRow_lit (base := W.heap.size) (e := 3) (size := 1) W (madeCells #[Value.int .i64 0] r) r (Nat.le_refl _) hr (by simp [madeCells])
  rw [toList_madeCells_one, zeros_ints] at h
  unfold Zs
  simpa [nints] using h

/-- The functions' nodes so far. -/
def R2 (syms : List Sy) (l : List Lz) (w : World) (p B : Nat) (pv i : Value) (wr : World) : Prop :=
  ∃ (k : Nat) (fs ss : List Nat) (qss : List (List Nat)) (G : Gr) (gv h1 h2 : Value) (pus : List Value), k ≤ l.length ∧ i = .int .i64 (k : Int) ∧ P2 ((l.take k).map Lz.lo) (ranksOf syms) fs ss qss G ∧ M2 w p B G gv fs ss qss (.slice none 0 0) h1 h2 pv pus wr
/-- One function's parameters' nodes so far. -/
def RF (w : World) (p B : Nat) (G : Gr) (fs ss : List Nat) (qss : List (List Nat)) (h1 h2 pv : Value) (pus : List Value) (n F : Nat) (fv i : Value) (wr : World) : Prop :=
  ∃ (j : Nat) (gv : Value), j ≤ n ∧ i = .int .i64 (j : Int) ∧ M2 w p B (opens G j) gv fs ss qss (.slice none 0 0) h1 h2 pv pus wr ∧ Zs F wr (nints (List.range' G.length j)) fv ∧ F ≤ wr.heap.size
theorem add_open {p : Nat} {G : Gr} {v : Value} {j : Nat} {w : World} (h : RG p w (opens G j) v) (hl : G.length + j ≤ 900000) :
    Calls Tryz.prog 71 #[.pointer (some (at0 p)), .int .i64 0, .int .i64 0, .int .i64 0] w fun e w' => ∃ z : Nat, z = G.length + j ∧ e = .returned (.int .i64 (z : Int)) ∧ ∃ v', RG p w' (opens G (j + 1)) v' ∧ RT p w v w' v' :=
  (addR_any p (opens G j) v .open_ 0 0 0 w rfl rfl rfl h (by rw [opens_len]; omega)).mono fun e w' ⟨he, v', h1, h2⟩ => ⟨_, by rw [opens_len], he, v', by rw [opens_succ]; exact h1, h2⟩

/-- The bodies so far. -/
def R4 (l : List Lz) (w : World) (p B : Nat) (fs ss : List Nat) (qss : List (List Nat)) (G0 : Gr) (h1 h2 pv : Value) (pus : List Value) (i : Value) (wr : World) : Prop :=
  ∃ (k : Nat) (G : Gr) (gv h0 : Value), k ≤ l.length ∧ i = .int .i64 (k : Int) ∧ Going (l.map Lz.lo) fs ss G0 k G ∧ G.length ≤ G0.length + 800 * k ∧ M2 w p B G gv fs ss qss h0 h1 h2 pv pus wr
/-- No assignment is there. -/
theorem sorts_none {syms : List Sy} {l : List Lz} {w w' : World} (hz : checkI syms l = 0) (h : Solves (l.map Lz.lo) (ranksOf syms) none) (hb : Below w.heap.size w w') : SortsPost syms l w (.returned (.tuple #[.slice none 0 0, .int .i64 6])) w' :=
  ⟨6, [], _, [], rfl, .inr ⟨hz, none, h, rfl, by simp [ansE]⟩, sepI_nil, .nil, fun b hb => by simp at hb, hb⟩

/-- The search for endless nodes so far. -/
def R5 (w : World) (p B : Nat) (G : Gr) (v : Nat → D) (gv : Value) (fs ss : List Nat) (qss : List (List Nat)) (h0 h1 h2 pv : Value) (pus : List Value) (F : Nat) (sv i : Value) (wr : World) : Prop :=
  ∃ (k : Nat) (st : List Int), k ≤ G.length ∧ i = .int .i64 (k : Int) ∧ M2 w p B G gv fs ss qss h0 h1 h2 pv pus wr ∧ Zs F wr st sv ∧ st.length = G.length ∧ (∀ y, y < k → (v y).fin) ∧ (∀ y, y < G.length → visL st y = 2 → (v y).fin) ∧ ∀ y, y < G.length → visL st y = 0 ∨ visL st y = 2
/-- The sorts so far. -/
def R6 (a : List S) (w6 : World) (cv i : Value) (wr : World) : Prop :=
  ∃ (k : Nat) (us : List Value) (fp : List Nat), k ≤ a.length ∧ i = .int .i64 (k : Int) ∧ RoundS a [] w6 k cv us fp wr ∧ (a.take k).all S.ok = true
theorem zs_base {w : World} {l : List Int} {g n c B : Nat} (h : Zs 0 w l (.slice (some ⟨g, 0, none⟩) n c)) (hB : B ≤ g) : Zs B w l (.slice (some ⟨g, 0, none⟩) n c) := by
  refine ⟨h.1, ?_⟩
  rcases h.2 with ⟨e, _⟩ | ⟨g', cap, cur, e, _, h4, h5⟩
  · cases e
  · injection e with e1 e2 e3
    injection e1 with e1
    injection e1 with e1 _ _
    subst e1
    exact .inr ⟨g, cap, cur, by rw [e2, e3], hB, h4, h5⟩
theorem visL_zero (n : Nat) (y : Nat) : visL (nints (List.replicate n 0)) y = 0 := by
  unfold visL
  simp only [nints, List.map_replicate, List.getD, List.getElem?_replicate]
  split <;> rfl
/-- A sort is not valid. -/
theorem sorts_limit {syms : List Sy} {l : List Lz} {a : List S} {w w' : World} (hz : checkI syms l = 0) (h : Solves (l.map Lz.lo) (ranksOf syms) (some a)) (hno : a.all S.ok = false) (hb : Below w.heap.size w w') : SortsPost syms l w (.returned (.tuple #[.slice none 0 0, .int .i64 3])) w' :=
  ⟨3, [], _, [], rfl, .inr ⟨hz, some a, h, by simp [ansE, hno], by simp [ansE, hno]⟩, sepI_nil, .nil, fun b hb => by simp at hb, hb⟩

set_option maxRecDepth 100000 in
set_option maxHeartbeats 6400000 in
theorem refSorts_any (syms : List Sy) (l : List Lz) (v0 v1 : Value) (w : World) (hi : Nat) (hsy : SyIn w (fun b => b < hi) syms v0) (hl : LzIn w hi l v1) (hhi : hi ≤ w.heap.size) :
    Calls Tryz.prog 28 #[v0, v1] w (SortsPost syms l w) := by
  obtain ⟨i1, hi1, hz10, hz11, hz12⟩ := info_parts int_info
  obtain ⟨i2, hi2, hz20, hz21, hz22⟩ := info_parts intsl_info
  obtain ⟨i3, hi3, hz30, hz31, hz32⟩ := info_parts sort_info
  have hmk := fun W (r : Nat) (h4 : r ≤ 2000000) => run_make (P := Tryz.prog) W 45 3 i1 _ Tryz.underlying45 hi1 hz10 .i64 .i64 (r : Int) (r : Int) (by omega) (by omega) (by rw [hz12]; omega) (by omega)
  simp only [hz11, Int.toNat_natCast, Nat.mul_one] at hmk
  have hmz : (Value.int IntKind.i64 0).cells = #[.int .i64 0] := rfl
  rw [hmz] at hmk
  have HMK := Lib.hid hmk
  have HZ := Lib.hid (⟨hz11, hz12, hz21, hz22, hz31, hz32⟩ : i1.size = 1 ∧ i1.bytes = 8 ∧ i2.size = 1 ∧ i2.bytes = 24 ∧ i3.size = 1 ∧ i3.bytes = 24)
  have HC := Lib.hid (refCk_any syms l v0 v1 w hi hsy hl hhi)
  have HSY := Lib.hid hsy
  have HLZ := Lib.hid hl
  obtain ⟨A0, _, c0, rfl, rfl, hnc0, hc0, hrd0, hnm0⟩ := hsy
  obtain ⟨A, _, c, us0, rfl, rfl, hnc, hc, hrd, hrow⟩ := hl
  have HRD0 := Lib.hid hrd0
  have HRD := Lib.hid (⟨hrd, hrow⟩ : Rd w (fun b => b < hi) A us0 ∧ LzRow w hi l us0)
  clear hmk hmz hz11 hz12 hz21 hz22 hz31 hz32 hrd0 hnm0 hrd hrow
  have HEQ : Hid (∃ z, checkI syms l = z) := Lib.hid ⟨_, rfl⟩
  obtain ⟨z, hz⟩ := HEQ.out
  rw [hz] at HC
  have HZC := Lib.hid hz
  clear hz HEQ
  by_cases h0 : z = 0
  case neg =>
    have g : ((z : Int) != 0) = true := by simpa using h0
    have H0 := Lib.hid h0
    clear h0
    go_enter Tryz.func28, Tryz.ntmps28
    go_wp2_with fail
    refine HC.out.mono ?_
    rintro e w1 ⟨rfl, hb1⟩
    have HF : Hid (SortsPost syms l w (.returned (.tuple #[.slice none 0 0, .int .i64 z])) w1) := Lib.hid ⟨z, [], _, [], rfl, .inl ⟨by rw [HZC.out]; exact H0.out, HZC.out.symm, rfl⟩, sepI_nil, .nil, fun b hb => by simp at hb, hb1⟩
    clear hb1
    go_wp2_with fail
    go_ret2
    exact HF.out
  subst h0
  obtain ⟨h64, h24, hrk, hfs⟩ := check_facts HZC.out
  have HRK := Lib.hid hrk
  have HFS := Lib.hid hfs
  clear hrk hfs
  go_enter Tryz.func28, Tryz.ntmps28
  go_wp2_with fail
  refine HC.out.mono ?_
  rintro e w1 ⟨rfl, hb1⟩
  have hz1 := hb1.size
  have hg0 : RG w1.heap.size (w1.alloc (.cells #[.slice none 0 0] 135)) [] (.slice none 0 0) := ⟨Blk.new _ _ _, by simpa [ndCells] using World.ownsRow_nil _ _ _ _⟩
  have hb2 := hb1.alloc hz1 (.cells #[.slice none 0 0] 135)
  have HCA : Hid (Calls Tryz.prog 71 #[.pointer (some (at0 w1.heap.size)), .int .i64 1, .int .i64 0, .int .i64 0] (w1.alloc (.cells #[.slice none 0 0] 135)) fun e w' => e = .returned (.int .i64 0) ∧ ∃ v', RG w1.heap.size w' [.tree] v' ∧ RT w1.heap.size (w1.alloc (.cells #[.slice none 0 0] 135)) (.slice none 0 0) w' v') :=
    Lib.hid ((addR_any _ [] _ .tree 1 0 0 _ rfl rfl rfl hg0 (by simp)).mono fun e w' ⟨he, v', h1, h2⟩ => ⟨he, v', h1, h2⟩)
  have HB2 := Lib.hid hb2
  clear hg0 hb1 hb2
  go_wp2_with fail
  refine HCA.out.mono ?_
  rintro e w2 ⟨rfl, gv2, hg2, ht2⟩
  have hb3 : Below w.heap.size w w2 := HB2.out.trans (ht2.below (by simp; omega) hz1 (by simp [Value.ownBlock]))
  have hgb2 := ht2.base (B := w.heap.size) (by simp; omega) (by simp [Value.ownBlock])
  have hz2 := hb3.size
  have hw3 : Below w2.heap.size w2 (w2.alloc (.cells #[.slice none 0 0, .slice none 0 0, .slice none 0 0] 137)) := (Below.refl _ _).alloc (Nat.le_refl _) _
  have H1 : Hid (R1 syms w w1.heap.size w2.heap.size (.int .i64 0) (w2.alloc (.cells #[.slice none 0 0, .slice none 0 0, .slice none 0 0] 137))) :=
    Lib.hid ⟨0, [], [.tree], gv2, _, Nat.zero_le _, rfl, by simpa [ranksOf] using P2.start,
      ⟨hg2.below hw3, Blk.new _ _ _, Zs.nil _ _, Zs.nil _ _, by simp [Value.ownBlock], by simpa using World.ownsRow_nil _ _ _ _, fun j qs h => by simp at h, hgb2, ⟨hz1, hz2⟩, hb3.trans (hw3.mono hz2)⟩⟩
  clear hg2 ht2 hb3 hgb2 hw3
  go_wp2_with fail
  go_loopw [38] (fun i wr => R1 syms w w1.heap.size w2.heap.size i wr) (fun i _ => syms.length - (intOf i).toNat)
  case atStart => exact H1.out
  case round =>
    clear H1
    obtain ⟨k, ss, G, gv, h2, hk, rfl, hp, hm⟩ := hrel
    obtain ⟨Ah, ch, rfl⟩ := zs_formR hm.z2
    by_cases hlt : k < syms.length
    · have hx : syms[k]? = some syms[k] := List.getElem?_eq_getElem hlt
      obtain ⟨ad0, rfl, hP0, el0⟩ := sy_el HRD0.out hx
      obtain ⟨r0, r1⟩ := el0.keep (hm.bel.block _ (by omega))
      obtain ⟨rk, hrk, hr4⟩ := HRK.out _ (List.getElem_mem hlt)
      have hsn := ranksOf_snoc hx
      generalize syms[k] = x at *
      obtain ⟨xn, xr⟩ := x
      simp only at r0 r1 hrk hsn
      subst hrk
      have hw : Below wr.heap.size wr (wr.alloc (.cells #[.string xn, .int .i64 (rk : Int)] 65)) := (Below.refl _ _).alloc (Nat.le_refl _) _
      have hmW := hm.below hw
      have hbx := Blk.new wr 65 #[.string xn, .int .i64 (rk : Int)]
      have hGl : G.length ≤ 200000 := by have := hp.len; simp [ranksOf] at this; omega
      have HBX := Lib.hid hbx
      have hmk2 := fun W => HMK.out W rk (by omega)
      have HM := Lib.hid hmW
      have HP := Lib.hid hp
      have HSN := Lib.hid hsn
      have HLS : Hid (ss.length ≤ 64) := Lib.hid (by have := hp.bg.ls_; simp [ranksOf] at this; omega)
      clear hx el0 hsn hw hm hmW hbx hp
      go_wp2_with fail
      generalize hWW : wr.alloc (.cells #[.string xn, .int .i64 (rk : Int)] 65) = W at *
      clear hWW
      have q0 := HM.out.hb.cell 2
      have q1 := HBX.out.cell 1
      simp at q0 q1
      have HCH : Hid (∀ W', Below W.heap.size W W' → Blk W' W.heap.size 3 (madeCells #[.int .i64 0] rk) → Calls Tryz.prog 72 #[.pointer (some (at0 w1.heap.size)), .slice (some ⟨W.heap.size, 0, none⟩) rk rk, .int .i64 0] W' fun e w' => ∃ (top : Nat) (G' : Gr) (v' : Value), e = .returned (.int .i64 (top : Int)) ∧ P2 [] (ranksOf (syms.take k) ++ [rk]) [] (ss ++ [top]) [] G' ∧ M2 w w1.heap.size w2.heap.size G' v' [] ss [] (.slice none 0 0) (.slice none 0 0) (.slice Ah ss.length ch) (.slice none 0 0) [] w') := by
        refine Lib.hid fun W' hW' hbk => ?_
        have hm' := HM.out.below hW'
        have hz' : Zs 0 W' (nints (List.replicate rk 0)) (.slice (some ⟨W.heap.size, 0, none⟩) rk rk) := by
          have h := zs_zeros W rk (by simp only [maxLen]; omega)
          have h2 : Zs W.heap.size W' (nints (List.replicate rk 0)) (.slice (some ⟨W.heap.size, 0, none⟩) rk rk) := owns_kept3 (w' := W') h fun b hb => by
            have e : W.heap.size = b := by simpa [Value.ownBlock] using hb
            subst e
            exact hbk.trans (Blk.new W 3 (madeCells #[.int .i64 0] rk)).symm
          exact h2.less (Nat.zero_le _)
        have hc := chained HP.out.bg.good HP.out.o0.1 (List.replicate rk 0) (fun x hx => by rw [(List.mem_replicate.1 hx).2]; exact HP.out.o0.1)
        refine (chainR_any w1.heap.size G (List.replicate rk 0) 0 gv _ 0 W' rfl hm'.rg hz' (by simp; omega)).mono ?_
        rintro e w' ⟨he, v', hg', ht'⟩
        exact ⟨_, _, v', he, HP.out.sym hr4 hc (by rw [chainN_len]; simp), hm'.rt hg' ht'⟩
      have hB3 : w2.heap.size < W.heap.size := HM.out.hb.lt
      clear HRK
      go_region_law
        (first
          | (refine step_append_lies _ (by rfl) _ _ _ (by rfl) w.heap.size 3 i1 _ 1 8 Tryz.underlying45 hi1 hz10 HZ.out.1 HZ.out.2.1 rfl (by omega) (.slice Ah ss.length ch) ss.length ((nints ss).map (Value.int .i64)) (by rfl) (by exact (hown3.alloc _))
              ⟨w3.heap.size, 0, none⟩ 1 1 [.int .i64 (top : Int)] (by rfl) (by rfl) (by exact World.news_of_block (cs := #[.int .i64 (top : Int)]) (t := 3) (fr := (0, 0)) (heap_alloc_new w3 _)) (by exact fun u hu => by rw [List.mem_singleton.1 hu]; rfl) (by omega) (by have := HLS.out; simp only [maxLen]; omega) (by have := HLS.out; omega) (by have := hm3.bel.size; rw [World.size_alloc]; omega) (w3.heap.size + 1) (by simp) ?_; intro gg cap w4 hown4 hgrow hat hlt4
             have hm4 := hm3.put2 hown4 hgrow hat
             have hb4 : Blk w4 w2.heap.size 137 #[.slice none 0 0, .slice none 0 0, .slice Ah ss.length ch] := (hgrow.block _ (by have := hm3.hb.lt; rw [World.size_alloc]; omega) (fun e => own_ne hm3.z2 hm3.hb (by decide) e.symm)).trans (hm3.hb.alloc _)
             have s1 := hb4.cell 2
             have s2 := hb4.frozen 2
             simp at s1
             have HF : Hid (R1 syms w w1.heap.size w2.heap.size (.int .i64 ((k + 1 : Nat) : Int)) (w4.setCell ⟨w2.heap.size, 2, none⟩ (.slice (some ⟨gg, 0, none⟩) (ss.length + 1) cap))) :=
               Lib.hid ⟨k + 1, ss ++ [top], G3, v3, _, by omega, rfl, by rw [HSN.out]; simpa using hp3, hm4⟩
             clear hown4 hgrow hat hlt4 hm4 hb4)
          | (go_simp; go_at_call 72
             refine (HCH.out _ (by first | exact ((Below.refl _ _).alloc (Nat.le_refl _) _).drew | exact (Below.refl _ _).drew.alloc (Nat.le_refl _) _) (by first | exact (Blk.new _ _ _).drew | exact Blk.new _ _ _)).mono ?_
             rintro e w3 ⟨top, G3, v3, rfl, hp3, hm3⟩
             have hown3 := zs_own hm3.z2
             have t1 := hm3.hb.cell 2
             have t5 : (w3.alloc (.cells #[.int .i64 (top : Int)] 3)).cell? ⟨w2.heap.size, 2, none⟩ = some (.slice Ah ss.length ch) := (hm3.hb.alloc _).cell 2
             simp at t1))
      all_goals
        go_wp2_with fail
        go_roundw
        case rel => exact HF.out
        case measure => simp [intOf]; omega
    · have hka : syms.take k = syms := List.take_of_length_le (by omega)
      rw [hka] at hp
      have H2 : Hid (R2 syms l w w1.heap.size w2.heap.size (.slice none 0 0) (.int .i64 0) wr) := Lib.hid ⟨0, [], ss, [], G, gv, _, _, [], Nat.zero_le _, rfl, by simpa using hp, hm⟩
      clear hka hp hm
      go_wp2_with fail
      go_loopw [12, 56] (fun pv i wr => R2 syms l w w1.heap.size w2.heap.size pv i wr) (fun _ i _ => l.length - (intOf i).toNat)
      case atStart => exact H2.out
      case round =>
        clear H2
        obtain ⟨k, fs, ss, qss, G, gv, h1, h2, pus, hk, rfl, hp, hm⟩ := hrel
        obtain ⟨A1, c1, rfl⟩ := zs_formR hm.z1
        obtain ⟨A2, c2, rfl⟩ := zs_formR hm.z2
        obtain ⟨Ap, _, cp, _, rfl⟩ := own_formR hm.po
        by_cases hlt : k < l.length
        · have hx : l[k]? = some l[k] := List.getElem?_eq_getElem hlt
          obtain ⟨ad, bv, rfl, hPa, hel, hbv, hnm⟩ := lz_el HRD.out.1 HRD.out.2 hx
          obtain ⟨r0, r1, r2, r3, r4⟩ := hel.keep (hm.bel.block _ (by omega))
          obtain ⟨_, n, hn, hn8, _⟩ := HFS.out _ (List.getElem_mem hlt)
          have htk : (l.take (k + 1)).map Lz.lo = (l.take k).map Lz.lo ++ [(l[k]).lo] := by rw [List.take_add_one, hx, List.map_append]; rfl
          have hlo : (l[k]).lo.1 = n := by simp only [Lz.lo]; omega
          generalize l[k] = x at *
          obtain ⟨xn, xp, xb⟩ := x
          simp only at r0 r1 r2 r3 hn hbv
          subst hn
          obtain ⟨Ab, nb, cb, rfl⟩ := hbv.form
          have hw : Below wr.heap.size wr (wr.alloc (.cells #[.string xn, .int .i64 (n : Int), .int .i64 xb.kind, .int .i64 xb.num, .slice Ab nb cb] 74)) := (Below.refl _ _).alloc (Nat.le_refl _) _
          have hmW := hm.below hw
          have hbx := Blk.new wr 74 #[.string xn, .int .i64 (n : Int), .int .i64 xb.kind, .int .i64 xb.num, .slice Ab nb cb]
          have hGl : G.length ≤ 200000 := by have := hp.len; simp [ranksOf] at this; omega
          have hlf := hp.bg.lf
          have hql := hp.ql
          have HBX := Lib.hid hbx
          have HM := Lib.hid hmW
          have HP := Lib.hid hp
          have HTK := Lib.hid (⟨htk, hlo⟩ : _ ∧ _)
          have HLS : Hid (fs.length ≤ 64 ∧ qss.length ≤ 64) := Lib.hid (by simp at hlf hql; omega)
          have HKL : Hid (k + 1 ≤ l.length) := Lib.hid hlt
          clear hx hel hbv hnm htk hlo hlf hql hw hm hmW hbx hp
          go_wp2_with fail
          generalize hWW : wr.alloc (.cells #[.string xn, .int .i64 (n : Int), .int .i64 xb.kind, .int .i64 xb.num, .slice Ab nb cb] 74) = W at *
          clear hWW
          have q1 := HBX.out.cell 1
          simp at q1
          have H3 : Hid (RF w w1.heap.size w2.heap.size G fs ss qss (.slice A1 fs.length c1) (.slice A2 ss.length c2) (.slice Ap qss.length cp) pus n W.heap.size (.slice none 0 0) (.int .i64 0) W) :=
            Lib.hid ⟨0, gv, Nat.zero_le _, rfl, by simpa [opens] using HM.out, by simpa [nints] using Zs.nil _ _, Nat.le_refl _⟩
          have HLT := Lib.hid HM.out.lts
          have HFW : Hid (w.heap.size ≤ W.heap.size) := Lib.hid HM.out.bel.size
          go_wp2_with fail
          go_loopw [15, 62] (fun fv i wr => RF w w1.heap.size w2.heap.size G fs ss qss (.slice A1 fs.length c1) (.slice A2 ss.length c2) (.slice Ap qss.length cp) pus n W.heap.size fv i wr) (fun _ i _ => n - (intOf i).toNat)
          case atStart => exact H3.out
          case round =>
            clear H3
            obtain ⟨j, gvj, hj, rfl, hmj, hzj, hFr⟩ := hrel
            obtain ⟨Af, cf, rfl⟩ := zs_formR hzj
            rw [List.length_range'] at hzj ⊢
            by_cases hjl : j < n
            · have HCA := Lib.hid (add_open hmj.rg (by omega))
              have HMJ := Lib.hid hmj
              have HZJ := Lib.hid hzj
              clear hmj hzj
              go_wp2_with fail
              refine HCA.out.mono ?_
              rintro e w4 ⟨z, hz, rfl, v4, hg4, ht4⟩
              have hz4 := HZJ.out.rt HMJ.out.rg ht4
              have hm4 := HMJ.out.rt hg4 ht4
              have ho4 := zs_own hz4
              rw [List.length_range'] at ho4
              have HM4 := Lib.hid hm4
              have HZ4 := Lib.hid hz4
              have HZZ := Lib.hid hz
              have hz4b : W.heap.size ≤ w4.heap.size := Nat.le_trans hFr ht4.sav.size
              clear hg4 ht4 hm4 hz4 hz
              go_wp2_with
                (at_builtin
                 refine wpList_append_lies _ rfl _ _ _ rfl W.heap.size 3 i1 _ 1 8 Tryz.underlying45 hi1 hz10 HZ.out.1 HZ.out.2.1 rfl (by omega) (.slice Af j cf) j ((nints (List.range' G.length j)).map (Value.int .i64)) (by rfl) (ho4.alloc _)
                   ⟨w4.heap.size, 0, none⟩ 1 1 [.int .i64 (z : Int)] (by rfl) (by rfl) (World.news_of_block (cs := #[.int .i64 (z : Int)]) (t := 3) (fr := (0, 0)) (heap_alloc_new w4 _)) (fun u hu => by rw [List.mem_singleton.1 hu]; rfl) (by omega) (by simp only [maxLen]; omega) (by omega) (by rw [World.size_alloc]; omega) (w4.heap.size + 1) (by simp) ?_
                 intro gg cap w5 hown5 hgrow hat hlt5)
              have HF : Hid (RF w w1.heap.size w2.heap.size G fs ss qss (.slice A1 fs.length c1) (.slice A2 ss.length c2) (.slice Ap qss.length cp) pus n W.heap.size (.slice (some ⟨gg, 0, none⟩) (j + 1) cap) (.int .i64 ((j + 1 : Nat) : Int)) w5) := by
                have hl : (List.range' G.length j).length = j := List.length_range'
                obtain ⟨g1, g2⟩ := HM4.out.grow (l := List.range' G.length j) (z := z) (gg := gg) (cap := cap) HZ4.out HFW.out HLT.out (by rw [hl]; exact hown5) hgrow
                rw [HZZ.out, ← List.range'_1_concat, hl] at g2
                exact Lib.hid ⟨j + 1, v4, by omega, rfl, g1, g2, by have h8 := hgrow.size; rw [World.size_alloc] at h8; omega⟩
              clear hown5 hgrow hat hlt5 ho4
              go_wp2_with fail
              go_roundw
              case rel => exact HF.out
              case measure => simp [intOf]; omega
            · obtain rfl : j = n := by omega
              have hpo := hmj.po
              have hmW := hmj.bel.size
              have HMJ := Lib.hid hmj
              have HZJ := Lib.hid hzj
              clear hmj hzj
              go_wp2_with
                (at_builtin
                 refine wpList_append_lies _ rfl _ _ _ rfl w.heap.size 45 i2 _ 1 24 Tryz.underlying139 hi2 hz20 HZ.out.2.2.1 HZ.out.2.2.2.1 rfl (by omega) (.slice Ap qss.length cp) qss.length pus (by rfl) (hpo.alloc _)
                   ⟨wr.heap.size, 0, none⟩ 1 1 [.slice Af j cf] (by rfl) (by rfl) (World.news_of_block (cs := #[.slice Af j cf]) (t := 45) (fr := (0, 0)) (heap_alloc_new wr _)) (fun u hu => by rw [List.mem_singleton.1 hu]; rfl) (by omega) (by have := HLS.out.2; simp only [maxLen]; omega) (by have := HLS.out.2; omega) (by rw [World.size_alloc]; omega) (wr.heap.size + 1) (by simp) ?_
                 intro gp capp w5 hown5 hgrow5 hat5 hlt5
                 have HM5 : Hid (M2 w w1.heap.size w2.heap.size (opens G j) gvj fs ss (qss ++ [List.range' G.length j]) (.slice none 0 0) (.slice A1 fs.length c1) (.slice A2 ss.length c2) (.slice (some ⟨gp, 0, none⟩) (qss.length + 1) capp) (pus ++ [.slice Af j cf]) w5) :=
                   Lib.hid (HMJ.out.putP (HZJ.out.less HFW.out) (fun b hb => by
                     have hFb := (HZJ.out.lt hb).1
                     exact ⟨fun e => by have := HLT.out b (.inl e); omega, fun e => by have := HLT.out b (.inr (.inl e)); omega⟩) hown5 hgrow5)
                 have hpl : pus.length = qss.length := by have := hpo.1; omega
                 clear hown5 hgrow5 hat5 hlt5 hpo)
              have HCH : Hid (∀ W', Below w5.heap.size w5 W' → Calls Tryz.prog 72 #[.pointer (some (at0 w1.heap.size)), .slice Af j cf, .int .i64 0] W' fun e w' => ∃ (top : Nat) (G' : Gr) (v' : Value), e = .returned (.int .i64 (top : Int)) ∧ P2 ((l.take (k + 1)).map Lz.lo) (ranksOf syms) (fs ++ [top]) ss (qss ++ [List.range' G.length j]) G' ∧
                  M2 w w1.heap.size w2.heap.size G' v' fs ss (qss ++ [List.range' G.length j]) (.slice none 0 0) (.slice A1 fs.length c1) (.slice A2 ss.length c2) (.slice (some ⟨gp, 0, none⟩) (qss.length + 1) capp) (pus ++ [.slice Af j cf]) w') := by
                refine Lib.hid fun W' hW' => ?_
                have hm' := HM5.out.below hW'
                obtain ⟨u, e1, e2, _⟩ := hm'.par qss.length (List.range' G.length j) (by simp)
                have hu : u = .slice Af j cf := by rw [← hpl] at e1; simpa using e1.symm
                subst hu
                have hGo := opens_good HP.out.bg.good j
                have hc := chained hGo (to_ := 0) (by rw [opens_len]; have := HP.out.o0.1; omega) (List.range' G.length j) (fun x hx => by have := List.mem_range'_1.1 hx; rw [opens_len]; omega)
                refine (chainR_any w1.heap.size (opens G j) (List.range' G.length j) 0 gvj _ 0 W' rfl hm'.rg (e2.less (Nat.zero_le _)) (by rw [opens_len, List.length_range']; omega)).mono ?_
                rintro e w' ⟨he, v', hg', ht'⟩
                refine ⟨_, _, v', he, ?_, hm'.rt hg' ht'⟩
                rw [HTK.out.1]
                have hlo := HTK.out.2
                have h := HP.out.fn (l := Lz.lo ⟨xn, (j : Int), xb⟩) (by rw [hlo]; exact hn8) (by rw [hlo]; exact hc) (by rw [hlo, chainN_len, opens_len, List.length_range']; omega)
                rw [hlo] at h
                exact h
              have q5 := HM5.out.hb.cell 1
              simp at q5
              have hb5 : w2.heap.size < w5.heap.size := HM5.out.hb.lt
              have HKJ : Hid (k < l.length) := Lib.hid hlt
              go_region_law
                (first
                  | (refine step_append_lies _ (by rfl) _ _ _ (by rfl) w.heap.size 3 i1 _ 1 8 Tryz.underlying45 hi1 hz10 HZ.out.1 HZ.out.2.1 rfl (by omega) (.slice A1 fs.length c1) fs.length ((nints fs).map (Value.int .i64)) (by rfl) (by exact (hown6.alloc _))
                      ⟨w6.heap.size, 0, none⟩ 1 1 [.int .i64 (top : Int)] (by rfl) (by rfl) (by exact World.news_of_block (cs := #[.int .i64 (top : Int)]) (t := 3) (fr := (0, 0)) (heap_alloc_new w6 _)) (by exact fun u hu => by rw [List.mem_singleton.1 hu]; rfl) (by omega) (by have := HLS.out.1; simp only [maxLen]; omega) (by have := HLS.out.1; omega) (by have := hm6.bel.size; rw [World.size_alloc]; omega) (w6.heap.size + 1) (by simp) ?_; intro gg cap w7 hown7 hgrow hat hlt7
                     have hm7 := hm6.put1 hown7 hgrow hat
                     have hb7 : Blk w7 w2.heap.size 137 #[.slice none 0 0, .slice A1 fs.length c1, .slice A2 ss.length c2] := (hgrow.block _ (by have := hm6.hb.lt; rw [World.size_alloc]; omega) (fun e => own_ne hm6.z1 hm6.hb (by decide) e.symm)).trans (hm6.hb.alloc _)
                     have s1 := hb7.cell 1
                     have s2 := hb7.frozen 1
                     simp at s1
                     have HF : Hid (R2 syms l w w1.heap.size w2.heap.size (.slice (some ⟨gp, 0, none⟩) (qss.length + 1) capp) (.int .i64 ((k + 1 : Nat) : Int)) (w7.setCell ⟨w2.heap.size, 1, none⟩ (.slice (some ⟨gg, 0, none⟩) (fs.length + 1) cap))) :=
                       Lib.hid ⟨k + 1, fs ++ [top], ss, _, G6, v6, _, _, _, HKJ.out, rfl, hp6, hm7⟩
                     clear hown7 hgrow hat hlt7 hm7 hb7)
                  | (go_simp; go_at_call 72
                     refine (HCH.out _ (by exact (Below.refl _ _).drew)).mono ?_
                     rintro e w6 ⟨top, G6, v6, rfl, hp6, hm6⟩
                     have hown6 := zs_own hm6.z1
                     have t1 := hm6.hb.cell 1
                     have t5 : (w6.alloc (.cells #[.int .i64 (top : Int)] 3)).cell? ⟨w2.heap.size, 1, none⟩ = some (.slice A1 fs.length c1) := (hm6.hb.alloc _).cell 1
                     simp at t1))
              all_goals
                go_wp2_with fail
                go_roundw
                case rel => exact HF.out
                case measure => have := HKJ.out; simp [intOf]; omega
        · have hka : l.take k = l := List.take_of_length_le (by omega)
          rw [hka] at hp
          have H4 : Hid (R4 l w w1.heap.size w2.heap.size fs ss qss G (.slice A1 fs.length c1) (.slice A2 ss.length c2) (.slice Ap qss.length cp) pus (.int .i64 0) wr) := Lib.hid ⟨0, G, gv, _, Nat.zero_le _, rfl, .start hp.bg.good, by omega, hm⟩
          have HP := Lib.hid hp
          have hGl : G.length ≤ 200000 := by have := hp.len; simp [ranksOf] at this; omega
          clear hka hp hm
          go_wp2_with fail
          go_loopw [86] (fun i wr => R4 l w w1.heap.size w2.heap.size fs ss qss G (.slice A1 fs.length c1) (.slice A2 ss.length c2) (.slice Ap qss.length cp) pus i wr) (fun i _ => l.length - (intOf i).toNat)
          case atStart => exact H4.out
          case round =>
            clear H4
            obtain ⟨k, G1, gv1, h0, hk, rfl, hgo, hG1, hm⟩ := hrel
            by_cases hlt : k < l.length
            · have hx : l[k]? = some l[k] := List.getElem?_eq_getElem hlt
              obtain ⟨ad, bv, rfl, hPa, hel, hbv, hnm⟩ := lz_el HRD.out.1 HRD.out.2 hx
              obtain ⟨r0, r1, r2, r3, r4⟩ := hel.keep (hm.bel.block _ (by omega))
              obtain ⟨h400, n, hn, hn8, hex⟩ := HFS.out _ (List.getElem_mem hlt)
              have hlox : (l.map Lz.lo)[k]? = some (l[k]).lo := by simp [hx]
              have hlf := HP.out.bg.lf
              have hls := HP.out.bg.ls_
              have hql := HP.out.ql
              simp only [List.length_map] at hlf hql
              have hls2 : ss.length = syms.length := by rw [hls]; simp [ranksOf]
              have hfk : fs[k]? = some (fs[k]'(by omega)) := List.getElem?_eq_getElem _
              have hqk : qss[k]? = some (qss[k]'(by omega)) := List.getElem?_eq_getElem _
              obtain ⟨u, hu, hzu, _⟩ := hm.par k _ hqk
              obtain ⟨gp, rfl, hgp, hgpl⟩ := own_addr2 hm.po (by omega)
              have hkq : k < qss.length := by omega
              obtain ⟨hqn, hch⟩ := HP.out.ch k _ _ _ hfk hqk hlox
              have hqlt := HP.out.qlt k _ hqk
              have hGG := hgo.len
              generalize fs[k]'(by omega) = f at *
              generalize qss[k]'(by omega) = qs at *
              generalize l[k] = x at *
              obtain ⟨xn, xp, xb⟩ := x
              simp only [Lz.lo] at r0 r1 r2 r3 hn hbv h400 hex hqn hlox
              subst hn
              simp only [Int.toNat_natCast] at hqn hlox
              subst hqn
              obtain ⟨Ab, nb, cb, rfl⟩ := hbv.form
              obtain ⟨Au, cu, rfl⟩ := zs_formR hzu
              have hw : Below wr.heap.size wr (wr.alloc (.cells #[.string xn, .int .i64 (qs.length : Int), .int .i64 xb.kind, .int .i64 xb.num, .slice Ab nb cb] 74)) := (Below.refl _ _).alloc (Nat.le_refl _) _
              have hmW := hm.below hw
              have hcu : (wr.alloc (.cells #[.string xn, .int .i64 (qs.length : Int), .int .i64 xb.kind, .int .i64 xb.num, .slice Ab nb cb] 74)).cell? ⟨gp, k, none⟩ = some (.slice Au qs.length cu) := (hmW.po.cellAt k (by omega)).trans hu
              have hbx := Blk.new wr 74 #[.string xn, .int .i64 (qs.length : Int), .int .i64 xb.kind, .int .i64 xb.num, .slice Ab nb cb]
              have hmS := hmW.head0 (.slice Au qs.length cu)
              have hzuS : Zs w.heap.size _ (nints qs) (.slice Au qs.length cu) := (by
                obtain ⟨u', e1, e2, _⟩ := hmS.par k _ hqk
                rw [hu] at e1
                cases e1
                exact e2)
              have hbS := hbx.far (p := ⟨w2.heap.size, 0, none⟩) (by have := hm.hb.lt; show wr.heap.size ≠ w2.heap.size; omega) (.slice Au qs.length cu)
              have hpk : ∀ k n x, pickA qs fs ss k n = some x → x < G1.length := fun k n x hx => pickA_mem (P := fun x => x < G1.length) (fun y hy => by have := hqlt y hy; omega) (fun y hy => by have := HP.out.bg.ltf y hy; omega) (fun y hy => by have := HP.out.bg.lts y hy; omega) hx
              have HSR := Lib.hid (sortR_any w1.heap.size qs fs ss (.slice Au qs.length cu) (.slice A1 fs.length c1) (.slice A2 ss.length c2) xb.count xb G1 gv1 (.slice Ab nb cb) _ (fun b => b < hi) (Nat.le_refl _) hgo.good hmS.rg ⟨hzuS.less (Nat.zero_le _), hmS.z1.less (Nat.zero_le _), hmS.z2.less (Nat.zero_le _)⟩ hpk
                (by rw [hlf, hls2]; exact hex) (hbv.below hmS.bel (fun b hb => by omega)) (fun b hb => by have := hmS.bel.size; omega) (fun b hb => ⟨by omega, fun e => by have := hmS.gb b e; omega⟩) (by omega))
              have q0 := hmW.hb.cell 0
              have q01 := hmW.hb.cell 1
              have q02 := hmW.hb.cell 2
              have f0 := hmW.hb.frozen 0
              simp at q0 q01 q02
              have HMS := Lib.hid hmS
              have HBS := Lib.hid hbS
              have HGO := Lib.hid hgo
              have HX : Hid ((l.map Lz.lo)[k]? = some (qs.length, xb) ∧ fs[k]? = some f ∧ (∀ v, Sol G1 v → ∃ e, v f = chainD (qs.map v) e) ∧ ∀ v, Sol G1 v → v 0 = D.o) :=
                Lib.hid ⟨hlox, hfk, fun v hv => ⟨_, hch v (hgo.back v hv).1⟩, fun v hv => HP.out.o0.2 v (hgo.back v hv).1⟩
              have HN : Hid (k + 1 ≤ l.length ∧ xb.count ≤ 400 ∧ G1.length ≤ G.length + 800 * k ∧ G.length ≤ 200000 ∧ 0 < G1.length) := Lib.hid ⟨hlt, h400, hG1, hGl, by have := HP.out.o0.1; omega⟩
              clear hx hel hbv hnm hex hlox hlf hls hql hls2 hfk hqk hu hzu hch hqlt hGG hw hm hmW hbx hmS hzuS hbS hpk hgo hG1 hgpl hgp
              go_wp2_with fail
              refine HSR.out.mono ?_
              rintro e w3 ⟨G3, gv3, hg3, ht3, hl3, hres⟩
              have hm3 := HMS.out.rt hg3 ht3
              rcases hres with ⟨r, rfl, hty⟩ | ⟨rfl, hno⟩
              · have hrl := hty.lt
                have hGl3 := hty.len
                obtain ⟨ok, hok⟩ := Unifies.bool G3 r 0
                have HCU := Lib.hid (uniR_any w1.heap.size _ G3 gv3 r 0 (r : Int) 0 ok w3 (Nat.le_refl _) hty.good hg3 hrl (by have := HN.out; omega) rfl rfl hok)
                have HTY := Lib.hid hty
                have HM3 := Lib.hid hm3
                have HL3 := Lib.hid hl3
                have HO3 : Hid (∀ v, Sol G3 v → Sol G3 v ∧ v 0 = D.o) := Lib.hid fun v hv => ⟨hv, HX.out.2.2.2 v (hty.back v hv).1⟩
                clear hg3 ht3 hl3 hm3 hty hok hrl hGl3
                go_wp2_with fail
                refine HCU.out.mono ?_
                rintro e w4 ⟨rfl, G4, hj, hg4, ht4⟩
                have hm4 := HM3.out.rt hg4 ht4
                have hl4 := hj.len
                cases ok with
                | false =>
                  have HF : Hid (SortsPost syms l w (.returned (.tuple #[.slice none 0 0, .int .i64 6])) w4) :=
                    Lib.hid (sorts_none HZC.out (Going.differs HP.out.bg HGO.out HX.out.2.1 HX.out.1 rfl HX.out.2.2.1 HTY.out (fun v hv => (HO3.out v hv).2) (fun v hv => ⟨v, .refl hv⟩) hj) hm4.bel)
                  clear hm4 hl4 hj hg4 ht4
                  go_wp2_with fail
                  go_ret2
                  exact HF.out
                | true =>
                  have HF : Hid (R4 l w w1.heap.size w2.heap.size fs ss qss G (.slice A1 fs.length c1) (.slice A2 ss.length c2) (.slice (some ⟨gp, 0, none⟩) qss.length cp) pus (.int .i64 ((k + 1 : Nat) : Int)) w4) :=
                    Lib.hid ⟨k + 1, G4, _, _, HN.out.1, rfl, Going.body HP.out.bg HGO.out HX.out.2.1 HX.out.1 rfl HX.out.2.2.1 HTY.out (Nat.le_refl _) HO3.out (fun v hv => ⟨v, .refl hv⟩) hj, by have := HL3.out; have := HN.out; omega, hm4⟩
                  clear hm4 hl4 hj hg4 ht4
                  go_wp2_with fail
                  go_roundw
                  case rel => exact HF.out
                  case measure => have := HN.out.1; simp [intOf]; omega
              · have HF : Hid (SortsPost syms l w (.returned (.tuple #[.slice none 0 0, .int .i64 6])) w3) :=
                  Lib.hid (sorts_none HZC.out (Going.fails HP.out.bg HGO.out HX.out.2.1 HX.out.1 rfl HX.out.2.2.1 hno) hm3.bel)
                clear hm3 hg3 ht3 hl3 hno
                go_wp2_with fail
                go_ret2
                exact HF.out
            · obtain rfl : k = l.length := by omega
              obtain ⟨v, hv⟩ := Can.exists hgo.good
              obtain ⟨Ag, cg, rfl⟩ := hm.rg.form
              have c0 := hm.rg.box.cell 0
              simp at c0
              have hmkG := fun W => HMK.out W G1.length (by omega)
              have hGb : G1.length ≤ 300000 := by omega
              have hw : Below wr.heap.size wr (wr.alloc (.cells (madeCells #[Value.int .i64 0] G1.length) 3)) := (Below.refl _ _).alloc (Nat.le_refl _) _
              have H5 : Hid (R5 w w1.heap.size w2.heap.size G1 v (.slice Ag G1.length cg) fs ss qss h0 (.slice A1 fs.length c1) (.slice A2 ss.length c2) (.slice Ap qss.length cp) pus wr.heap.size (.slice (some ⟨wr.heap.size, 0, none⟩) G1.length G1.length) (.int .i64 0) (wr.alloc (.cells (madeCells #[Value.int .i64 0] G1.length) 3))) :=
                Lib.hid ⟨0, nints (List.replicate G1.length 0), Nat.zero_le _, rfl, hm.below hw, zs_zeros wr G1.length (by simp only [maxLen]; omega), by simp [nints], (fun y hy => absurd hy (by omega)), (fun y _ h => (by rw [visL_zero] at h; cases h)), (fun y _ => .inl (visL_zero _ _))⟩
              have HGO : Hid (Going (l.map Lz.lo) fs ss G (l.map Lz.lo).length G1) := Lib.hid (by rw [List.length_map]; exact hgo)
              have HLT := Lib.hid hm.lts
              have HFW : Hid (w.heap.size ≤ wr.heap.size) := Lib.hid hm.bel.size
              have HV := Lib.hid hv
              have c1' : (wr.alloc (.cells (madeCells #[Value.int .i64 0] G1.length) 3)).cell? ⟨w1.heap.size, 0, none⟩ = some (.slice Ag G1.length cg) := by
                have := (hm.below hw).rg.box.cell 0
                simpa using this
              clear hgo hm hw hG1 hv
              go_wp2_with fail
              generalize hFF : wr.heap.size = F at *
              clear hFF
              go_loopw [125] (fun i wr5 => R5 w w1.heap.size w2.heap.size G1 v (.slice Ag G1.length cg) fs ss qss h0 (.slice A1 fs.length c1) (.slice A2 ss.length c2) (.slice Ap qss.length cp) pus F (.slice (some ⟨F, 0, none⟩) G1.length G1.length) i wr5) (fun i _ => G1.length - (intOf i).toNat)
              case atStart => exact H5.out
              case round =>
                clear H5 c0 c1' hmkG
                obtain ⟨k, st, hk, rfl, hm, hzs, hst, hf1, hf2, hf3⟩ := hrel
                by_cases hlt : k < G1.length
                · have HRN := Lib.hid (round_all w1.heap.size G1 v _ _ HGO.out.good HV.out _ st k (k : Int) wr (Nat.lt_succ_self _) hm.rg (hzs.less (Nat.zero_le _)) hst hlt rfl ⟨hf2, (fun y hy h => (by rcases hf3 y hy with h2 | h2 <;> rw [h2] at h <;> cases h)), (fun y hy => (by rcases hf3 y hy with h2 | h2 <;> simp [h2]))⟩)
                  have HM := Lib.hid hm
                  have HZS := Lib.hid hzs
                  have HFF := Lib.hid (⟨hst, hf1, hf3⟩ : st.length = G1.length ∧ (∀ y, y < k → (v y).fin) ∧ ∀ y, y < G1.length → visL st y = 0 ∨ visL st y = 2)
                  clear hm hzs hst hf1 hf2 hf3
                  go_wp2_with fail
                  refine HRN.out.mono ?_
                  rintro e w6 ⟨ok, st2, rfl, hz2, hl2, hs2, hyes, hno⟩
                  have hm6 := HM.out.aside HZS.out HFW.out HLT.out hs2
                  cases ok with
                  | true =>
                    have HF : Hid (SortsPost syms l w (.returned (.tuple #[.slice none 0 0, .int .i64 6])) w6) := Lib.hid (sorts_none HZC.out (Going.endless HP.out.bg HGO.out hlt (hyes rfl)) hm6.bel)
                    clear hz2 hl2 hs2 hyes hno hm6
                    go_wp2_with fail
                    go_ret2
                    exact HF.out
                  | false =>
                    obtain ⟨g1, g2, g3, g4, _⟩ := hno rfl
                    have HF : Hid (R5 w w1.heap.size w2.heap.size G1 v (.slice Ag G1.length cg) fs ss qss h0 (.slice A1 fs.length c1) (.slice A2 ss.length c2) (.slice Ap qss.length cp) pus F (.slice (some ⟨F, 0, none⟩) G1.length G1.length) (.int .i64 ((k + 1 : Nat) : Int)) w6) := by
                      refine Lib.hid ⟨k + 1, st2, by omega, rfl, hm6, zs_base hz2 (Nat.le_refl _), hl2.trans HFF.out.1, fun y hy => ?_, g2, fun y hy => ?_⟩
                      · rcases Nat.lt_or_ge y k with h | h
                        · exact HFF.out.2.1 y h
                        · have : y = k := by omega
                          subst this
                          exact g1
                      · rcases g4 y hy with h | h | h
                        · exact .inl h
                        · have h8 := (g3 y).1 h
                          rcases HFF.out.2.2 y hy with h9 | h9 <;> rw [h9] at h8 <;> cases h8
                        · exact .inr h
                    clear hz2 hl2 hs2 hyes hno hm6 g1 g2 g3 g4
                    go_wp2_with fail
                    go_roundw
                    case rel => exact HF.out
                    case measure => simp [intOf]; omega
                · have hfin : ∀ y, y < G1.length → (v y).fin := fun y hy => hf1 y (by omega)
                  obtain ⟨a, hla, haf⟩ := fin_list (v := v) (fs := fs) (fun f hf => hfin f (by have := HP.out.bg.ltf f hf; have := HGO.out.len; omega))
                  have hsol := Going.found HP.out.bg HGO.out HV.out hla haf
                  have hlf := HP.out.bg.lf
                  simp only [List.length_map] at hlf
                  have q1 := hm.hb.cell 1
                  simp at q1
                  have H6 : Hid (R6 a wr (.slice none 0 0) (.int .i64 0) wr) :=
                    Lib.hid ⟨0, [], [], Nat.zero_le _, rfl, ⟨by simpa using World.ownsRow_nil _ _ _ _, by simp [S.SepL], by simp [Value.ownBlock], by simp, Saves.refl _ _⟩, by simp⟩
                  have HM := Lib.hid hm
                  have HSOL := Lib.hid hsol
                  have HAF := Lib.hid haf
                  have HLA : Hid (a.length = fs.length ∧ fs.length = l.length) := Lib.hid ⟨hla, hlf⟩
                  have ha64 : a.length ≤ 64 := by omega
                  have HFIN := Lib.hid hfin
                  clear hm hzs hst hf1 hf2 hf3 hfin hsol haf hla hlf
                  go_wp2_with fail
                  go_loopw [22, 136] (fun cv i wr6 => R6 a wr cv i wr6) (fun _ i _ => a.length - (intOf i).toNat)
                  case atStart => exact H6.out
                  case round =>
                    clear H6 q1
                    obtain ⟨k, us, fp, hk, rfl, hr, hall⟩ := hrel
                    have hbW := hr.sav.below (Nat.le_refl _) (fun _ _ hm => by simp at hm)
                    have hm := HM.out.below hbW
                    have hcvf := own_form hr.own
                    obtain ⟨Ac, nc, cc, rfl⟩ := hcvf
                    by_cases hlt : k < a.length
                    · have hs : a[k]? = some a[k] := List.getElem?_eq_getElem hlt
                      have hf : fs[k]? = some (fs[k]'(by have := HLA.out; omega)) := List.getElem?_eq_getElem _
                      have hvf := HAF.out k _ _ hf hs
                      have hfl : fs[k]'(by have := HLA.out; omega) < G1.length := by have := HP.out.bg.ltf _ (List.mem_of_getElem? hf); have := HGO.out.len; omega
                      obtain ⟨gh, rfl, _, r0⟩ := hm.z1.cell (nints_at hf)
                      have hkf : k < fs.length := by have := HLA.out; omega
                      have hno := @all_no _ S.ok a k _ hs
                      have hsu := @all_succ _ S.ok a k _ hs hall
                      generalize fs[k]'(by have := HLA.out; omega) = f at *
                      generalize a[k] = s at *
                      have hnd := nodesR_any w1.heap.size G1 v _ HGO.out.good HV.out s.count s f 60 (f : Int) 60 wr (Nat.le_refl _) (Nat.le_refl _) hm.rg hfl rfl rfl hvf
                      by_cases h60 : s.count ≤ 60
                      case neg =>
                        have HND : Hid (Calls Tryz.prog 76 #[.pointer (some (at0 w1.heap.size)), .int .i64 (f : Int), .int .i64 60] wr fun e w' => e = .returned (.int .i64 61) ∧ wr = w') :=
                          Lib.hid (hnd.mono fun e w' ⟨he, hw⟩ => ⟨by rw [he, show min s.count (60 + 1) = 61 from by omega]; rfl, hw⟩)
                        have HF : Hid (SortsPost syms l w (.returned (.tuple #[.slice none 0 0, .int .i64 3])) wr) := Lib.hid (sorts_limit HZC.out HSOL.out (hno (by simp [S.ok, h60])) hm.bel)
                        clear hs hf hvf hfl hno hsu hnd h60 hr hall hm hbW
                        go_wp2_with fail
                        refine HND.out.mono ?_
                        rintro e w3 ⟨rfl, rfl⟩
                        go_wp2_with fail
                        go_ret2
                        exact HF.out
                      have HND : Hid (Calls Tryz.prog 76 #[.pointer (some (at0 w1.heap.size)), .int .i64 (f : Int), .int .i64 60] wr fun e w' => e = .returned (.int .i64 (s.count : Int)) ∧ wr = w') :=
                        Lib.hid (hnd.mono fun e w' ⟨he, hw⟩ => ⟨by rw [he, show min s.count (60 + 1) = s.count from by omega], hw⟩)
                      have g60 : ¬ (60 : Int) < (s.count : Int) := by omega
                      have HOU := Lib.hid (outR_any w1.heap.size G1 v _ HGO.out.good HV.out (by omega) s.count s f (f : Int) wr (Nat.le_refl _) hm.rg hfl rfl hvf)
                      have HR := Lib.hid hr
                      have HMB := Lib.hid hm.bel
                      have HK : Hid (a[k]? = some s ∧ k + 1 ≤ a.length) := Lib.hid ⟨hs, hlt⟩
                      have HNO := Lib.hid hno
                      have HSU := Lib.hid hsu
                      have hk64 : k ≤ 64 := by omega
                      generalize hzc : (s.count : Int) = zc at *
                      clear hs hf hvf hfl hno hsu hnd h60 hr hall hm hbW hzc
                      go_wp2_with fail
                      refine HND.out.mono ?_
                      rintro e w3 ⟨rfl, rfl⟩
                      go_wp2_with fail
                      refine HOU.out.mono ?_
                      rintro e w3 ⟨vs, fp1, rfl, hsep1, hnod1, hrng1, hb3⟩
                      obtain ⟨As, ns, cs, rfl⟩ := hsep1.form
                      have hw3 : Below w3.heap.size w3 (w3.alloc (.cells #[.slice As ns cs] 50)) := (Below.refl _ _).alloc (Nat.le_refl _) _
                      have HIS := Lib.hid (is_any s (.slice As ns cs) (w3.alloc (.cells #[.slice As ns cs] 50)) 0 w3.heap.size ((S.Sep.in_ _ hsep1 (fun b hb => ⟨Nat.zero_le _, (hrng1 b hb).2⟩)).below hw3 (Nat.le_refl _)) hw3.size)
                      have hbx := Blk.new w3 50 #[.slice As ns cs]
                      have HBX := Lib.hid hbx
                      have HS1 := Lib.hid (⟨hsep1, hnod1, hrng1, hb3⟩ : s.Sep w3 (.slice As ns cs) fp1 ∧ fp1.Nodup ∧ (∀ b ∈ fp1, wr.heap.size ≤ b ∧ b < w3.heap.size) ∧ Below wr.heap.size wr w3)
                      have z3 : (w3.alloc (.cells #[.slice As ns cs] 50)).heap.size = w3.heap.size + 1 := by simp
                      have HZ3 := Lib.hid z3
                      have hz3 := hb3.size
                      clear hsep1 hnod1 hrng1 hb3 hbx z3
                      go_wp2_with fail
                      refine HIS.out.mono ?_
                      rintro e w4 ⟨rfl, hb4⟩
                      have hz4 : w3.heap.size + 1 ≤ w4.heap.size := by have := hb4.size; rw [HZ3.out] at this; exact this
                      have hb34 : Below w3.heap.size w3 w4 := hw3.trans (hb4.mono hw3.size)
                      have hbw4 : Below wr.heap.size wr w4 := HS1.out.2.2.2.trans (hb34.mono hz3)
                      cases hok : s.ok with
                      | false =>
                        have HF : Hid (SortsPost syms l w (.returned (.tuple #[.slice none 0 0, .int .i64 3])) w4) := Lib.hid (sorts_limit HZC.out HSOL.out (HNO.out hok) (HMB.out.trans (hbw4.mono HMB.out.size)))
                        clear hb4 hb34 hbw4 hok hw3
                        go_wp2_with fail
                        go_ret2
                        exact HF.out
                      | true =>
                        have hbx4 := (HBX.out.below hb4 HBX.out.lt).cell 0
                        simp at hbx4
                        have hown4 := owns_kept HR.out.own (fun b hb => hbw4.block b (HR.out.own.lt b hb).2)
                        have hsep4 := HS1.out.1.keep (w' := w4) _ (fun b hb => hb34.block b (HS1.out.2.2.1 b hb).2)
                        have HS4 : Hid (s.Sep w4 (.slice As ns cs) fp1 ∧ fp1.Nodup ∧ (∀ b ∈ fp1, wr.heap.size ≤ b ∧ b < w4.heap.size) ∧ Saves (· ∈ ([] : List Nat)) wr w4) :=
                          Lib.hid ⟨hsep4, HS1.out.2.1, fun b hb => by have := HS1.out.2.2.1 b hb; omega, ⟨hbw4.os, hbw4.tape, hbw4.output, hbw4.size, fun b hb _ => hbw4.block b hb⟩⟩
                        have hall2 := HSU.out hok
                        have HA2 := Lib.hid hall2
                        have hzW := HR.out.sav.size
                        have hzr4 := hbw4.size
                        clear hb4 hb34 hbw4 hok hw3 hsep4 hall2
                        go_wp2_with
                          (at_builtin
                           refine wpList_append_lies _ rfl _ _ _ rfl _ 50 i3 _ 1 24 Tryz.underlying48 hi3 hz30 HZ.out.2.2.2.2.1 HZ.out.2.2.2.2.2 rfl (by omega) (.slice Ac nc cc) k us (by rfl) (hown4.alloc _)
                             ⟨w4.heap.size, 0, none⟩ 1 1 [.slice As ns cs] (by rfl) (by rfl) (World.news_of_block (cs := #[.slice As ns cs]) (t := 50) (fr := (0, 0)) (heap_alloc_new w4 _)) (fun u hu => by rw [List.mem_singleton.1 hu]; rfl) (by omega) (by simp only [maxLen]; omega) (by omega) (by rw [World.size_alloc]; omega) (w4.heap.size + 1) (by simp) ?_
                           intro gg cap w5 hown5 hgrow hat hlt5)
                        have HF : Hid (R6 a _ (.slice (some ⟨gg, 0, none⟩) (k + 1) cap) (.int .i64 ((k + 1 : Nat) : Int)) w5) :=
                          Lib.hid ⟨k + 1, _, _, HK.out.2, rfl, HR.out.next2 (by simp) HK.out.1 HS4.out.1 HS4.out.2.1 HS4.out.2.2.1 HS4.out.2.2.2 hown5 hgrow hat, HA2.out⟩
                        clear hown5 hgrow hat hlt5 hown4
                        go_wp2_with fail
                        go_roundw
                        case rel => exact HF.out
                        case measure => have := HK.out.2; simp [intOf]; omega
                    · obtain rfl : k = a.length := by omega
                      rw [List.take_length] at hall
                      have HF : Hid (SortsPost syms l w (.returned (.tuple #[.slice Ac nc cc, .int .i64 0])) wr) := by
                        obtain ⟨g1, g2, g3⟩ := hr.done
                        exact Lib.hid ⟨0, a, _, _, rfl, .inr ⟨HZC.out, some a, HSOL.out, by simp [ansE, hall], by simp [ansE, hall]⟩, g1, g2, fun b hb => by have := g3 b hb; have := HM.out.bel.size; omega, hm.bel⟩
                      have hge : ¬ ((a.length : Nat) : Int) < (fs.length : Int) := by have := HLA.out; omega
                      clear hr hall hm hbW
                      go_wp2_with fail
                      go_ret2
                      exact HF.out
end Go.Proofs.YtkkfdiidneoelaaGreatDoor
