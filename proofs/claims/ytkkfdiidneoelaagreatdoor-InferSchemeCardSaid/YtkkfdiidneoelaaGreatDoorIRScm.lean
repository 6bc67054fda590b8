/-
  The reference's Scheme: a contract.
-/
import Derived.Test.YtkkfdiidneoelaaGreatDoorIRSoW
import Derived.Test.YtkkfdiidneoelaaGreatDoorISchemeB
import Derived.Deep.RegionLaw
namespace Go.Proofs.YtkkfdiidneoelaaGreatDoor
open Go.RowKit

section
variable {B B1 b8 : Nat} {sy : List Sy} {fs : List Fn} {v0 v1 : Value} {us : List Value} {w w' : World}
theorem RdI.nextC {W w2 : World} {x : Fn} {u v : Value} {fp : List Nat} {o : Obj} {gg cap : Nat} (h : RdI B B1 b8 sy fs v0 v1 us w) (hbb : Below w.heap.size w W)
    (hs : x.sort.Sep W u fp) (hnd : fp.Nodup) (hfp : ∀ b ∈ fp, B ≤ b ∧ b < B1) (hbd : x.body.NIn W (fun b => w.heap.size ≤ b ∧ b < W.heap.size) v) (hn : x.name.size ≤ maxLen)
    (hown : w2.ownsRow B1 55 5 (.slice (some ⟨gg, 0, none⟩) (fs.length + 1) cap) (fs.length + 1) (us ++ [.string x.name, u, .int .i64 x.body.kind, .int .i64 x.body.num, v]))
    (hgrow : (W.alloc o).grownBy w2 v1.ownBlock) (hat : v1.ownBlock = some gg ∨ gg = W.heap.size + 1) :
    RdI B B1 b8 sy (fs ++ [x]) v0 (.slice (some ⟨gg, 0, none⟩) (fs.length + 1) cap) (us ++ [.string x.name, u, .int .i64 x.body.kind, .int .i64 x.body.num, v]) (w2.setCell ⟨b8, 1, none⟩ (.slice (some ⟨gg, 0, none⟩) (fs.length + 1) cap)) := by
  have hzW := hbb.size
  have hz2 : W.heap.size + 1 ≤ w2.heap.size := by have h1 := hgrow.size; rw [World.size_alloc] at h1; exact h1
  have l0 := h.osy.lt
  have l1 := h.ofn.lt
  have lb := h.box.lt
  have hb1 := h.hb
  have hfar : ∀ b, b < W.heap.size → v1.ownBlock ≠ some b → w2.heap[b]? = W.heap[b]? := fun b hb hne => by
    rw [hgrow.block b (by rw [World.size_alloc]; exact Nat.lt_succ_of_lt hb) (fun e => hne e.symm)]
    exact Below.heap_alloc W o b hb
  have h01 : v0.ownBlock = none ∨ v0.ownBlock ≠ v1.ownBlock := by
    cases hv : v0.ownBlock with
    | none => exact .inl rfl
    | some b => exact .inr (fun e => own_own_ne h.osy h.ofn (by decide) b hv e.symm)
  have h81 : v1.ownBlock ≠ some b8 := own_ne h.ofn h.box (by decide)
  have h80 : v0.ownBlock ≠ some b8 := own_ne h.osy h.box (by decide)
  have hg8 : gg ≠ b8 := by
    rintro rfl
    rcases hat with e | e
    · exact h81 e
    · omega
  have hset : ∀ b, b ≠ b8 → (w2.setCell ⟨b8, 1, none⟩ (.slice (some ⟨gg, 0, none⟩) (fs.length + 1) cap)).heap[b]? = w2.heap[b]? := fun b hb => Below.heap_setCell w2 ⟨b8, 1, none⟩ _ b hb
  have hgo : ∀ b, (Value.slice (some ⟨gg, 0, none⟩) (fs.length + 1) cap).ownBlock = some b → gg = b := fun b hb => by simpa [Value.ownBlock] using hb
  refine ⟨?_, ?_, ?_, ?_, hb1⟩
  · refine owns_kept3 h.osy fun b hb => ?_
    have hlt := (l0 b hb).2
    rw [hset b (fun e => h80 (e ▸ hb)), hfar b (by omega) (fun e => by
      rcases h01 with h2 | h2
      · rw [h2] at hb; cases hb
      · exact h2 (hb.trans e.symm)), hbb.block b hlt]
  · rw [List.length_append]
    exact owns_kept3 hown fun b hb => hset b (fun e => hg8 ((hgo b hb).trans e))
  · have hP : ∀ b, w.heap.size ≤ b → b < W.heap.size → b < (w2.setCell ⟨b8, 1, none⟩ (.slice (some ⟨gg, 0, none⟩) (fs.length + 1) cap)).heap.size ∧ b ≠ b8 ∧ v0.ownBlock ≠ some b ∧ gg ≠ b := fun b h1 h2 =>
      ⟨by simp [World.setCell]; omega, by omega, fun e => by have := l0 b e; omega, fun e => by
        rcases hat with h3 | h3
        · have := l1 gg h3; omega
        · omega⟩
    refine FnMk.snoc ?_ hnd ?_ ?_ hn ?_
    · refine hs.keep _ fun b hb => ?_
      have := hfp b hb
      rw [hset b (by omega), hfar b (by omega) (fun e => by have := l1 b e; omega)]
    · intro b hb
      have := hfp b hb
      refine ⟨this.1, by simp [World.setCell]; omega, by omega, fun e => by have := l0 b e; omega, fun e => ?_⟩
      have e := hgo b e
      rcases hat with h3 | h3
      · have := l1 gg h3; omega
      · omega
    · refine (hbd.keep (w' := w2.setCell ⟨b8, 1, none⟩ (.slice (some ⟨gg, 0, none⟩) (fs.length + 1) cap)) (fun b hb => ?_) _).more (fun b hb => ?_) _
      · rw [hset b (by omega), hfar b hb.2 (fun e => by have := l1 b e; omega)]
      · obtain ⟨g1, g2, g3, g4⟩ := hP b hb.1 hb.2
        exact ⟨by omega, g1, g2, g3, fun e => g4 (hgo b e)⟩
    · refine (h.row.keep (w' := w2.setCell ⟨b8, 1, none⟩ (.slice (some ⟨gg, 0, none⟩) (fs.length + 1) cap)) (fun b hb => ?_) _).more (fun b hb => ?_) _
      · rw [hset b hb.2.2.1, hfar b (by have := hb.2.1; omega) hb.2.2.2.2, hbb.block b hb.2.1]
      · refine ⟨hb.1, by have := hb.2.1; simp [World.setCell]; omega, hb.2.2.1, hb.2.2.2.1, fun e => ?_⟩
        have e := hgo b e
        rcases hat with h3 | h3
        · exact hb.2.2.2.2 (h3.trans (by rw [e]))
        · have := hb.2.1; omega
  · have h1 : Blk w2 b8 25 #[v0, v1] := (hfar b8 (by omega) h81).trans (h.box.below hbb lb)
    exact (h1.set_ 1 _).eq_ rfl
end
theorem symsI_append (w : World) (l : List Sy) (A : Option Addr) (n c : Nat) (P : Nat → Prop) (hn : l.length = n) (hrd : Rd w P A (syCells l)) (hl : l.length ≤ 1000) :
    ∃ v' w', (∀ ty, (Builtin.append_ #[22, 22] ty #[.slice none 0 0, .slice A n c]).run Tryz.prog w = .ok v' w') ∧ w'.ownsRow w.heap.size 65 2 v' l.length (syCells l) ∧ Below w.heap.size w w' ∧ (∃ A c, v' = .slice A n c) := by
  obtain ⟨i0, hi0, hz0, hz1, hz2⟩ := info_parts syI_info
  subst hn
  have hs := syI_length l
  have hown0 : w.ownsRow w.heap.size 65 2 (.slice none 0 0) 0 [] := World.ownsRow_nil _ _ _ _
  by_cases h0 : l = []
  · subst h0
    exact ⟨_, _, fun ty => run_append_nothing2 _ w.heap.size _ ty _ i0 2 Tryz.underlying22 hi0 _ 0 [] hown0 A 0 c rfl, by simpa [syCells] using hown0, Below.refl _ _, ⟨_, _, rfl⟩⟩
  · have hpos : 0 < l.length := by
      cases l with
      | nil => exact absurd rfl h0
      | cons a r => simp
    rcases hrd with e | ⟨ad, rfl, hPad, hcell⟩
    · rw [e] at hs; simp at hs; omega
    · obtain ⟨g, cap, w', hrun, h2, h3, _, _⟩ := run_append_lies (P := Tryz.prog) w 22 22 w.heap.size 65 i0 _ 2 24 Tryz.underlying22 hi0 hz0 hz1 hz2 rfl (by omega) _ 0 [] hown0 ad l.length c (syCells l) hs hcell (syI_one l) hpos (by simp only [maxLen]; omega) (by omega) (Nat.le_refl _) _ rfl
      exact ⟨_, w', fun _ => (hrun :), by simpa using h2, (Below.refl _ w).grown h3 (Nat.le_refl _) (by intro k hk; simp [Value.ownBlock] at hk), ⟨_, _, by rw [Nat.zero_add]⟩⟩
theorem refScm_results {tmps : Array Value} {w : World} {a : Nat} {x y u : Value} (h2 : tmps.getD 4 undef = .pointer (some ⟨a, 0, none⟩)) (h3 : tmps.getD 5 undef = u)
    (ha : Blk w a 25 #[x, y]) : (results Tryz.f12 tmps).run Tryz.prog w = .ok (.tuple #[.agg #[x, y], u]) w := by
  have h4 := ha.cell 0
  have h5 := ha.cell 1
  simp at h4 h5
  have h2' : tmps[4]?.getD undef = .pointer (some ⟨a, 0, none⟩) := by simpa using h2
  have h3' : tmps[5]?.getD undef = u := by simpa using h3
  simp [results, Tryz.results12, go_sem, h2', h3', h4, h5]

set_option maxRecDepth 100000 in
set_option maxHeartbeats 6400000 in
theorem refScheme_any (syms : List Sy) (l : List Lz) (v0 v1 : Value) (w : World) (hi : Nat) (hsy : SyIn w (fun b => b < hi) syms v0) (hl : LzIn w hi l v1) (hhi : hi ≤ w.heap.size) :
    Calls Tryz.prog 12 #[v0, v1] w (SchIPost syms l w) := by
  obtain ⟨i0, hi0, hz0, hz1, hz2⟩ := info_parts fn_info
  have HZ1 := Lib.hid hz1
  have HZ2 := Lib.hid hz2
  clear hz1 hz2
  have hw1 : Below w.heap.size w (w.alloc (.cells #[.slice none 0 0, .slice none 0 0] 25)) := (Below.refl _ _).alloc (Nat.le_refl _) _
  have hB := Blk.new w 25 #[.slice none 0 0, .slice none 0 0]
  have hz : (w.alloc (.cells #[.slice none 0 0, .slice none 0 0] 25)).heap.size = w.heap.size + 1 := by simp
  have HC := Lib.hid (refSorts_any syms l v0 v1 _ hi (hsy.below hw1 hhi) (hl.below hw1 hhi) (by omega))
  unfold SortsPost at HC
  rw [hz] at HC
  have HW1 := Lib.hid hw1
  have HSY := Lib.hid hsy
  have HBX := Lib.hid hB
  obtain ⟨A0, _, c0, rfl, rfl, _, _, hrd0, _⟩ := hsy
  obtain ⟨A, _, c, us0, rfl, rfl, hnc, hc, hrd, hrow⟩ := hl
  have HRD0 := Lib.hid hrd0
  clear hw1 hB hrd0
  go_enter Tryz.func12, Tryz.ntmps12
  go_wp2_with fail
  refine HC.out.mono ?_
  rintro e w1 ⟨E, lst, vl, fp, rfl, han, hsep, hnod, hrng, hb1⟩
  have hbx1 := HBX.out.below hb1 (by omega)
  have hb01 := HW1.out.trans (hb1.mono (by omega))
  have hz1 := hb1.size
  by_cases hE : E = 0
  case neg =>
    have HF : Hid (∀ u, SchIPost syms l w (.returned (.tuple #[.agg #[.slice none 0 0, .slice none 0 0], .int .i64 E])) ((w1.setCell ⟨w.heap.size, 0, none⟩ u).setCell ⟨w.heap.size, 1, none⟩ u)) :=
      Lib.hid fun u => ⟨E, lst, _, _, [], rfl, han, (hb01.setCell (Nat.le_refl _) _).setCell (Nat.le_refl _) _, fun _ => ⟨rfl, rfl⟩, fun h => absurd h hE⟩
    have g : ((E : Int) != 0) = true := by simpa using hE
    have f0 := hbx1.frozen 0
    have f1 := hbx1.frozen 1
    have c0 := hbx1.cell 0
    have c1 := hbx1.cell 1
    simp at c0 c1
    have HBX1 := Lib.hid hbx1
    clear han hsep hnod hrng hb1 hbx1 hb01 hE
    go_wp2_with fail
    refine bodyPost_ret (refScm_results rfl rfl (((HBX1.out.set_ 0 (.slice none 0 0)).set_ 1 (.slice none 0 0)).eq_ (cs' := #[.slice none 0 0, .slice none 0 0]) (by simp))) rfl ?_
    exact HF.out (.slice none 0 0)
  subst hE
  obtain ⟨hlen, h64, h24, h400, hck, hsol, hall⟩ := han.zero
  obtain ⟨Al, nl, cl, rfl⟩ := hsep.form
  have hwb : Below w1.heap.size w1 (w1.alloc (.cells #[.slice none 0 0, .slice none 0 0] 25)) := (Below.refl _ _).alloc (Nat.le_refl _) _
  obtain ⟨v2, w2, hrun, hown2, hb2, A2, c2, rfl⟩ := symsI_append (w1.alloc (.cells #[.slice none 0 0, .slice none 0 0] 25)) syms A0 syms.length c0 _ rfl ((HRD0.out.keep fun b hb => hb01.block b (by omega)).keep fun b hb => hwb.block b (by omega)) (by omega)
  have hb12 : Below w1.heap.size w1 w2 := hwb.trans (hb2.mono (by simp))
  have hbx8 : Blk w2 w1.heap.size 25 #[.slice none 0 0, .slice none 0 0] := (Blk.new w1 _ _).below hb2 (by simp)
  have hz2 : w1.heap.size + 1 ≤ w2.heap.size := by have := hb2.size; simpa using this
  have HA := Lib.hid han
  have HL := Lib.hid hlen
  have H400 := Lib.hid h400
  have hgA : ∀ b, (Value.slice A2 syms.length c2).ownBlock = some b → w1.heap.size + 1 ≤ b := fun b hb => by have := (hown2.lt b hb).1; simpa using this
  have H0 : Hid (SchAt syms l lst (w.heap.size + 1) w1.heap.size w1.heap.size (.slice A2 syms.length c2) (w2.setCell ⟨w1.heap.size, 0, none⟩ (.slice A2 syms.length c2)) (.int .i64 0) (w2.setCell ⟨w1.heap.size, 0, none⟩ (.slice A2 syms.length c2))) :=
    Lib.hid ⟨0, _, [], Nat.zero_le _, rfl, ⟨owns_less (owns_kept3 hown2 fun b hb => Below.heap_setCell w2 ⟨w1.heap.size, 0, none⟩ _ b (by show b ≠ w1.heap.size; have := hgA b hb; omega)) (by simp), by simpa [fnsOf] using World.ownsRow_nil _ _ _ _, by simp [fnsOf, FnMk], (hbx8.set_ 0 _).eq_ rfl, ⟨by omega, Nat.le_refl _⟩⟩, Below.refl _ _⟩
  have HB02 := Lib.hid ((hb01.trans (hb12.mono (by omega))).setCell (p := ⟨w1.heap.size, 0, none⟩) (by show w.heap.size ≤ w1.heap.size; omega) (.slice A2 syms.length c2))
  have HBX2 := Lib.hid ((hbx1.below hb12 (by omega)).far (p := ⟨w1.heap.size, 0, none⟩) (by show w.heap.size ≠ w1.heap.size; omega) (.slice A2 syms.length c2))
  have HSEP2 : Hid ((S.mk lst).Sep (w2.setCell ⟨w1.heap.size, 0, none⟩ (.slice A2 syms.length c2)) (.slice Al nl cl) fp ∧ fp.Nodup ∧ ∀ b ∈ fp, w.heap.size + 1 ≤ b ∧ b < w1.heap.size) :=
    Lib.hid ⟨hsep.keep _ fun b hb => (Below.heap_setCell w2 ⟨w1.heap.size, 0, none⟩ _ b (by show b ≠ w1.heap.size; have := hrng b hb; omega)).trans (hb12.block b (hrng b hb).2), hnod, hrng⟩
  have hzz : (w2.setCell ⟨w1.heap.size, 0, none⟩ (.slice A2 syms.length c2)).heap.size = w2.heap.size := by simp [World.setCell]
  have s2 := hbx8.cell 0
  have s3 := hbx8.frozen 0
  simp at s2
  clear han hlen h400 hck hsol hall hsep hnod hrng hb1 hbx1 hb01 hown2 hb2 hb12 hbx8 hgA hwb
  go_wp2_with (at_builtin; refine Lib.wpList_append_run _ rfl _ _ _ _ rfl _ _ rfl rfl _ _ (hrun _) ?_)
  generalize hW3 : w2.setCell ⟨w1.heap.size, 0, none⟩ (.slice A2 syms.length c2) = W3 at *
  clear hW3 hrun s2 s3
  go_loopw [28] (fun i wr => SchAt syms l lst (w.heap.size + 1) w1.heap.size w1.heap.size (.slice A2 syms.length c2) W3 i wr) (fun i _ => l.length - (intOf i).toNat)
  case atStart => exact H0.out
  case round =>
    clear H0
    obtain ⟨k, v1, us, hk, rfl, hr, hbl⟩ := hrel
    obtain ⟨A1, _, c1, _, rfl⟩ := own_formN hr.ofn
    have hzb := hbl.size
    by_cases hlt : k < l.length
    · have hx : l[k]? = some l[k] := List.getElem?_eq_getElem hlt
      have hs : lst[k]? = some (lst[k]'(by have := HL.out; omega)) := List.getElem?_eq_getElem _
      have hbe : Below w.heap.size w wr := HB02.out.trans (hbl.mono (by omega))
      have hzw := hbe.size
      have hzw8 := hr.box.lt
      have hz81 := hr.hb.2
      obtain ⟨ad, bv, rfl, hPa, hel, hbv, hnm⟩ := lz_el hrd hrow hx
      obtain ⟨r0, r1, r2, r3, r4⟩ := hel.keep (hbe.block _ (by omega))
      have hsn := fnsOf_snoc HL.out hx hs
      have hfl : (fnsOf (l.take k) (lst.take k)).length = k := by rw [fnsOf_len (by simp [HL.out]), List.length_take]; omega
      have h400 := H400.out _ (List.getElem_mem hlt)
      obtain ⟨hsep, hnod, hrng⟩ := HSEP2.out
      have hsepr := hsep.keep (w' := wr) _ fun b hb => hbl.block b (by have := hrng b hb; omega)
      simp only [S.Sep] at hsepr
      obtain ⟨usl, rest, hol, hsl, rfl⟩ := hsepr
      obtain ⟨u, f1, hu, hsu, hnd1, hf1⟩ := hsl.at_ (List.nodup_append.1 hnod).2.1 hs
      have hfr : ∀ b ∈ f1, w.heap.size + 1 ≤ b ∧ b < w1.heap.size := fun b hb => hrng b (by simp [hf1 b hb])
      obtain ⟨gl, hAl, hgl, hcl, hnl⟩ : ∃ gl, Al = some ⟨gl, 0, none⟩ ∧ gl < wr.heap.size ∧ wr.cell? ⟨gl, k, none⟩ = some u ∧ k < nl := by
        rcases hol.2 with ⟨_, h0⟩ | ⟨gl, cap, cur, he, _⟩
        · have := HL.out; omega
        · injection he with e1 e2 e3
          subst e1 e2
          have := hol.cells (g := gl) rfl k u hu
          rw [Addr.add_lit] at this
          exact ⟨gl, rfl, (hol.lt gl rfl).2, by simpa using this, by have := HL.out; omega⟩
      subst hAl
      generalize hxl : l[k] = x at *
      generalize lst[k]'(by have := HL.out; omega) = s at *
      clear hxl
      obtain ⟨As, ns, cs, rfl⟩ := hsu.form
      obtain ⟨Ab, nb, cb, rfl⟩ := hbv.form
      generalize hfs : fnsOf (l.take k) (lst.take k) = fs at *
      have hbw1 : Below wr.heap.size wr (wr.alloc (.cells #[.string x.name, .int .i64 x.params, .int .i64 x.body.kind, .int .i64 x.body.num, .slice Ab nb cb] 74)) := (Below.refl _ _).alloc (Nat.le_refl _) _
      have hbw2 := fun W (h : Below (wr.heap.size + 1) (wr.alloc (.cells #[.string x.name, .int .i64 x.params, .int .i64 x.body.kind, .int .i64 x.body.num, .slice Ab nb cb] 74)) W) => copyT_any x.body.count x.body (.slice Ab nb cb) W (fun b => b < hi) (Nat.le_refl _) (by omega)
        (((hbv.below hbe (fun b hb => by omega)).below hbw1 (fun b hb => by omega)).below h (fun b hb => by omega)) (fun b hb => by have := h.size; simp at this; omega)
      have HCP := Lib.hid hbw2
      have HR := Lib.hid hr
      have HSN := Lib.hid hsn
      have HFL := Lib.hid hfl
      have HFS := Lib.hid hfs
      have HSU := Lib.hid (⟨hsu, hnd1, hfr⟩ : s.Sep wr (.slice As ns cs) f1 ∧ f1.Nodup ∧ ∀ b ∈ f1, w.heap.size + 1 ≤ b ∧ b < w1.heap.size)
      have HBL := Lib.hid hbl
      have HNM := Lib.hid hnm
      have hxb := Blk.new wr 74 #[.string x.name, .int .i64 x.params, .int .i64 x.body.kind, .int .i64 x.body.num, .slice Ab nb cb]
      have HXB := Lib.hid hxb
      have hcW := (hbw1.cell (p := ⟨gl, k, none⟩) hgl).trans hcl
      have hb8 := hr.box.alloc (.cells #[.string x.name, .int .i64 x.params, .int .i64 x.body.kind, .int .i64 x.body.num, .slice Ab nb cb] 74)
      have hfl64 : fs.length ≤ 1000 := by omega
      have hBW := Lib.hid hbw1
      clear hx hs hbe hel hbv hnm hsn hfl hsep hnod hrng hol hsl hu hsu hnd1 hf1 hfr hfs hbw2 hr hbl h400 hxb hbw1 hcl
      go_wp2_with fail
      generalize hWW : wr.alloc (.cells #[.string x.name, .int .i64 x.params, .int .i64 x.body.kind, .int .i64 x.body.num, .slice Ab nb cb] 74) = W at *
      have hzW : W.heap.size = wr.heap.size + 1 := by rw [← hWW]; simp
      have HZW := Lib.hid hzW
      clear hWW hzW
      have q0 := hb8.cell 1
      have q1 := HXB.out.cell 0
      have q2 := HXB.out.cell 2
      have q3 := HXB.out.cell 3
      have q4 := HXB.out.cell 4
      simp at q0 q1 q2 q3 q4
      have HB8 := Lib.hid hb8
      have HCW := Lib.hid hcW
      clear hb8
      go_region_law
        (first
          | (refine step_append_lies _ (by rfl) _ _ _ (by rfl) w1.heap.size 55 i0 _ 5 80 Tryz.underlying23 hi0 hz0 HZ1.out HZ2.out rfl (by omega) (.slice A1 fs.length c1) _ us (by rfl) (by exact (hown3.alloc _))
              ⟨w3.heap.size, 0, none⟩ 1 1 [.string x.name, .slice As ns cs, .int .i64 x.body.kind, .int .i64 x.body.num, .slice Ab2 nb2 cb2] (by rfl) (by rfl) (by exact World.news_of_block (cs := #[.string x.name, .slice As ns cs, .int .i64 x.body.kind, .int .i64 x.body.num, .slice Ab2 nb2 cb2]) (t := 55) (fr := (0, 0)) (heap_alloc_new w3 _)) (by simp [Value.oneCell']) (by omega) (by simp only [maxLen]; omega) (by omega) (by rw [World.size_alloc]; omega) (w3.heap.size + 1) (by simp) ?_
             intro gg cap w4 hown4 hgrow hat hlt4
             have hk4 : ∀ b, b < w3.heap.size → (Value.slice A1 fs.length c1).ownBlock ≠ some b → w4.heap[b]? = w3.heap[b]? := fun b hb hne => (hgrow.block b (by rw [World.size_alloc]; exact Nat.lt_succ_of_lt hb) (fun e => hne e.symm)).trans (Below.heap_alloc w3 _ b hb)
             have g8 : Blk w4 w1.heap.size 25 #[.slice A2 syms.length c2, .slice A1 fs.length c1] := (hk4 _ hb83.lt (own_ne hown3 hb83 (by decide))).trans hb83
             have s1 := g8.cell 1
             have s2 := g8.frozen 1
             simp at s1
             have HF : Hid (SchAt syms l lst (w.heap.size + 1) w1.heap.size w1.heap.size (.slice A2 syms.length c2) W3 (.int .i64 ((k + 1 : Nat) : Int)) (w4.setCell ⟨w1.heap.size, 1, none⟩ (.slice (some ⟨gg, 0, none⟩) (fs.length + 1) cap))) := by
               have hnx := HR.out.nextC (x := lzFn x s) hbr3 (HSU.out.1.keep _ fun b hb => hbr3.block b (by have := HSU.out.2.2 b hb; omega)) HSU.out.2.1 HSU.out.2.2 hnin HNM.out hown4 hgrow hat
               refine Lib.hid ⟨k + 1, _, _, by omega, rfl, by rw [HSN.out]; exact hnx, ?_⟩
               have hz4 : w3.heap.size + 1 ≤ w4.heap.size := by have h1 := hgrow.size; rw [World.size_alloc] at h1; exact h1
               exact (((HBL.out.trans (hbr3.mono (by omega))).alloc (by omega) _).grown hgrow (by rw [World.size_alloc]; omega) (fun b hb => (hown3.lt b hb).1)).setCell (Nat.le_refl _) _
             clear hown4 hgrow hat hlt4 g8 hk4)
          | (go_simp; go_at_call 29
             refine (HCP.out _ (by exact (Below.refl _ _).drew)).mono ?_
             rintro e w3 ⟨vb, usb, rfl, hm3, hb3⟩
             obtain ⟨Ab2, cb2, rfl⟩ := hm3.form
             generalize hnb : x.body.args.length = nb2 at *
             have hz3 : W.heap.size ≤ w3.heap.size := hb3.size
             have hbW3 : Below W.heap.size W w3 := ⟨hb3.os, hb3.tape, hb3.output, hb3.size, fun b hb => hb3.block b hb⟩
             have hbr3 : Below wr.heap.size wr w3 := hBW.out.trans (hbW3.mono (by have := HZW.out; omega))
             have hzr3 := hbr3.size
             have hnin : x.body.NIn w3 (fun b => wr.heap.size ≤ b ∧ b < w3.heap.size) (.slice Ab2 nb2 cb2) := hm3.nterm.more (fun b hb => ⟨by have h1 : W.heap.size ≤ b := hb.1; have := HZW.out; omega, hb.2⟩) _
             have hown3 := owns_kept3 HR.out.ofn fun b hb => hbr3.block b (HR.out.ofn.lt b hb).2
             have hb83 := HB8.out.below hbW3 HB8.out.lt
             have hx3 := HXB.out.below hbW3 HXB.out.lt
             have t0 := hb83.cell 1
             have t1 := hx3.cell 0
             have t2 := (hbW3.cell (p := ⟨gl, k, none⟩) (by show gl < W.heap.size; have := HZW.out; omega)).trans HCW.out
             have t5 : (w3.alloc (.cells #[.string x.name, .slice As ns cs, .int .i64 x.body.kind, .int .i64 x.body.num, .slice Ab2 nb2 cb2] 55)).cell? ⟨w1.heap.size, 1, none⟩ = some (.slice A1 fs.length c1) := (hb83.alloc _).cell 1
             simp at t0 t1
             clear hm3 hb3 hx3))
      all_goals
        go_wp2_with fail
        go_roundw
        case rel => exact HF.out
        case measure => simp [intOf]; omega
    · have hka : k = l.length := by omega
      subst hka
      have hll : l.take l.length = l := List.take_length
      have hal : lst.take l.length = lst := by rw [← HL.out]; exact List.take_length
      rw [hll, hal] at hr
      have hbe : Below w.heap.size w wr := HB02.out.trans (hbl.mono (by omega))
      have hbx := HBX2.out.below hbl (by omega)
      have h80 := hr.box.cell 0
      have h81 := hr.box.cell 1
      have f0 := hbx.frozen 0
      have f1 := hbx.frozen 1
      have c0' := hbx.cell 0
      have c1' := hbx.cell 1
      simp at h80 h81 c0' c1'
      have HBX3 := Lib.hid hbx
      generalize hfl : (fnsOf l lst).length = nf at *
      have HF : Hid (SchIPost syms l w (.returned (.tuple #[.agg #[.slice A2 syms.length c2, .slice A1 nf c1], .int .i64 0])) ((wr.setCell ⟨w.heap.size, 0, none⟩ (.slice A2 syms.length c2)).setCell ⟨w.heap.size, 1, none⟩ (.slice A1 nf c1))) := by
        have hk : ∀ b, w.heap.size + 1 ≤ b → ((wr.setCell ⟨w.heap.size, 0, none⟩ (.slice A2 syms.length c2)).setCell ⟨w.heap.size, 1, none⟩ (.slice A1 nf c1)).heap[b]? = wr.heap[b]? := fun b hb => by
          rw [Below.heap_setCell _ _ _ _ (by show b ≠ w.heap.size; omega), Below.heap_setCell _ _ _ _ (by show b ≠ w.heap.size; omega)]
        have l0 := hr.osy.lt
        have l1 := hr.ofn.lt
        refine Lib.hid ⟨0, lst, _, _, us, rfl, HA.out, (hbe.setCell (Nat.le_refl _) _).setCell (Nat.le_refl _) _, fun h => absurd rfl h, fun _ => ⟨?_, ?_, ?_⟩⟩
        · exact owns_less (owns_kept3 hr.osy fun b hb => hk b (by have := l0 b hb; omega)) (by omega)
        · exact owns_less (owns_kept3 hr.ofn fun b hb => hk b (by have := l1 b hb; omega)) (by omega)
        · exact (hr.row.keep (fun b hb => hk b hb.1) _).more (fun b hb => ⟨by have := hb.1; omega, by have := hb.2.1; simpa [World.setCell] using this, hb.2.2.2⟩) _
      clear hll hal hr hbl hbe hbx hfl
      go_wp2_with fail
      refine bodyPost_ret (refScm_results rfl rfl (((HBX3.out.set_ 0 (.slice A2 syms.length c2)).set_ 1 (.slice A1 nf c1)).eq_ (cs' := #[.slice A2 syms.length c2, .slice A1 nf c1]) (by simp))) rfl ?_
      exact HF.out
end Go.Proofs.YtkkfdiidneoelaaGreatDoor
