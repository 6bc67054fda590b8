/-
  infer.solve: a contract.
-/
import Derived.Test.YtkkfdiidneoelaaGreatDoorGQ
import Derived.Deep.RegionLaw
namespace Go.Proofs.YtkkfdiidneoelaaGreatDoor
open Go.RowKit

/-- What solve answers. -/
def SolvedPost (ls : List Lo) (rs : List Nat) (w : World) (e : Ending) (w' : World) : Prop :=
  Below w.heap.size w w' ∧ ((Solves ls rs none ∧ ∃ val, e = .returned (.tuple #[val, .bool false])) ∨
    ∃ (G : Gr) (ps fs us : List Nat) (val : Value) (v : Nat → D) (a : List S) (vis : Nat → Int), e = .returned (.tuple #[val, .bool true]) ∧ Good G ∧ Gs w' ps G vis ∧ (∀ p ∈ ps, w.heap.size ≤ p) ∧ Nodes ps fs us ∧ Ps (w.heap.size + 1) w' us val ∧ Can G v ∧ G.length ≤ 1000000 ∧
      fs.length = ls.length ∧ a.length = fs.length ∧ (∀ (j f : Nat) (s : S), fs[j]? = some f → a[j]? = some s → v f = s.emb) ∧ Solves ls rs (some a))

def SvLoop1 (syms : List Sy) (w : World) (i : Value) (wr : World) : Prop :=
  ∃ (k : Nat) (ss us : List Nat) (vs : Value) (G : Gr) (ps : List Nat), k ≤ syms.length ∧ i = .int .i64 (k : Int) ∧ SvAt w [] (ranksOf (syms.take k)) [] ss [] us (.slice none 0 0) vs G ps wr ∧ us.length = k ∧ G.length ≤ 9 * k
def SvLoop2 (syms : List Sy) (l : List Lz) (w : World) (i : Value) (wr : World) : Prop :=
  ∃ (k : Nat) (fs ss uf us : List Nat) (vf vs : Value) (G : Gr) (ps : List Nat), k ≤ l.length ∧ i = .int .i64 (k : Int) ∧ SvAt w ((l.take k).map Lz.lo) (ranksOf syms) fs ss uf us vf vs G ps wr ∧ uf.length = k ∧ G.length ≤ 1000 + 17 * k

theorem ok_ranks : ∀ {l : List Sy} {seen : List (List UInt8)}, syOkFrom seen l = true → ∀ x ∈ l, 0 ≤ x.rank ∧ x.rank ≤ 4
  | [], _, _, x, hx => by simp at hx
  | y :: r, seen, h, x, hx => by
    simp only [syOkFrom, rankB, Bool.and_eq_true, decide_eq_true_eq] at h
    rcases List.mem_cons.1 hx with rfl | hx
    · exact h.2.2.1
    · exact ok_ranks h.2.2.2 x hx
theorem syms_rank {l : List Sy} (h : symsB l = true) : ∀ x ∈ l, 0 ≤ x.rank ∧ x.rank ≤ 4 := by
  simp only [symsB, Bool.and_eq_true] at h
  exact ok_ranks h.2

def SvLoop3 (ls : List Lo) (fs ss uf us : List Nat) (vf vs : Value) (G0 : Gr) (w : World) (x i : Value) (wr : World) : Prop :=
  ∃ (k : Nat) (G : Gr) (ps : List Nat), x = vf ∧ k ≤ ls.length ∧ i = .int .i64 (k : Int) ∧ Sv3 w ls fs ss uf us vf vs G0 k G ps wr ∧ G.length ≤ 3000 + 900 * k

set_option maxRecDepth 100000 in
set_option maxHeartbeats 3200000 in
theorem solve_any (syms : List Sy) (l : List Lz) (v0 v1 : Value) (w : World) (hi : Nat) (hsy : SyIn w (fun b => b < hi) syms v0) (hl : LzIn w hi l v1) (hhi : hi ≤ w.heap.size) (hck : checkI syms l = 0) :
    Calls Tryz.prog 65 #[v0, v1] w (SolvedPost (l.map Lz.lo) (ranksOf syms) w) := by
  obtain ⟨i0, hi0, hz0, hz1, hz2⟩ := info_parts pguess_info
  have hoks : symsB syms = true ∧ lzOk syms l = true := by
    unfold checkI at hck
    split at hck
    · rename_i h1
      split at hck
      · rename_i h2; exact ⟨h1, h2⟩
      · cases hck
    · cases hck
  obtain ⟨hs, hlz⟩ := hoks
  have h24 : syms.length ≤ 24 := by
    simp only [symsB, Bool.and_eq_true, decide_eq_true_eq] at hs
    exact hs.1
  have h64 : l.length ≤ 64 := by
    simp only [lzOk, Bool.and_eq_true, decide_eq_true_eq] at hlz
    exact hlz.1
  have hrk : ∀ x ∈ syms, 0 ≤ x.rank ∧ x.rank ≤ 4 := syms_rank hs
  have hfits : ∀ f ∈ l, Lz.fits l.length syms.length f = true := by
    simp only [lzOk, Bool.and_eq_true] at hlz
    exact List.all_eq_true.1 hlz.2.2.2
  obtain ⟨A, _, c, rfl, rfl, hnc, hc, hrd, hsz⟩ := hsy
  obtain ⟨A1, _, c1, us1, rfl, rfl, hnc1, hc1, hrd1, hrow1⟩ := hl
  have HRK := Lib.hid hrk
  have HFT := Lib.hid hfits
  have HZ1 := Lib.hid hz1
  have HZ2 := Lib.hid hz2
  clear hck hs hlz hrk hfits hz1 hz2
  go_enter Tryz.func65, Tryz.ntmps65
  go_wp2_with fail
  go_loopw [17] (fun i wr => SvLoop1 syms w i wr) (fun i _ => syms.length - (intOf i).toNat)
  case atStart => exact ⟨0, [], [], _, [], [], Nat.zero_le _, rfl, by simpa [ranksOf] using SvAt.start w, rfl, by simp⟩
  case round =>
    obtain ⟨k, ss, us, vs, G, ps, hk, rfl, hr, hul, hGl⟩ := hrel
    have hsz' := hr.bel.size
    have hbl := hr.box.lt
    by_cases hlt : k < syms.length
    · have hx : syms[k]? = some syms[k] := List.getElem?_eq_getElem hlt
      obtain ⟨ad, rfl, hPa, hel⟩ := sy_el hrd hx
      obtain ⟨r0, r1⟩ := hel.keep (hr.bel.block _ (by omega))
      have hrx := HRK.out _ (List.mem_of_getElem? hx)
      have htk : ranksOf (syms.take (k + 1)) = ranksOf (syms.take k) ++ [(syms[k]).rank.toNat] := by rw [List.take_add_one, hx, ranksOf, List.map_append]; rfl
      generalize syms[k] = x at *
      obtain ⟨name, rank⟩ := x
      simp only at r0 r1 hrx htk
      obtain ⟨rk, rfl⟩ : ∃ rk : Nat, rank = (rk : Int) := ⟨rank.toNat, by omega⟩
      have hfun := function_any ps G (fun _ => 0) false rk ((wr.alloc (.cells #[.string name, .int .i64 (rk : Int)] 65)).drew) hr.bg.good ((hr.gs.alloc _).drew) (fun _ _ => rfl) (by omega)
      have d0 := (hr.box.alloc (.cells #[.string name, .int .i64 (rk : Int)] 65)).cell 2
      have hxB := Blk.new wr 65 #[.string name, .int .i64 (rk : Int)]
      have d1 := hxB.cell 1
      have HFN := Lib.hid hfun
      have HX := Lib.hid hx
      have HTK := Lib.hid htk
      have HR := Lib.hid hr
      have HU := Lib.hid hul
      simp at d0 d1
      obtain ⟨A2, c2, rfl⟩ := hr.p2.form
      clear hfun hx htk hr hul hel
      go_wp2_with fail
      go_region_law
        (first
          | (refine step_append_lies _ (by rfl) _ _ _ (by rfl) (w.heap.size + 1) 127 i0 _ 1 8 Tryz.underlying124 hi0 hz0 HZ1.out HZ2.out rfl (by omega) (.slice A2 us.length c2) _ (us.map pv) (by rfl) (by exact (hown1.alloc _))
              ⟨w1.heap.size, 0, none⟩ 1 1 [pv p] (by rfl) (by rfl) (by exact World.news_of_block (cs := #[pv p]) (t := 127) (fr := (0, 0)) (heap_alloc_new w1 _)) (by simp [Value.oneCell']) (by omega) (by rw [HU.out]; simp only [maxLen]; omega) (by rw [HU.out]; omega) (by simp; omega) (w1.heap.size + 1) (by simp) ?_
             intro gg cap w2 hown2 hgrow hat hlt2
             have hst := HR.out.step (m := m) (G' := G') hbb1 hwz hg1 hmm _ _ HR.out.p2 hgrow
             have s1 := hst.2.1.cell 2
             have s2 := hst.2.1.frozen 2
             simp at s1)
          | (go_simp; go_at_call 113; refine HFN.out.mono ?_; rintro e w1 ⟨G', m, top, p, he, hlen, hp, rfl, hg1, hmn, hb1⟩
             have hwz : wr.heap.size + 1 ≤ w1.heap.size := by have h : (wr.alloc (.cells #[.string name, .int .i64 (rk : Int)] 65)).heap.size ≤ w1.heap.size := hb1.size; simpa using h
             have hbb1 : Below (wr.heap.size + 1) (wr.alloc (.cells #[.string name, .int .i64 (rk : Int)] 65)).drew w1 := hb1.mono (by show _ ≤ (wr.alloc _).heap.size; simp)
             have hown1 : w1.ownsRow (w.heap.size + 1) 127 1 (.slice A2 us.length c2) us.length (us.map pv) := owns_kept3 ((World.ownsRow.alloc HR.out.p2 _)) (fun b hb => hbb1.block b (by have := (HR.out.p2.lt hb).2; omega))
             have hblk1 : Blk w1 w.heap.size 183 #[.slice none 0 0, .slice none 0 0, .slice A2 us.length c2] := ((HR.out.box.alloc _).drew).below hbb1 (by omega)
             have hxb1 : Blk w1 wr.heap.size 65 #[.string name, .int .i64 (rk : Int)] := ((Blk.new wr 65 _).drew).below hbb1 (by omega)
             have q1 := hblk1.cell 2
             have q2 := hxb1.cell 1
             have q5 : (w1.alloc (.cells #[pv p] 127)).cell? ⟨w.heap.size, 2, none⟩ = some (.slice A2 us.length c2) := (hblk1.alloc _).cell 2
             have hmm : ∀ b ∈ m, wr.heap.size + 1 ≤ b := fun b hb => by have h : (wr.alloc (.cells #[.string name, .int .i64 (rk : Int)] 65)).heap.size ≤ b := hmn b hb; simpa using h
             simp at q1 q2))
      all_goals
        have hnx := HR.out.nextS he hp hwz hst hown2 hat
        have HF : Hid (SvLoop1 syms w (.int .i64 ((k + 1 : Nat) : Int)) (w2.setCell ⟨w.heap.size, 2, none⟩ (.slice (some ⟨gg, 0, none⟩) (us.length + 1) cap))) := by
          have e := HTK.out
          rw [Int.toNat_natCast] at e
          rw [← e] at hnx
          exact Lib.hid ⟨k + 1, _, _, _, _, _, by omega, rfl, hnx, by simp [HU.out], by omega⟩
        clear hnx he hp hst hown2 hat hgrow hg1 hb1 hbb1 hmm hmn hblk1 hxb1 hlt2
        go_wp2_with fail
        go_roundw
        case rel => simpa using HF.out
        case measure => simp [intOf]; omega
    · have hks : syms.take k = syms := List.take_of_length_le (by omega)
      rw [hks] at hr
      have hul24 : us.length ≤ 24 := by omega
      obtain ⟨A2, c2, rfl⟩ := hr.p2.form
      have H0 : Hid (SvLoop2 syms l w (.int .i64 0) wr) := Lib.hid ⟨0, [], ss, [], us, _, _, G, ps, Nat.zero_le _, rfl, by simpa using hr, rfl, by omega⟩
      clear hr hks hul
      go_wp2_with fail
      go_loopw [32] (fun i wr => SvLoop2 syms l w i wr) (fun i _ => l.length - (intOf i).toNat)
      case atStart => exact H0.out
      case round =>
        clear H0
        obtain ⟨k, fs, ss, uf, us, vf, vs, G, ps, hk, rfl, hr, hul, hGl⟩ := hrel
        have hsz' := hr.bel.size
        have hbl := hr.box.lt
        by_cases hlt : k < l.length
        · have hx : l[k]? = some l[k] := List.getElem?_eq_getElem hlt
          obtain ⟨ad, v, rfl, hPa, hel, hbv, hnm⟩ := lz_el hrd1 hrow1 hx
          obtain ⟨r0, r1, r2, r3, r4⟩ := hel.keep (hr.bel.block _ (by omega))
          have hfx := HFT.out _ (List.mem_of_getElem? hx)
          have htk : (l.take (k + 1)).map Lz.lo = (l.take k).map Lz.lo ++ [(l[k]).lo] := by rw [List.take_add_one, hx, List.map_append]; rfl
          generalize l[k] = x at *
          obtain ⟨name, params, body⟩ := x
          simp only [Lz.fits, Bool.and_eq_true, decide_eq_true_eq] at hfx
          simp only [Lz.lo] at htk
          simp only at r0 r1 r2 r3 r4 hbv
          obtain ⟨rk, rfl⟩ : ∃ rk : Nat, params = (rk : Int) := ⟨params.toNat, by omega⟩
          obtain ⟨A', n', c', rfl⟩ := hbv.form
          rw [Int.toNat_natCast] at htk
          have hfun := function_any ps G (fun _ => 0) true rk ((wr.alloc (.cells #[.string name, .int .i64 (rk : Int), .int .i64 body.kind, .int .i64 body.num, .slice A' n' c'] 70)).drew) hr.bg.good ((hr.gs.alloc _).drew) (fun _ _ => rfl) (by omega)
          have d0 := (hr.box.alloc (.cells #[.string name, .int .i64 (rk : Int), .int .i64 body.kind, .int .i64 body.num, .slice A' n' c'] 70)).cell 1
          have hxB := Blk.new wr 70 #[.string name, .int .i64 (rk : Int), .int .i64 body.kind, .int .i64 body.num, .slice A' n' c']
          have d1 := hxB.cell 1
          have HFN := Lib.hid hfun
          have HTK := Lib.hid htk
          have HR := Lib.hid hr
          have HU := Lib.hid hul
          have h8 : (rk : Int) ≤ 8 := hfx.2.1
          simp at d0 d1
          obtain ⟨A2, c2, rfl⟩ := hr.pf.form
          obtain ⟨A3, c3, rfl⟩ := hr.p2.form
          clear hfun hx htk hr hul hel hbv hnm hfx
          go_wp2_with fail
          go_region_law
            (first
              | (refine step_append_lies _ (by rfl) _ _ _ (by rfl) (w.heap.size + 1) 127 i0 _ 1 8 Tryz.underlying124 hi0 hz0 HZ1.out HZ2.out rfl (by omega) (.slice A2 uf.length c2) _ (uf.map pv) (by rfl) (by exact (hown1.alloc _))
                  ⟨w1.heap.size, 0, none⟩ 1 1 [pv p] (by rfl) (by rfl) (by exact World.news_of_block (cs := #[pv p]) (t := 127) (fr := (0, 0)) (heap_alloc_new w1 _)) (by simp [Value.oneCell']) (by omega) (by rw [HU.out]; simp only [maxLen]; omega) (by rw [HU.out]; omega) (by simp; omega) (w1.heap.size + 1) (by simp) ?_
                 intro gg cap w2 hown2 hgrow hat hlt2
                 have hst := HR.out.step (m := m) (G' := G') hbb1 hwz hg1 hmm _ _ HR.out.pf hgrow
                 have s1 := hst.2.1.cell 1
                 have s2 := hst.2.1.frozen 1
                 simp at s1)
              | (go_simp; go_at_call 113; refine HFN.out.mono ?_; rintro e w1 ⟨G', m, top, p, he, hlen, hp, rfl, hg1, hmn, hb1⟩
                 have hwz : wr.heap.size + 1 ≤ w1.heap.size := by have h : (wr.alloc (.cells #[.string name, .int .i64 (rk : Int), .int .i64 body.kind, .int .i64 body.num, .slice A' n' c'] 70)).heap.size ≤ w1.heap.size := hb1.size; simpa using h
                 have hbb1 : Below (wr.heap.size + 1) (wr.alloc (.cells #[.string name, .int .i64 (rk : Int), .int .i64 body.kind, .int .i64 body.num, .slice A' n' c'] 70)).drew w1 := hb1.mono (by show _ ≤ (wr.alloc _).heap.size; simp)
                 have hown1 : w1.ownsRow (w.heap.size + 1) 127 1 (.slice A2 uf.length c2) uf.length (uf.map pv) := owns_kept3 ((World.ownsRow.alloc HR.out.pf _)) (fun b hb => hbb1.block b (by have := (HR.out.pf.lt hb).2; omega))
                 have hblk1 : Blk w1 w.heap.size 183 #[.slice none 0 0, .slice A2 uf.length c2, .slice A3 us.length c3] := ((HR.out.box.alloc _).drew).below hbb1 (by omega)
                 have hxb1 : Blk w1 wr.heap.size 70 #[.string name, .int .i64 (rk : Int), .int .i64 body.kind, .int .i64 body.num, .slice A' n' c'] := ((Blk.new wr 70 _).drew).below hbb1 (by omega)
                 have q1 := hblk1.cell 1
                 have q2 := hxb1.cell 1
                 have q5 : (w1.alloc (.cells #[pv p] 127)).cell? ⟨w.heap.size, 1, none⟩ = some (.slice A2 uf.length c2) := (hblk1.alloc _).cell 1
                 have hmm : ∀ b ∈ m, wr.heap.size + 1 ≤ b := fun b hb => by have h : (wr.alloc (.cells #[.string name, .int .i64 (rk : Int), .int .i64 body.kind, .int .i64 body.num, .slice A' n' c'] 70)).heap.size ≤ b := hmn b hb; simpa using h
                 simp at q1 q2))
          all_goals
            have hnx := HR.out.nextF (l := (rk, body)) he hp hwz hst hown2 hat
            have HF : Hid (SvLoop2 syms l w (.int .i64 ((k + 1 : Nat) : Int)) (w2.setCell ⟨w.heap.size, 1, none⟩ (.slice (some ⟨gg, 0, none⟩) (uf.length + 1) cap))) := by
              have e := HTK.out
              rw [← e] at hnx
              exact Lib.hid ⟨k + 1, _, _, _, _, _, _, _, _, by omega, rfl, hnx, by simp [HU.out], by omega⟩
            clear hnx he hp hst hown2 hat hgrow hg1 hb1 hbb1 hmm hmn hblk1 hxb1 hlt2
            go_wp2_with fail
            go_roundw
            case rel => simpa using HF.out
            case measure => simp [intOf]; omega
        · have hks : l.take k = l := List.take_of_length_le (by omega)
          rw [hks] at hr
          obtain ⟨A2, c2, rfl⟩ := hr.pf.form
          obtain ⟨A3, c3, rfl⟩ := hr.p2.form
          have d0 := hr.box.cell 1
          simp at d0
          have HR := Lib.hid hr
          clear hr hks hul
          have H0 : Hid (SvLoop3 (l.map Lz.lo) fs ss uf us (.slice A2 uf.length c2) (.slice A3 us.length c3) G w (.slice A2 uf.length c2) (.int .i64 0) wr) := Lib.hid ⟨0, G, ps, rfl, Nat.zero_le _, rfl, HR.out.three, by omega⟩
          have HBG := Lib.hid HR.out.bg
          have hufl : uf.length = l.length := by have := HR.out.nf.1; have := HR.out.bg.lf; simp at this; omega
          have HUF := Lib.hid hufl
          clear HR hufl
          go_wp2_with fail
          go_loopw [4, 49] (fun x i wr => SvLoop3 (l.map Lz.lo) fs ss uf us (.slice A2 uf.length c2) (.slice A3 us.length c3) G w x i wr) (fun _ i _ => l.length - (intOf i).toNat)
          case atStart => exact H0.out
          case round =>
            clear H0
            obtain ⟨k, G1, ps1, rfl, hk, rfl, hr, hGl1⟩ := hrel
            have hsz1 := hr.bel.size
            have hk' : k ≤ l.length := by simpa using hk
            by_cases hlt : k < l.length
            · have hx : l[k]? = some l[k] := List.getElem?_eq_getElem hlt
              obtain ⟨ad, v, rfl, hPa, hel, hbv, hnm⟩ := lz_el hrd1 hrow1 hx
              obtain ⟨r0, r1, r2, r3, r4⟩ := hel.keep (hr.bel.block _ (by omega))
              have hfx := HFT.out _ (List.mem_of_getElem? hx)
              have hlo : (l.map Lz.lo)[k]? = some (l[k]).lo := by rw [List.getElem?_map, hx]; rfl
              obtain ⟨f, hf⟩ : ∃ f, fs[k]? = some f := ⟨fs[k]'(by have := HBG.out.lf; simp at this; omega), List.getElem?_eq_getElem _⟩
              obtain ⟨pf, hu, hpx⟩ := hr.nf.2 k f hf
              obtain ⟨adf, rfl, hBf, hblf, hcf⟩ := hr.pf.cell hu
              generalize l[k] = x at *
              obtain ⟨name, params, body⟩ := x
              simp only [Lz.fits, Bool.and_eq_true, decide_eq_true_eq] at hfx
              simp only [Lz.lo] at hlo
              simp only at r0 r1 r2 r3 r4 hbv
              obtain ⟨rk, rfl⟩ : ∃ rk : Nat, params = (rk : Int) := ⟨params.toNat, by omega⟩
              obtain ⟨A', n', c', rfl⟩ := hbv.form
              rw [Int.toNat_natCast] at hlo hfx
              obtain ⟨vc, hvc⟩ := Can.exists hr.go.good
              obtain ⟨ds, hds1, hds2⟩ := HBG.out.funs vc (hr.go.back vc hvc.sol).1 k f _ hf hlo
              have hbx : Below wr.heap.size wr (wr.alloc (.cells #[.string name, .int .i64 (rk : Int), .int .i64 body.kind, .int .i64 body.num, .slice A' n' c'] 70)) := (Below.refl _ _).alloc (Nat.le_refl _) _
              have hca := args_any ps1 G1 (fun _ => 0) vc ds f pf (wr.alloc (.cells #[.string name, .int .i64 (rk : Int), .int .i64 body.kind, .int .i64 body.num, .slice A' n' c'] 70)) hr.go.good hvc (by omega) (hr.gs.alloc _) hpx hds2
              have HCA := Lib.hid hca
              have HR := Lib.hid hr
              have HX : Hid ((l.map Lz.lo)[k]? = some (rk, body) ∧ fs[k]? = some f ∧ ds.length = rk ∧ body.In w (fun b => b < hi) (.slice A' n' c') ∧ bodyIn rk l.length syms.length body = true) := Lib.hid ⟨hlo, hf, hds1, hbv, hfx.2.2⟩
              have hcf2 : (wr.alloc (.cells #[.string name, .int .i64 (rk : Int), .int .i64 body.kind, .int .i64 body.num, .slice A' n' c'] 70)).cell? (adf.add k) = some (pv pf) := (hbx.cell (p := adf.add k) (by rw [block_of_add]; exact hblf)).trans hcf
              have hkf : (k : Int) < (uf.length : Int) := by have := HUF.out; omega
              have hk0 : (0 : Int) ≤ (k : Int) := by omega
              clear hx hel hbv hnm hfx hlo hf hu hpx hcf hca hr hds1 hds2 hvc hbx
              go_wp2_with fail
              refine HCA.out.mono ?_
              rintro e w1 ⟨G2, qs, u0, val, rfl, ha2, hg2, ht2, hn2, hp2, hqd, hch⟩
              obtain ⟨Av, cv, rfl⟩ := hp2.form
              have hz1 := ht2.sav.size
              simp only [World.size_alloc] at hz1
              have hqn : qs.length = rk := by rw [← HX.out.2.2.1, ← hqd]; simp
              obtain ⟨Ab, nb, cb, hbox⟩ := HR.out.box
              have hbl1 : w.heap.size ∉ ps1 := fun h => by have := HR.out.base _ h; omega
              have hbw := hbox.lt
              have hb1 : Blk w1 w.heap.size 183 #[.slice Ab nb cb, .slice (some adf) uf.length c2, .slice A3 us.length c3] := (hbox.alloc _).saves ht2.sav hbl1
              have hb2 := hb1.set_ 0 (.slice Av u0.length cv)
              simp at hb2
              have hlt1 : wr.heap.size < w1.heap.size := by omega
              have hxn : wr.heap.size ∉ ps1 := fun h => by have := HR.out.gs.lt h; omega
              have hx1 : Blk w1 wr.heap.size 70 #[.string name, .int .i64 (rk : Int), .int .i64 body.kind, .int .i64 body.num, .slice A' n' c'] := (Blk.new wr _ _).saves ht2.sav hxn
              have hx2 := hx1.far (p := ⟨w.heap.size, 0, none⟩) (by show wr.heap.size ≠ w.heap.size; omega) (.slice Av u0.length cv)
              have f0 := hb1.frozen 0
              have c0 := hb1.cell 0
              have e0 := hb2.cell 0
              have e1 := hb2.cell 1
              have e2 := hb2.cell 2
              have x2 := hx2.cell 2
              have x3 := hx2.cell 3
              have x4 := hx2.cell 4
              simp at c0 e0 e1 e2 x2 x3 x4
              have hsv : Saves (· ∈ ps1) wr w1 := ⟨ht2.sav.os, ht2.sav.tape, ht2.sav.output, by omega, fun b hb hn => (ht2.sav.block b (by simp; omega) hn).trans (Below.heap_alloc wr _ b hb)⟩
              have hbel1 : Below w.heap.size w w1 := HR.out.bel.trans (hsv.below hsz1 (fun b hb hm => by have := HR.out.base b hm; omega))
              have hgs2 : Gs (w1.setCell ⟨w.heap.size, 0, none⟩ (.slice Av u0.length cv)) ps1 G2 (fun _ => 0) := hg2.keep fun b hb => Below.heap_setCell w1 ⟨w.heap.size, 0, none⟩ _ b (by show b ≠ w.heap.size; have := HR.out.base b hb; omega)
              have hfar : ∀ {B : Nat} {us : List Nat} {v : Value}, w.heap.size + 1 ≤ B → Ps B w1 us v → Ps B (w1.setCell ⟨w.heap.size, 0, none⟩ (.slice Av u0.length cv)) us v := fun hB h => h.keep fun b hb _ => Below.heap_setCell w1 ⟨w.heap.size, 0, none⟩ _ b (by show b ≠ w.heap.size; omega)
              have hpv2 := hfar (B := (wr.alloc (.cells #[.string name, .int .i64 (rk : Int), .int .i64 body.kind, .int .i64 body.num, .slice A' n' c'] 70)).heap.size) (by simp; omega) hp2
              have hpf2 := hfar (Nat.le_refl _) (HR.out.pf.saves_ HR.out.gs hsv)
              have hps2 := hfar (Nat.le_refl _) (HR.out.p2.saves_ HR.out.gs hsv)
              have hbel2 : Below w.heap.size w (w1.setCell ⟨w.heap.size, 0, none⟩ (.slice Av u0.length cv)) := hbel1.setCell (by simp) _
              have hctx : HCtx w.heap.size ps1 qs fs ss u0 uf us (.slice Av u0.length cv) (.slice (some adf) uf.length c2) (.slice A3 us.length c3) (w1.setCell ⟨w.heap.size, 0, none⟩ (.slice Av u0.length cv)) :=
                ⟨hpv2.prd_ hgs2, hpf2.prd_ hgs2, hps2.prd_ hgs2, hn2, HR.out.nf, HR.out.ns, fun b hb => by have := HR.out.base b hb; omega, hbel2.size⟩
              have hbin : body.In (w1.setCell ⟨w.heap.size, 0, none⟩ (.slice Av u0.length cv)) (· < w.heap.size) (.slice A' n' c') := T.In.more (fun b hb => by omega) _ (T.In.below HX.out.2.2.2.1 hbel2 (fun b hb => by omega))
              have hbody : body.count ≤ 400 ∧ body.exist qs.length fs.length ss.length = true := by
                have := HX.out.2.2.2.2
                simp only [bodyIn, Bool.and_eq_true, decide_eq_true_eq] at this
                have h1 := HBG.out.lf
                have h2 := HBG.out.ls_
                simp [ranksOf] at h1 h2
                rw [hqn, h1, h2]
                exact ⟨this.1, this.2.2⟩
              have hso := sortI_any (fun _ => 0) w.heap.size 0 (fun _ _ => rfl) qs fs ss u0 uf us _ _ _ body.count body _ _ ps1 G2 (Nat.le_refl _) ha2.good (Nat.zero_le _) hgs2 hctx hbin hbody.2
              have HSO := Lib.hid hso
              have H2 : Hid (Going (l.map Lz.lo) fs ss G k G2 ∧ (∀ v, Sol G2 v → ∃ e, v f = chainD (qs.map v) e) ∧ qs.length = rk ∧ G2.length = G1.length ∧ body.count ≤ 400 ∧ Below w.heap.size w (w1.setCell ⟨w.heap.size, 0, none⟩ (.slice Av u0.length cv)) ∧ Gs (w1.setCell ⟨w.heap.size, 0, none⟩ (.slice Av u0.length cv)) ps1 G2 (fun _ => 0) ∧
                  Ps (w.heap.size + 1) (w1.setCell ⟨w.heap.size, 0, none⟩ (.slice Av u0.length cv)) uf (.slice (some adf) uf.length c2) ∧ Ps (w.heap.size + 1) (w1.setCell ⟨w.heap.size, 0, none⟩ (.slice Av u0.length cv)) us (.slice A3 us.length c3) ∧ Blk (w1.setCell ⟨w.heap.size, 0, none⟩ (.slice Av u0.length cv)) w.heap.size 183 #[.slice Av u0.length cv, .slice (some adf) uf.length c2, .slice A3 us.length c3]) :=
                Lib.hid ⟨HR.out.go.alike ha2, fun v hv => hch v ((ha2.sol v).1 hv), hqn, ha2.len, hbody.1, hbel2, hgs2, hpf2, hps2, hb2⟩
              clear ha2 hg2 ht2 hn2 hp2 hqd hch hqn hbox hbl1 hb1 hb2 hx1 hx2 hsv hbel1 hgs2 hfar hpv2 hpf2 hps2 hbel2 hctx hbin hbody hso hxn
              go_wp2_with fail
              refine HSO.out.mono ?_
              rintro e w3 ⟨G3, m3, res, hg3, hgd3, hs3, hm3, hle3, hlen3, hres⟩
              have hz3 := hs3.size
              simp only [World.setCell, Array.size_modify] at hz3
              have hz2w : w.heap.size + 1 ≤ w1.heap.size := by omega
              have HB3 : Hid (Below w.heap.size w w3) := Lib.hid (H2.out.2.2.2.2.2.1.trans (hs3.below H2.out.2.2.2.2.2.1.size (fun b hb hm => by have := HR.out.base b hm; omega)))
              have HM3 : Hid (∀ b ∈ ps1 ++ m3, w.heap.size + 1 ≤ b) := Lib.hid fun b hb => by
                rcases List.mem_append.1 hb with hb | hb
                · exact HR.out.base b hb
                · have h1 := hm3 b hb
                  simp only [World.setCell, Array.size_modify] at h1
                  omega
              have HP3 : Hid (Ps (w.heap.size + 1) w3 uf (.slice (some adf) uf.length c2) ∧ Ps (w.heap.size + 1) w3 us (.slice A3 us.length c3) ∧ Blk w3 w.heap.size 183 #[.slice Av u0.length cv, .slice (some adf) uf.length c2, .slice A3 us.length c3]) := by
                obtain ⟨_, _, _, _, _, _, h7, h8, h9, h10⟩ := H2.out
                exact Lib.hid ⟨h8.saves_ h7 hs3, h9.saves_ h7 hs3, h10.saves hs3 (fun h => by have := HR.out.base _ h; omega)⟩
              have HG3 : Hid (Gs w3 (ps1 ++ m3) G3 (fun _ => 0) ∧ Good G3 ∧ G3.length + 2 ≤ G2.length + 2 * body.count) := Lib.hid ⟨hg3, hgd3, hlen3⟩
              clear hg3 hgd3 hs3 hm3 hle3 hlen3 hz3 c0 f0 e0 e1 e2 x2 x3 x4
              cases res with
              | none =>
                obtain ⟨rfl, hno⟩ := hres
                have HF : Hid (SolvedPost (l.map Lz.lo) (ranksOf syms) w (.returned (.tuple #[.slice none 0 0, .bool false])) w3) := by
                  obtain ⟨h1, h2, h3, _⟩ := H2.out
                  exact Lib.hid ⟨HB3.out, .inl ⟨Going.fails HBG.out h1 HX.out.2.1 HX.out.1 h3 h2 hno, _, rfl⟩⟩
                clear hno
                go_wp2_with fail
                go_ret2
                exact HF.out
              | some r =>
                obtain ⟨p, hp, rfl, hty⟩ := hres
                obtain ⟨ok, hok⟩ := Unifies.bool (G3 ++ [.tree]) r G3.length
                have hl3 := HG3.out.1.len
                have hg4 := HG3.out.1.new (d := .tree) (sm := none) (fr := none) (to_ := none) (kd := 1) ⟨rfl, rfl⟩ rfl
                have hj := join_any _ _ (G3 ++ [.tree]) (fun _ => 0) r G3.length p w3.heap.size ok _ (Nat.le_refl _) (HG3.out.2.1.more rfl (fun _ _ h => by cases h)) hg4 (get_more hp _) (by rw [← hl3, List.getElem?_concat_length]) hok
                have HJ := Lib.hid hj
                have HT := Lib.hid hty
                have HG4 := Lib.hid hg4
                clear hj hty hp hg4 hok hl3
                cases ok with
                | false =>
                  go_wp2_with fail
                  refine HJ.out.mono ?_
                  rintro e w5 ⟨rfl, G5, hj5, hg5, ht5⟩
                  have HF : Hid (SolvedPost (l.map Lz.lo) (ranksOf syms) w (.returned (.tuple #[.slice none 0 0, .bool false])) w5) := by
                    obtain ⟨h1, h2, h3, _⟩ := H2.out
                    have hb4 := HB3.out.alloc HB3.out.size (.cells (gcells none 1 none none 0) 190)
                    refine Lib.hid ⟨hb4.trans (ht5.sav.below hb4.size (fun b hb hm => ?_)), .inl ⟨Going.differs HBG.out h1 HX.out.2.1 HX.out.1 h3 h2 HT.out (fun v hv => (tree_back v hv).2) (tree_on HG3.out.2.1) hj5, _, rfl⟩⟩
                    rcases List.mem_append.1 hm with hm | hm
                    · have := HM3.out b hm; omega
                    · rw [List.mem_singleton.1 hm] at hb; have := HB3.out.size; omega
                  clear hj5 hg5 ht5
                  go_wp2_with fail
                  go_ret2
                  exact HF.out
                | true =>
                  go_wp2_with fail
                  refine HJ.out.mono ?_
                  rintro e w5 ⟨rfl, G5, hj5, hg5, ht5⟩
                  have HF : Hid (SvLoop3 (l.map Lz.lo) fs ss uf us (.slice (some adf) uf.length c2) (.slice A3 us.length c3) G w (.slice (some adf) uf.length c2) (.int .i64 ((k + 1 : Nat) : Int)) w5) := by
                    obtain ⟨h1, h2, h3, h4, h5, _⟩ := H2.out
                    obtain ⟨g1, g2, g3⟩ := HP3.out
                    have hb4 := HB3.out.alloc HB3.out.size (.cells (gcells none 1 none none 0) 190)
                    have hbase : ∀ b ∈ ps1 ++ m3 ++ [w3.heap.size], w.heap.size + 1 ≤ b := fun b hm => by
                      rcases List.mem_append.1 hm with hm | hm
                      · exact HM3.out b hm
                      · rw [List.mem_singleton.1 hm]; have := g3.lt; omega
                    have hw4 : Below w3.heap.size w3 (w3.alloc (.cells (gcells none 1 none none 0) 190)) := (Below.refl _ _).alloc (Nat.le_refl _) _
                    have hl5 := hj5.len
                    have hlG := HG3.out.2.2
                    simp only [List.length_append, List.length_cons, List.length_nil] at hl5
                    refine Lib.hid ⟨k + 1, G5, ps1 ++ m3 ++ [w3.heap.size], rfl, by simp; omega, rfl, ⟨?_, hg5, (HR.out.nf.more m3).more _, (HR.out.ns.more m3).more _, (g1.below hw4).saves_ HG4.out ht5.sav, (g2.below hw4).saves_ HG4.out ht5.sav, ?_, hbase, ?_⟩, by omega⟩
                    · exact Going.body HBG.out h1 HX.out.2.1 HX.out.1 h3 h2 HT.out (by simp) tree_back (tree_on HG3.out.2.1) hj5
                    · exact ⟨_, _, _, (g3.alloc _).saves ht5.sav (fun h => by have := hbase _ h; omega)⟩
                    · exact hb4.trans (ht5.sav.below hb4.size (fun b hb hm => by have := hbase b hm; omega))
                  clear hj5 hg5 ht5
                  go_wp2_with fail
                  go_roundw
                  case rel => simpa using HF.out
                  case measure => simp [intOf]; omega
            · have hkl : k = (l.map Lz.lo).length := by simp; omega
              subst hkl
              obtain ⟨v, hv⟩ := Can.exists hr.go.good
              have hcn := contains_any ps1 G1 v fs uf (w.heap.size + 1) _ wr hr.go.good hv hr.gs hr.nf hr.pf (hr.pf.not_in hr.gs)
              have HCN := Lib.hid hcn
              have HR := Lib.hid hr
              have HV := Lib.hid hv
              clear hcn hr hv
              go_wp2_with fail
              refine HCN.out.mono ?_
              rintro e w2 ⟨ok, rfl, G2, vis2, ha2, hg2, hs2, hyes, hno⟩
              have HB2 : Hid (Below w.heap.size w w2) := Lib.hid (HR.out.bel.trans (hs2.below hsz1 (fun b hb hm => by have := HR.out.base b hm; omega)))
              cases ok with
              | true =>
                have HF : Hid (SolvedPost (l.map Lz.lo) (ranksOf syms) w (.returned (.tuple #[.slice A2 uf.length c2, .bool false])) w2) := by
                  obtain ⟨x, hx, hinf⟩ := hyes rfl
                  exact Lib.hid ⟨HB2.out, .inl ⟨HR.out.go.endless HBG.out hx hinf, _, rfl⟩⟩
                clear ha2 hg2 hs2 hyes hno
                go_wp2_with fail
                go_ret2
                exact HF.out
              | false =>
                have HF : Hid (SolvedPost (l.map Lz.lo) (ranksOf syms) w (.returned (.tuple #[.slice A2 uf.length c2, .bool true])) w2) := by
                  obtain ⟨a, h1, h2⟩ := fin_list (hno rfl)
                  have hlen := ha2.len
                  simp only [List.length_map] at hGl1
                  exact Lib.hid ⟨HB2.out, .inr ⟨G2, ps1, fs, uf, _, v, a, vis2, rfl, ha2.good, hg2, fun b hb => by have := HR.out.base b hb; omega, HR.out.nf, HR.out.pf.saves_ HR.out.gs hs2, HV.out.alike ha2, by omega, HBG.out.lf, h1, h2, HR.out.go.found HBG.out HV.out h1 h2⟩⟩
                clear ha2 hg2 hs2 hyes hno
                go_wp2_with fail
                go_ret2
                exact HF.out
end Go.Proofs.YtkkfdiidneoelaaGreatDoor
