/-
  Reference 03: Place.
  What the reference says of a scheme is what Check asks.
  Reference 02's Of at the place of a function of a scheme.
  Reference 03's Is and Check.
-/
import Derived.Test.YtbbejhhohppdhaaGreatDoorGM
import Derived.Test.YtbbejhhohppdhaaGreatDoorGG
import Derived.Test.YtbbejhhohppdhaaGreatDoorGE
import Derived.Test.YtbbejhhohppdhaaGreatDoorGC
import Derived.Test.YtbbejhhohppdhaaGreatDoorGD
namespace Go.Proofs.YtbbejhhohppdhaaGreatDoor
open Go.RowKit

theorem refPlaceS_results {tmps : Array Value} {w : World} {a : Nat} {x y z : Value} (h2 : tmps.getD 4 undef = .pointer (some ⟨a, 0, none⟩))
    (ha : Blk w a 125 #[x, y, z]) : (results Tryz.f82 tmps).run Tryz.prog w = .ok (.agg #[x, y, z]) w := by
  have h0 := ha.cell 0
  have h1 := ha.cell 1
  have h3 := ha.cell 2
  simp at h0 h1 h3
  have h2' : tmps[4]?.getD undef = .pointer (some ⟨a, 0, none⟩) := by simpa using h2
  simp [results, Tryz.results82, go_sem, h2', h0, h1, h3]

set_option maxRecDepth 100000 in
set_option maxHeartbeats 3200000 in
theorem refPlaceS_any (s : Sc) (v0 v1 : Value) (w : World) (hi : Nat) (hin : ScIn w hi s v0 v1) (hhi : hi ≤ w.heap.size) (hl : s.funs.length ≤ 1000) (i : Nat) (f : Fn) (hf : s.funs[i]? = some f) :
    Calls Tryz.prog 82 #[.agg #[v0, v1], .int .i64 (i : Int)] w fun e w' => ∃ vf vp, e = .returned (.agg #[v0, vf, vp]) ∧ PlIn w' 0 w'.heap.size ⟨s.syms, s.sorts, f.sort.args⟩ v0 vf vp ∧ Below w.heap.size w w' := by
  obtain ⟨i0, hi0, hz0, hz1, hz2⟩ := info_parts sort_info2
  have k0 := ScKept.start hin hhi
  obtain ⟨⟨A0, n0, c0, rfl⟩, _⟩ := hin.form
  obtain ⟨A, _, c, us0, rfl, rfl, hnc, hc, hrd, hrow⟩ := hin.fn
  have hil : i < s.funs.length := (List.getElem?_eq_some_iff.1 hf).1
  obtain ⟨ad0, u0, vb0, rfl, hPa0, hel0, hsu0, hbv0, _⟩ := fn_el hrd hrow hf
  obtain ⟨A1, n1, c1, rfl⟩ := hsu0.form
  have d0 := k0.b.cell 0
  have d1 := k0.b.cell 1
  have HZ1 := Lib.hid hz1
  have HZ2 := Lib.hid hz2
  simp at d0 d1
  have hX := (Below.refl w.heap.size w).alloc (Nat.le_refl _) (.cells #[.slice A0 n0 c0, .slice (some ad0) s.funs.length c] 25)
  have hY := hX.alloc (by simp) (.cells #[.slice none 0 0, .slice none 0 0, .slice none 0 0] 125)
  have g1 := (hel0.keep (hY.block _ (by omega))).c1
  have e1 : (i : Int).toNat = i := by omega
  have hi1 : (0 : Int) ≤ (i : Int) := by omega
  have hi2 : (i : Int) < (s.funs.length : Int) := by omega
  have kb := (k0.b.alloc (.cells #[.slice none 0 0, .slice none 0 0, .slice none 0 0] 125))
  have b0 := kb.cell 0
  have b1 := kb.cell 1
  simp at b0 b1
  go_enter Tryz.func82, Tryz.ntmps82
  go_wp2_with fail
  go_region_held3 (fun w' => w'.cell? ⟨w.heap.size, 0, none⟩ = some (.slice A0 n0 c0) ∧ w'.cell? ⟨w.heap.size, 1, none⟩ = some (.slice (some ad0) s.funs.length c) ∧ w'.cell? ⟨(ad0.add (i * 5)).block, (ad0.add (i * 5)).off + 1, none⟩ = some (.slice A1 n1 c1)) (first | go_keep | assumption)
    (fail)
  have W1 : Blk ((((w.alloc (.cells #[.slice A0 n0 c0, .slice (some ad0) s.funs.length c] 25)).alloc (.cells #[.slice none 0 0, .slice none 0 0, .slice none 0 0] 125)).alloc (.cells #[.slice A0 n0 c0, .slice none 0 0, .slice A1 n1 c1] 125)).drew) (w.heap.size + 2) 125 #[.slice A0 n0 c0, .slice none 0 0, .slice A1 n1 c1] := by
    have := Blk.new ((w.alloc (.cells #[.slice A0 n0 c0, .slice (some ad0) s.funs.length c] 25)).alloc (.cells #[.slice none 0 0, .slice none 0 0, .slice none 0 0] 125)) 125 #[.slice A0 n0 c0, .slice none 0 0, .slice A1 n1 c1]
    simp only [World.size_alloc] at this
    exact this.drew
  have W2 : Blk ((((w.alloc (.cells #[.slice A0 n0 c0, .slice (some ad0) s.funs.length c] 25)).alloc (.cells #[.slice none 0 0, .slice none 0 0, .slice none 0 0] 125)).alloc (.cells #[.slice A0 n0 c0, .slice none 0 0, .slice A1 n1 c1] 125)).drew) (w.heap.size + 1) 125 #[.slice none 0 0, .slice none 0 0, .slice none 0 0] := by
    have := Blk.new (w.alloc (.cells #[.slice A0 n0 c0, .slice (some ad0) s.funs.length c] 25)) 125 #[.slice none 0 0, .slice none 0 0, .slice none 0 0]
    simp only [World.size_alloc] at this
    exact (this.alloc _).drew
  have W3 := ((k0.b.alloc (.cells #[.slice none 0 0, .slice none 0 0, .slice none 0 0] 125)).alloc (.cells #[.slice A0 n0 c0, .slice none 0 0, .slice A1 n1 c1] 125)).drew
  have W4 := (hY.alloc (by simp; omega) (.cells #[.slice A0 n0 c0, .slice none 0 0, .slice A1 n1 c1] 125)).drew
  have wb0 := W3.cell 0
  have wb1 := W3.cell 1
  simp at wb0 wb1
  have HW1 := Lib.hid W1
  have HW2 := Lib.hid W2
  have HW3 := Lib.hid W3
  have HW4 := Lib.hid W4
  clear W1 W2 W3 W4 kb b0 b1 k0 d0 d1 hX hY
  go_wp2_with fail
  go_loopw [21] (fun iv wr => ∃ (k : Nat) (vs : Value) (us : List Value), k ≤ s.funs.length ∧ iv = .int .i64 k ∧ SRow (w.heap.size + 3) hi wr ((s.funs.map Fn.sort).take k) vs us ∧ Blk wr (w.heap.size + 2) 125 #[.slice A0 n0 c0, vs, .slice A1 n1 c1] ∧
    Blk wr (w.heap.size + 1) 125 #[.slice none 0 0, .slice none 0 0, .slice none 0 0] ∧ Below w.heap.size w wr) (fun i _ => s.funs.length - (intOf i).toNat)
  case atStart => exact ⟨0, _, [], Nat.zero_le _, rfl, by simpa using SRow.nil _ _ _, HW1.out, HW2.out, HW4.out⟩
  case round =>
    obtain ⟨k, vs, us, hk, rfl, hrr, hpl, hrs, hbel⟩ := hrel
    have hzr := hbel.size
    have hpl0 := hpl.lt
    by_cases hlt : k < s.funs.length
    · have hx : s.funs[k]? = some s.funs[k] := List.getElem?_eq_getElem hlt
      obtain ⟨ad, u, v, had, hPa, hel, hsu, hbv, hsx⟩ := fn_el hrd hrow hx
      cases had
      obtain ⟨r0, r1, r2, r3, r4⟩ := hel.keep (hbel.block _ (by omega))
      have hsu' := hsu.below hbel hhi
      obtain ⟨A3, n3, c3, rfl⟩ := hsu.form
      obtain ⟨A2, n2, c2, rfl⟩ := hbv.form
      have hsnoc : (s.funs.map Fn.sort).take (k + 1) = (s.funs.map Fn.sort).take k ++ [s.funs[k].sort] := by rw [List.take_add_one, List.getElem?_map, hx] <;> rfl
      have hlk : ((s.funs.map Fn.sort).take k).length = k := by simp; omega
      generalize (s.funs.map Fn.sort).take k = rl at *
      generalize s.funs[k] = x at *
      obtain ⟨name, sort, body⟩ := x
      simp only at r0 r1 r2 r3 r4 hsx hsu hsu' hsnoc
      have HS := Lib.hid hsnoc
      have HL := Lib.hid hlk
      have hvl : ∀ b, vs.ownBlock = some b → w.heap.size + 3 ≤ b ∧ b < wr.heap.size := fun b hb => World.ownsRow.lt hrr.own b hb
      have hbb := Blk.new wr 64 #[.string name, .slice A3 n3 c3, .int .i64 body.kind, .int .i64 body.num, .slice A2 n2 c2]
      have b1 := hbb.cell 1
      have bx : Below wr.heap.size wr (wr.alloc (.cells #[.string name, .slice A3 n3 c3, .int .i64 body.kind, .int .i64 body.num, .slice A2 n2 c2] 64)) := (Below.refl _ _).alloc (Nat.le_refl _) _
      have hrr1 := hrr.next (by omega) bx
      have hsu1 := hsu'.below bx (by omega)
      have hpl1 := hpl.alloc (.cells #[.string name, .slice A3 n3 c3, .int .i64 body.kind, .int .i64 body.num, .slice A2 n2 c2] 64)
      have hrs1 := hrs.alloc (.cells #[.string name, .slice A3 n3 c3, .int .i64 body.kind, .int .i64 body.num, .slice A2 n2 c2] 64)
      have p1 := hpl1.cell 1
      simp at p1
      have HRR := Lib.hid hrr1
      have HSU := Lib.hid hsu1
      have hown1 := hrr1.own
      clear hx hel hsnoc hlk hsu hsu' hbv hrr hrr1 hsu1 hbb bx
      go_wp2_with
        (at_builtin
         refine wpList_append_lies _ rfl _ _ _ rfl (w.heap.size + 3) 62 i0 _ 1 24 Tryz.underlying60 hi0 hz0 HZ1.out HZ2.out rfl (by omega) vs _ us (by rfl) (hown1.alloc _)
           ⟨wr.heap.size + 1, 0, none⟩ 1 1 [.slice A3 n3 c3] (by rfl) (by rfl) (World.news_of_block (cs := #[.slice A3 n3 c3]) (t := 62) (fr := (0, 0)) (by simpa using heap_alloc_new (wr.alloc (.cells #[.string name, .slice A3 n3 c3, .int .i64 body.kind, .int .i64 body.num, .slice A2 n2 c2] 64)) _)) (fun u hu => by rw [List.mem_singleton.1 hu] <;> rfl) (by omega) (by rw [HL.out]; simp only [maxLen]; omega) (by rw [HL.out]; omega) (by simp; omega) (wr.heap.size + 2) (by simp) ?_
         intro gg cap2 w3 hown3 hgrow hat3 hlt3
         have hpl3 : Blk w3 (w.heap.size + 2) 125 #[.slice A0 n0 c0, vs, .slice A1 n1 c1] := (hgrow.block _ (by simp; omega) (fun e => by have := hvl _ e.symm; omega)).trans (hpl1.alloc _)
         have hrs3 : Blk w3 (w.heap.size + 1) 125 #[.slice none 0 0, .slice none 0 0, .slice none 0 0] := (hgrow.block _ (by simp; omega) (fun e => by have := hvl _ e.symm; omega)).trans (hrs1.alloc _)
         have q1 := hpl3.cell 1
         have q2 := hpl3.frozen 1
         simp at q1)
      go_roundw
      case rel =>
        refine ⟨k + 1, _, us ++ [.slice A3 n3 c3], by omega, by go_num, ?_, (hpl3.set_ 1 _).eq_ rfl, hrs3.far (by show w.heap.size + 1 ≠ w.heap.size + 2; omega) _, ?_⟩
        · rw [HS.out]
          refine (HRR.out.push HSU.out (by omega) (by simp; omega) hown3 hgrow).far (fun b hb => Below.heap_setCell _ _ _ _ ?_) (fun b hb => Below.heap_setCell _ _ _ _ (by show b ≠ w.heap.size + 2; omega))
          have e' : gg = b := by simpa [Value.ownBlock] using hb
          subst e'
          show gg ≠ w.heap.size + 2
          rcases hat3 with h | h
          · have := hvl _ h; omega
          · omega
        · exact (((hbel.alloc (by omega) _).alloc (by simp; omega) _).grown hgrow (by simp; omega) (fun b hb => by have := (hvl b hb).1; omega)).setCell (by show w.heap.size ≤ w.heap.size + 2; omega) _
      case measure => simp [intOf]; omega
    · have hll : (s.funs.map Fn.sort).take k = s.funs.map Fn.sort := List.take_of_length_le (by simp; omega)
      rw [hll] at hrr
      clear hll
      obtain ⟨A5, c5, rfl⟩ := hrr.form
      have x0 := hpl.cell 0
      have x1 := hpl.cell 1
      have x2 := hpl.cell 2
      have y0 := hrs.cell 0
      have y1 := hrs.cell 1
      have y2 := hrs.cell 2
      have z0 := hrs.frozen 0
      have z1 := hrs.frozen 1
      have z2 := hrs.frozen 2
      simp at x0 x1 x2 y0 y1 y2
      have HRR := Lib.hid hrr
      go_wp2_with fail
      have hBF := ((hbel.setCell (p := ⟨w.heap.size + 1, 0, none⟩) (Nat.le_succ _) (.slice A0 n0 c0)).setCell (p := ⟨w.heap.size + 1, 1, none⟩) (Nat.le_succ _) (.slice A5 (s.funs.map Fn.sort).length c5)).setCell (p := ⟨w.heap.size + 1, 2, none⟩) (Nat.le_succ _) (.slice A1 n1 c1)
      simp only [List.length_map] at hBF
      have hzF := hBF.size
      have hsm : S.mk f.sort.args = f.sort := by cases f.sort; rfl
      refine bodyPost_ret (refPlaceS_results rfl ((((hrs.set_ 0 _).set_ 1 _).set_ 2 _).eq_ rfl)) rfl ⟨_, _, rfl, ⟨(hin.sy.below hBF hhi).more (by omega), ?_, ?_⟩, hBF⟩
      · have hR := HRR.out
        have hov := fun b hb => (World.ownsRow.lt hR.own b hb).1
        simp only [List.length_map] at hR hov
        refine SRow.in_ (B := w.heap.size + 3) (hi := hi) (us := us) (hR.far (fun b hb => ?_) (fun b hb => ?_)) (by omega)
        · have := hov b hb
          rw [Below.heap_setCell _ _ _ _ (by show b ≠ w.heap.size + 1; omega), Below.heap_setCell _ _ _ _ (by show b ≠ w.heap.size + 1; omega), Below.heap_setCell _ _ _ _ (by show b ≠ w.heap.size + 1; omega)]
        · rw [Below.heap_setCell _ _ _ _ (by show b ≠ w.heap.size + 1; omega), Below.heap_setCell _ _ _ _ (by show b ≠ w.heap.size + 1; omega), Below.heap_setCell _ _ _ _ (by show b ≠ w.heap.size + 1; omega)]
      · show (S.mk f.sort.args).In _ _ _ _
        rw [hsm]
        exact (hsu0.below hBF hhi).more (Nat.le_refl _) (by omega)
end Go.Proofs.YtbbejhhohppdhaaGreatDoor

namespace Go.Proofs.YtbbejhhohppdhaaGreatDoor
open Go.RowKit

def fnOk (f : Fn) : Bool := nameB (fnm f) && (f.sort.ok && (decide (f.body.count ≤ 400) && decide (f.body.deep ≤ 30)))
def goodFrom (seen : List (List UInt8)) : List Fn → Bool
  | [] => true
  | f :: r => fnOk f && (!seen.contains (fnm f) && goodFrom (seen ++ [fnm f]) r)
/-- The body is a tree, by the reference's sorts. -/
def Sc.typed (s : Sc) (f : Fn) : Bool := match f.body.ty (s.pl f).pick with | some x => x.args.isEmpty | none => false
def Sc.sayOk (s : Sc) : Bool := symsB s.syms && (decide (1 ≤ s.funs.length) && (decide (s.funs.length ≤ 64) && (goodFrom [] s.funs && (s.start && s.funs.all s.typed))))
theorem goodFrom_iff : ∀ (l : List Fn) (seen : List (List UInt8)), goodFrom seen l = true ↔ diffFrom seen (l.map fnm) = true ∧ ∀ f ∈ l, f.sort.ok = true ∧ f.body.count ≤ 400 ∧ f.body.deep ≤ 30
  | [], seen => by simp [goodFrom, diffFrom]
  | f :: r, seen => by
    simp only [goodFrom, diffFrom, List.map_cons, Bool.and_eq_true, fnOk, decide_eq_true_eq, goodFrom_iff r, List.forall_mem_cons]
    constructor
    · rintro ⟨⟨h1, h2, h3, h4⟩, h5, h6, h7⟩; exact ⟨⟨h1, h5, h6⟩, ⟨h2, h3, h4⟩, h7⟩
    · rintro ⟨⟨h1, h5, h6⟩, ⟨h2, h3, h4⟩, h7⟩; exact ⟨⟨h1, h2, h3, h4⟩, h5, h6, h7⟩
theorem S.mem_parts : ∀ {l : List S} {x : S}, x ∈ l → x.count ≤ S.countL l ∧ x.deep ≤ S.deepL l ∧ (S.fewL l = true → x.few = true)
  | a :: r, x, h => by
    simp only [S.countL, S.deepL, S.fewL, Bool.and_eq_true]
    rcases List.mem_cons.1 h with rfl | h
    · exact ⟨by omega, by omega, fun h => h.1⟩
    · obtain ⟨h1, h2, h3⟩ := S.mem_parts h
      exact ⟨by omega, by omega, fun h => h3 h.2⟩
theorem S.ok_args {s : S} (h : s.ok = true) : sortsB 8 s.args = true := by
  obtain ⟨l⟩ := s
  simp only [S.ok, Bool.and_eq_true, decide_eq_true_eq] at h
  simp only [S.count, S.deep, S.few, Bool.and_eq_true, decide_eq_true_eq] at h
  obtain ⟨⟨h1, h2⟩, h3, h4⟩ := h
  simp only [sortsB, S.args, Bool.and_eq_true, List.all_eq_true]
  refine ⟨decide_eq_true h4, fun x hx => ?_⟩
  obtain ⟨g1, g2, g3⟩ := S.mem_parts hx
  simp only [S.ok, Bool.and_eq_true, decide_eq_true_eq]
  exact ⟨⟨by omega, by omega⟩, g3 h3⟩
theorem fits_iff {s : Sc} (hs : symsB s.syms = true) (hn : s.funs.length ≤ 64) (ho : ∀ f ∈ s.funs, f.sort.ok = true) {f : Fn} (hf : f ∈ s.funs) (hc : f.body.count ≤ 400) (hd : f.body.deep ≤ 30) : s.fits f = s.typed f := by
  have hp : (s.pl f).ok = true := by
    simp only [Pl.ok, Sc.pl, Bool.and_eq_true]
    refine ⟨hs, ?_, S.ok_args (ho f hf)⟩
    simp only [sortsB, Sc.sorts, List.length_map, Bool.and_eq_true, decide_eq_true_eq, List.all_eq_true, List.mem_map]
    exact ⟨hn, fun x ⟨g, hg, e⟩ => e ▸ ho g hg⟩
  have hl : f.body.large = false := by simp only [T.large, decide_eq_false_iff_not]; omega
  simp only [Sc.fits, bodyB, Sc.typed, Pl.sortS, Pl.sortE, hp, hl, hc, hd]
  cases f.body.ty (s.pl f).pick with
  | none => simp
  | some x => simp
theorem sayOk_ok (s : Sc) : s.sayOk = s.ok := by
  rw [Bool.eq_iff_iff]
  constructor
  · intro h
    simp only [Sc.sayOk, Bool.and_eq_true, decide_eq_true_eq, goodFrom_iff, List.all_eq_true] at h
    obtain ⟨h1, h2, h3, ⟨h4, h5⟩, h6, h7⟩ := h
    simp only [Sc.ok, Bool.and_eq_true, decide_eq_true_eq, List.all_eq_true]
    exact ⟨h2, h3, h4, h6, fun f hf => by rw [fits_iff h1 h3 (fun g hg => (h5 g hg).1) hf (h5 f hf).2.1 (h5 f hf).2.2]; exact h7 f hf⟩
  · intro h
    have hg := Sc.good h
    simp only [Sc.ok, Bool.and_eq_true, decide_eq_true_eq, List.all_eq_true] at h
    obtain ⟨h2, h3, h4, h6, h7⟩ := h
    have hb : ∀ f ∈ s.funs, f.body.count ≤ 400 ∧ f.body.deep ≤ 30 := fun f hf => by
      have := h7 f hf
      simp only [Sc.fits, bodyB, Bool.and_eq_true, decide_eq_true_eq] at this
      exact ⟨this.1, this.2.1⟩
    simp only [Sc.sayOk, Bool.and_eq_true, decide_eq_true_eq, goodFrom_iff, List.all_eq_true]
    exact ⟨hg.sy, h2, h3, ⟨h4, fun f hf => ⟨hg.so f hf, hb f hf⟩⟩, h6, fun f hf => by rw [← fits_iff hg.sy h3 hg.so hf (hb f hf).1 (hb f hf).2]; exact h7 f hf⟩
end Go.Proofs.YtbbejhhohppdhaaGreatDoor

namespace Go.Proofs.YtbbejhhohppdhaaGreatDoor
open Go.RowKit

theorem refOfS_any (p : Pl) (hok : p.ok = true) (v0 v1 v2 : Value) (t : T) (v : Value) (w : World) (hi : Nat) (P : Nat → Prop) (hp : PlIn w 0 hi p v0 v1 v2) (hhi : hi ≤ w.heap.size) (hin : t.In w P v) (hold : Old P w) :
    Calls Tryz.prog 81 #[.agg #[v0, v1, v2], .agg #[.int .i64 t.kind, .int .i64 t.num, v]] w fun e w' =>
      ∃ A c, e = .returned (.tuple #[.agg #[.slice A ((t.ty p.pick).getD (.mk [])).args.length c], .bool (t.ty p.pick).isSome]) ∧ Below w.heap.size w w' := by
  obtain ⟨A0, n0, c0, rfl⟩ := hp.s.form
  obtain ⟨A1, n1, c1, rfl⟩ := hp.f.form
  obtain ⟨A2, n2, c2, rfl⟩ := hp.r.form
  refine (ofT_any p.pick (fun (k n : Int) (s : S) (h : p.pick k n = some s) => S.ok_count (Pl.pick_ok hok h)) (.slice A0 n0 c0) (.slice A1 n1 c1) (.slice A2 n2 c2) ⟨_, _, _, rfl⟩ ⟨_, _, _, rfl⟩ ⟨_, _, _, rfl⟩
    (fun W => PlIn W 0 hi p (.slice A0 n0 c0) (.slice A1 n1 c1) (.slice A2 n2 c2) ∧ hi ≤ W.heap.size) (fun W W' h hb => ⟨h.1.below hb h.2, Nat.le_trans h.2 hb.size⟩) hi (fun W h => h.2) (fun lo h => lo = 0 ∧ h = hi) (fun lo h hh => by omega)
    (fun x v W Q h hx ho => refHead_any p hok hi _ _ _ x v W Q h.1 h.2 hx ho) t.count t v w P (Nat.le_refl _) ⟨hp, hhi⟩ hin hold).mono ?_
  rintro e w' ⟨u, rfl, ⟨lo, h, hs, _⟩, hb⟩
  generalize (t.ty p.pick).getD (.mk []) = s at *
  obtain ⟨l⟩ := s
  simp only [S.In] at hs
  obtain ⟨A, n, c, rfl, e2, _⟩ := hs
  exact ⟨A, c, by simp only [S.args, e2], hb⟩
end Go.Proofs.YtbbejhhohppdhaaGreatDoor

namespace Go.Proofs.YtbbejhhohppdhaaGreatDoor
open Go.RowKit

set_option maxRecDepth 100000 in
set_option maxHeartbeats 3200000 in
theorem refScIs_any (s : Sc) (v0 v1 : Value) (w : World) (hi : Nat) (hin : ScIn w hi s v0 v1) (hhi : hi ≤ w.heap.size) :
    Calls Tryz.prog 38 #[.agg #[v0, v1]] w fun e w' => e = .returned (.bool s.sayOk) ∧ Below w.heap.size w w' := by
  have k0 := ScKept.start hin hhi
  obtain ⟨A0, n0, c0, rfl⟩ := hin.sy.form
  obtain ⟨A, _, c, us0, rfl, rfl, hnc, hc, hrd, hrow⟩ := hin.fn
  have d0 := k0.b.cell 0
  have d1 := k0.b.cell 1
  have HSy := Lib.hid (refSymbols_any s.syms (.slice A0 n0 c0) _ _ k0.i.sy (fun b hb => by have := k0.hi; have := k0.b.lt; omega))
  cases hS : symsB s.syms with
  | false =>
    have HE : Hid (s.sayOk = false) := Lib.hid (by simp [Sc.sayOk, hS])
    rw [hS] at HSy
    clear hS
    go_enter Tryz.func38, Tryz.ntmps38
    go_wp2_with fail
    refine HSy.out.mono ?_
    rintro e w1 ⟨rfl, b1⟩
    have k1 := k0.next b1
    go_wp2_with fail
    go_ret
    exact ⟨by rw [HE.out] <;> rfl, k1.bel⟩
  | true =>
    rw [hS] at HSy
    by_cases hn1 : 1 ≤ s.funs.length
    · by_cases hn64 : s.funs.length ≤ 64
      · have hd1 : decide ((s.funs.length : Int) < 1) = false := decide_eq_false (by omega)
        have hd2 : decide ((64 : Int) < (s.funs.length : Int)) = false := decide_eq_false (by omega)
        have HG : Hid (goodFrom [] s.funs = false → s.sayOk = false) := Lib.hid (fun h => by simp [Sc.sayOk, h])
        have HSY : Hid (symsB s.syms = true) := Lib.hid hS
        clear hS
        go_enter Tryz.func38, Tryz.ntmps38
        go_wp2_with fail
        refine HSy.out.mono ?_
        rintro e w1 ⟨rfl, b1⟩
        have k1 := k0.next b1
        have e1 := k1.b.cell 1
        simp at e1
        clear d0 d1 HSy b1 k0
        go_wp2_with fail
        go_loopw [30] (fun iv wr => ∃ k : Nat, k ≤ s.funs.length ∧ iv = .int .i64 k ∧ ScKept s (.slice A0 n0 c0) (.slice A s.funs.length c) hi w.heap.size w wr ∧ goodFrom [] s.funs = goodFrom ((s.funs.take k).map fnm) (s.funs.drop k)) (fun iv _ => s.funs.length - (intOf iv).toNat)
        case atStart => exact ⟨0, Nat.zero_le _, rfl, k1, rfl⟩
        case round =>
          obtain ⟨k, hk, rfl, hkp, hgood⟩ := hrel
          have hbl := hkp.b.lt
          have hhi' := hkp.hi
          by_cases hlt : k < s.funs.length
          · have hx : s.funs[k]? = some s.funs[k] := List.getElem?_eq_getElem hlt
            obtain ⟨ad, u, v, rfl, hPa, hel, hsu, hbv, hsx⟩ := fn_el hrd hrow hx
            obtain ⟨r0, r1, r2, r3, r4⟩ := hel.keep (hkp.bel.block _ (by omega))
            obtain ⟨A1, n1, c1, rfl⟩ := hsu.form
            obtain ⟨A2, n2, c2, rfl⟩ := hbv.form
            have hdrop : s.funs.drop k = s.funs[k] :: s.funs.drop (k + 1) := (List.getElem_cons_drop hlt).symm
            have hsnoc : (s.funs.take (k + 1)).map fnm = (s.funs.take k).map fnm ++ [fnm s.funs[k]] := by rw [List.take_add_one, hx, List.map_append] <;> rfl
            have hG1 : goodFrom [] s.funs = (fnOk s.funs[k] && (!((s.funs.take k).map fnm).contains (fnm s.funs[k]) && goodFrom ((s.funs.take (k + 1)).map fnm) (s.funs.drop (k + 1)))) := by rw [hgood, hdrop, goodFrom, hsnoc]
            have HG1 := Lib.hid hG1
            have HX := Lib.hid hx
            generalize s.funs[k] = x at *
            have bx : Below wr.heap.size wr (wr.alloc (.cells #[.string x.name, .slice A1 n1 c1, .int .i64 x.body.kind, .int .i64 x.body.num, .slice A2 n2 c2] 64)) := (Below.refl _ _).alloc (Nat.le_refl _) _
            have hk2 := hkp.next bx
            have hbb := Blk.new wr 64 #[.string x.name, .slice A1 n1 c1, .int .i64 x.body.kind, .int .i64 x.body.num, .slice A2 n2 c2]
            have f0 := hbb.cell 0
            have f1 := hbb.cell 1
            have f2 := hbb.cell 2
            have f3 := hbb.cell 3
            have f4 := hbb.cell 4
            simp at f0 f1 f2 f3 f4
            obtain ⟨bN, hbN⟩ : ∃ b, b = nameB (fnm x) := ⟨_, rfl⟩
            obtain ⟨bS, hbS⟩ : ∃ b, b = x.sort.ok := ⟨_, rfl⟩
            have HNm := Lib.hid (fun W => refName_any x.name W hsx)
            have HSo := Lib.hid (fun W (h : ScKept s (.slice A0 n0 c0) (.slice (some ad) s.funs.length c) hi w.heap.size w W) => is_any x.sort (.slice A1 n1 c1) W 0 hi (hsu.below (h.bel.mono (by omega)) (Nat.le_refl _)) (by have := h.b.lt; omega))
            rw [show nameB x.name.data.toList = bN from hbN.symm] at HNm
            rw [← hbS] at HSo
            have HBN := Lib.hid hbN
            have HBS := Lib.hid hbS
            clear hx hdrop hsnoc hG1 hgood hbN hbS hel bx
            go_wp2_with fail
            refine (HNm.out _).mono ?_
            rintro e w2 ⟨rfl, rfl⟩
            cases bN with
            | false =>
              have HE : Hid (s.sayOk = false) := Lib.hid (HG.out (by rw [HG1.out]; simp [fnOk, ← HBN.out]))
              go_wp2_with fail
              go_ret
              exact ⟨by rw [HE.out] <;> rfl, hk2.bel⟩
            | true =>
              go_wp2_with fail
              refine (HSo.out _ hk2).mono ?_
              rintro e w3 ⟨rfl, b3⟩
              have hk3 := hk2.next b3
              cases bS with
              | false =>
                have HE : Hid (s.sayOk = false) := Lib.hid (HG.out (by rw [HG1.out]; simp [fnOk, ← HBS.out]))
                go_wp2_with fail
                go_ret
                exact ⟨by rw [HE.out] <;> rfl, hk3.bel⟩
              | true =>
                have g2 := (hbb.below b3 hbb.lt).cell 2
                have g3 := (hbb.below b3 hbb.lt).cell 3
                have g4 := (hbb.below b3 hbb.lt).cell 4
                simp at g2 g3 g4
                have hz3 := hk3.b.lt
                have hiT : x.body.In w3 (fun b => b < hi) (.slice A2 n2 c2) := T.In.below hbv (hk3.bel.mono (by omega)) (fun _ h => by omega)
                have HNo := Lib.hid (nodesT_any x.body.count x.body (.slice A2 n2 c2) 400 w3 _ (Nat.le_refl _) (by decide) (by decide) hiT (fun b h => by omega))
                by_cases hcn : x.body.count ≤ 400
                · rw [show min (x.body.count : Int) (400 + 1) = (x.body.count : Int) from by omega] at HNo
                  have hcd : decide ((400 : Int) < (x.body.count : Int)) = false := decide_eq_false (by omega)
                  have hcd' : decide (400 < x.body.count) = false := decide_eq_false (by omega)
                  go_wp2_with fail
                  refine HNo.out.mono ?_
                  rintro e w4 ⟨rfl, b4⟩
                  have hk4 := hk3.next b4
                  have hbb4 := (hbb.below b3 hbb.lt).below b4 (hbb.below b3 hbb.lt).lt
                  have m2 := hbb4.cell 2
                  have m3 := hbb4.cell 3
                  have m4 := hbb4.cell 4
                  simp at m2 m3 m4
                  have hz4 := hk4.b.lt
                  have hiT4 : x.body.In w4 (fun b => b < hi) (.slice A2 n2 c2) := T.In.below hbv (hk4.bel.mono (by omega)) (fun _ h => by omega)
                  have HDp := Lib.hid (depthT_any x.body.count x.body (.slice A2 n2 c2) w4 _ (Nat.le_refl _) (by omega) hiT4 (fun b h => by omega))
                  clear g2 g3 g4 hiT HNo b4
                  by_cases hdp : x.body.deep ≤ 30
                  · have hdd : decide ((30 : Int) < (x.body.deep : Int)) = false := decide_eq_false (by omega)
                    have hdd' : decide (30 < x.body.deep) = false := decide_eq_false (by omega)
                    have HOK : Hid (fnOk x = true) := Lib.hid (by simp [fnOk, ← HBN.out, ← HBS.out, hcn, hdp])
                    have hkc : ¬ c < k := by omega
                    have hkc2 : (k : Int) ≤ (c : Int) := by omega
                    have hkn : (0 : Int) ≤ (k : Int) := by omega
                    go_wp2_with fail
                    refine HDp.out.mono ?_
                    rintro e w5 ⟨rfl, b5⟩
                    have hk5 := hk4.next b5
                    have hbb5 := hbb4.below b5 hbb4.lt
                    have z1 := hk5.b.cell 1
                    simp at z1
                    clear m2 m3 m4 hiT4 HDp
                    go_wp2_with fail
                    generalize wr.heap.size = gb at *
                    go_loopw [62] (fun jv wx => ∃ j : Nat, j ≤ k ∧ jv = .int .i64 j ∧ ScKept s (.slice A0 n0 c0) (.slice (some ad) s.funs.length c) hi w.heap.size w wx ∧ Blk wx gb 64 #[.string x.name, .slice A1 n1 c1, .int .i64 x.body.kind, .int .i64 x.body.num, .slice A2 n2 c2] ∧
                      ∀ i y, i < j → s.funs[i]? = some y → fnm y ≠ fnm x) (fun jv _ => k - (intOf jv).toNat)
                    case atStart => exact ⟨0, Nat.zero_le _, rfl, hk5, hbb5, fun i y h => by omega⟩
                    case round =>
                      obtain ⟨j, hj, rfl, hkx, hbx, hdf⟩ := hrel
                      have hzx := hkx.b.lt
                      by_cases hjk : j < k
                      · have hy : s.funs[j]? = some (s.funs[j]'(by omega)) := List.getElem?_eq_getElem (by omega)
                        obtain ⟨ad', u', v', had', hPa', hel', hsu', hbv', hsy'⟩ := fn_el hrd hrow hy
                        cases had'
                        obtain ⟨t0, t1, t2, t3, t4⟩ := hel'.keep (hkx.bel.block _ (by omega))
                        obtain ⟨A5, n5, c5, rfl⟩ := hsu'.form
                        obtain ⟨A6, n6, c6, rfl⟩ := hbv'.form
                        have HJ := Lib.hid hy
                        generalize s.funs[j]'(by omega) = y at *
                        have bx : Below wr.heap.size wr (wr.alloc (.cells #[.string y.name, .slice A5 n5 c5, .int .i64 y.body.kind, .int .i64 y.body.num, .slice A6 n6 c6] 64)) := (Below.refl _ _).alloc (Nat.le_refl _) _
                        have hkx2 := hkx.next bx
                        have hbx2 := hbx.alloc (.cells #[.string y.name, .slice A5 n5 c5, .int .i64 y.body.kind, .int .i64 y.body.num, .slice A6 n6 c6] 64)
                        have hyb := Blk.new wr 64 #[.string y.name, .slice A5 n5 c5, .int .i64 y.body.kind, .int .i64 y.body.num, .slice A6 n6 c6]
                        have l0 := hbx2.cell 0
                        have l1 := hyb.cell 0
                        simp at l0 l1
                        clear hy hel' bx hyb
                        by_cases hne : x.name = y.name
                        · have HE : Hid (s.sayOk = false) := Lib.hid (HG.out (by
                            have hm : fnm x ∈ (s.funs.take k).map fnm := List.mem_map.2 ⟨y, List.mem_of_getElem? (i := j) (by rw [List.getElem?_take_of_lt hjk]; exact HJ.out), by simp [fnm, hne]⟩
                            have hct : ((s.funs.take k).map fnm).contains (fnm x) = true := List.contains_iff_mem.2 hm
                            rw [HG1.out, hct]
                            simp))
                          have hdn : decide (x.name = y.name) = true := decide_eq_true hne
                          go_wp2_with fail
                          go_ret
                          exact ⟨by rw [HE.out] <;> rfl, hkx2.bel⟩
                        · have hdn : decide (x.name = y.name) = false := decide_eq_false hne
                          have hnb : (x.name.toList == y.name.toList) = false := beq_false_of_ne (fun e => hne (nm_eq (by rw [← ByteArray.toList_eq, ← ByteArray.toList_eq]; exact e)))
                          have HNE := Lib.hid hne
                          clear hne hdn
                          go_wp2_with fail
                          go_roundw
                          case rel =>
                            refine ⟨j + 1, by omega, by go_num, hkx2, hbx2, fun i z hi hz => ?_⟩
                            rcases Nat.lt_or_ge i j with h | h
                            · exact hdf i z h hz
                            · have : i = j := by omega
                              subst this
                              rw [HJ.out] at hz
                              cases hz
                              intro e
                              exact HNE.out (nm_eq e.symm)
                          case measure => simp [intOf]; omega
                      · have HN : Hid (goodFrom [] s.funs = goodFrom ((s.funs.take (k + 1)).map fnm) (s.funs.drop (k + 1))) := Lib.hid (by
                          have hct : ((s.funs.take k).map fnm).contains (fnm x) = false := by
                            rw [Bool.eq_false_iff]
                            intro hh
                            obtain ⟨y, hy, he⟩ := List.mem_map.1 (List.contains_iff_mem.1 hh)
                            obtain ⟨i, hi⟩ := List.mem_iff_getElem?.1 hy
                            rw [List.getElem?_take] at hi
                            split at hi
                            · exact hdf i y (by omega) hi he
                            · cases hi
                          rw [HG1.out, HOK.out, hct]
                          simp)
                        clear hdf
                        go_wp2_with fail
                        go_roundw
                        case rel => exact ⟨k + 1, by omega, by go_num, hkx, HN.out⟩
                        case measure => simp [intOf]; omega
                  · have hdd : decide ((30 : Int) < (x.body.deep : Int)) = true := decide_eq_true (by omega)
                    have hdd' : decide (30 < x.body.deep) = true := decide_eq_true (by omega)
                    have HE : Hid (s.sayOk = false) := Lib.hid (HG.out (by rw [HG1.out]; simp [fnOk, hdp]))
                    go_wp2_with fail
                    refine HDp.out.mono ?_
                    rintro e w5 ⟨rfl, b5⟩
                    have hk5 := hk4.next b5
                    go_wp2_with fail
                    go_ret
                    exact ⟨by rw [HE.out] <;> rfl, hk5.bel⟩
                · rw [show min (x.body.count : Int) (400 + 1) = 401 from by omega] at HNo
                  have HE : Hid (s.sayOk = false) := Lib.hid (HG.out (by rw [HG1.out]; simp [fnOk, hcn]))
                  go_wp2_with fail
                  refine HNo.out.mono ?_
                  rintro e w4 ⟨rfl, b4⟩
                  have hk4 := hk3.next b4
                  go_wp2_with fail
                  go_ret
                  exact ⟨by rw [HE.out] <;> rfl, hk4.bel⟩
          · have hGd : goodFrom [] s.funs = true := by rw [hgood, List.drop_of_length_le (by omega)] <;> rfl
            obtain ⟨hdf0, hall⟩ := (goodFrom_iff _ _).1 hGd
            obtain ⟨f0, r0, hfs⟩ : ∃ f r, s.funs = f :: r := by
              cases hh : s.funs with
              | nil => rw [hh] at hn1; simp at hn1
              | cons f r => exact ⟨f, r, rfl⟩
            have hx0 : s.funs[0]? = some f0 := by rw [hfs] <;> rfl
            have hst : s.start = f0.sort.args.isEmpty := by unfold Sc.start; rw [hfs]
            obtain ⟨ad, u0, b0, rfl, hPa, hel0, hsu0, hbv0, _⟩ := fn_el hrd hrow hx0
            have q1 := (hel0.keep (hkp.bel.block _ (by omega))).zero
            have HALL := Lib.hid hall
            obtain ⟨A1, n1, c1, rfl⟩ := hsu0.form
            have hlen0 : f0.sort.args.length = n1 := by
              have hs0 := hsu0
              rw [← S.eta f0.sort] at hs0
              simp only [S.In] at hs0
              obtain ⟨_, _, _, e1, e2, _⟩ := hs0
              injection e1 with _ e3 _
              rw [e2, e3]
            have z0 := hkp.b.cell 0
            have z1 := hkp.b.cell 1
            simp at z0 z1
            have hll : 0 < s.funs.length := by omega
            cases hs0 : f0.sort.args.isEmpty with
            | false =>
              have HE : Hid (s.sayOk = false) := Lib.hid (by simp [Sc.sayOk, hst, hs0])
              have hne : f0.sort.args ≠ [] := fun e => by rw [e] at hs0; cases hs0
              have hpos : 0 < f0.sort.args.length := List.length_pos_iff.2 hne
              have hd3 : decide ((0 : Int) < (n1 : Int)) = true := decide_eq_true (by omega)
              clear hst hs0 hne hx0 hfs hel0 hsu0 hbv0 hall hdf0 hGd hgood HG
              go_wp2_with fail
              go_ret
              exact ⟨by rw [HE.out] <;> rfl, hkp.bel⟩
            | true =>
              have hemp : f0.sort.args = [] := by simpa using hs0
              have hn0 : n1 = 0 := by rw [← hlen0, hemp] <;> rfl
              subst hn0
              have HF : Hid (s.sayOk = s.funs.all s.typed) := Lib.hid (by
                simp only [Sc.sayOk, HSY.out, hGd, hst, hs0, Bool.true_and]
                rw [decide_eq_true hn64, decide_eq_true hn1] <;> rfl)
              clear hst hs0 hemp hx0 hfs hel0 hsu0 hbv0 hall hdf0 hGd hgood HG hlen0
              go_wp2_with fail
              go_loopw [84] (fun iv wx => ∃ j : Nat, j ≤ s.funs.length ∧ iv = .int .i64 j ∧ ScKept s (.slice A0 n0 c0) (.slice (some ad) s.funs.length c) hi w.heap.size w wx ∧ (s.funs.take j).all s.typed = true) (fun iv _ => s.funs.length - (intOf iv).toNat)
              case atStart => exact ⟨0, Nat.zero_le _, rfl, hkp, by simp⟩
              case round =>
                obtain ⟨j, hj, rfl, hkq, hty⟩ := hrel
                have hbq := hkq.b.lt
                have hhq := hkq.hi
                by_cases hlt : j < s.funs.length
                · have hx : s.funs[j]? = some s.funs[j] := List.getElem?_eq_getElem hlt
                  obtain ⟨ad', u, v, had', hPa', hel, hsu, hbv, hsx⟩ := fn_el hrd hrow hx
                  cases had'
                  obtain ⟨r0, r1, r2, r3, r4⟩ := hel.keep (hkq.bel.block _ (by omega))
                  have hmem : s.funs[j] ∈ s.funs := List.getElem_mem hlt
                  have hpok : (s.pl s.funs[j]).ok = true := by
                    simp only [Pl.ok, Sc.pl, Bool.and_eq_true]
                    refine ⟨HSY.out, ?_, S.ok_args (HALL.out _ hmem).1⟩
                    simp only [sortsB, Sc.sorts, List.length_map, Bool.and_eq_true, decide_eq_true_eq, List.all_eq_true, List.mem_map]
                    exact ⟨hn64, fun x ⟨g, hg, e⟩ => e ▸ (HALL.out g hg).1⟩
                  have HP := Lib.hid (fun W (h1 : ScIn W hi s (.slice A0 n0 c0) (.slice (some ad) s.funs.length c)) (h2 : hi ≤ W.heap.size) => refPlaceS_any s (.slice A0 n0 c0) (.slice (some ad) s.funs.length c) W hi h1 h2 (by omega) j s.funs[j] hx)
                  obtain ⟨A4, n4, c4, rfl⟩ := hsu.form
                  obtain ⟨A5, n5, c5, rfl⟩ := hbv.form
                  have HO := Lib.hid (fun vf vp W hi2 (h1 : PlIn W 0 hi2 (s.pl s.funs[j]) (.slice A0 n0 c0) vf vp) (h2 : hi2 ≤ W.heap.size) (h3 : s.funs[j].body.In W (fun b => b < hi) (.slice A5 n5 c5)) (h4 : Old (fun b => b < hi) W) => refOfS_any (s.pl s.funs[j]) hpok (.slice A0 n0 c0) vf vp s.funs[j].body (.slice A5 n5 c5) W hi2 (fun b => b < hi) h1 h2 h3 h4)
                  have hTY : ∀ (o : Option S), o = s.funs[j].body.ty (s.pl s.funs[j]).pick → s.typed s.funs[j] = (o.isSome && decide ((o.getD (.mk [])).args.length = 0)) := by
                    rintro o rfl
                    unfold Sc.typed
                    cases s.funs[j].body.ty (s.pl s.funs[j]).pick with
                    | none => rfl
                    | some y => cases hy : y.args <;> simp [hy]
                  have HTY := Lib.hid (hTY _ rfl)
                  have HSU : Hid (s.typed s.funs[j] = true → (s.funs.take (j + 1)).all s.typed = true) := Lib.hid (fun h => by rw [List.take_add_one, hx, List.all_append, hty]; simp [h])
                  have HNO : Hid (s.typed s.funs[j] = false → s.funs.all s.typed = false) := Lib.hid (fun h => by
                    rw [Bool.eq_false_iff]
                    intro hh
                    rw [List.all_eq_true] at hh
                    have := hh _ hmem
                    rw [h] at this; cases this)
                  generalize hoo : s.funs[j].body.ty (s.pl s.funs[j]).pick = oo at *
                  generalize hbo : oo.isSome = bo at *
                  generalize hno : (oo.getD (.mk [])).args.length = no at *
                  have hpl : (⟨s.syms, s.sorts, s.funs[j].sort.args⟩ : Pl) = s.pl s.funs[j] := rfl
                  rw [hpl] at HP
                  generalize s.pl s.funs[j] = pl at *
                  generalize s.typed s.funs[j] = tyb at *
                  generalize s.funs[j] = x at *
                  clear hx hmem hpok hTY hoo hbo hno hpl hel hty
                  have bx : Below wr.heap.size wr (wr.alloc (.cells #[.string x.name, .slice A4 n4 c4, .int .i64 x.body.kind, .int .i64 x.body.num, .slice A5 n5 c5] 64)) := (Below.refl _ _).alloc (Nat.le_refl _) _
                  have hk2 := hkq.next bx
                  have hbb := Blk.new wr 64 #[.string x.name, .slice A4 n4 c4, .int .i64 x.body.kind, .int .i64 x.body.num, .slice A5 n5 c5]
                  have HKN : Hid (∀ W W', (ScKept s (.slice A0 n0 c0) (.slice (some ad) s.funs.length c) hi w.heap.size w W ∧ Blk W wr.heap.size 64 #[.string x.name, .slice A4 n4 c4, .int .i64 x.body.kind, .int .i64 x.body.num, .slice A5 n5 c5]) → Below W.heap.size W W' →
                      (ScKept s (.slice A0 n0 c0) (.slice (some ad) s.funs.length c) hi w.heap.size w W' ∧ Blk W' wr.heap.size 64 #[.string x.name, .slice A4 n4 c4, .int .i64 x.body.kind, .int .i64 x.body.num, .slice A5 n5 c5])) := Lib.hid fun W W' h hb => ⟨h.1.next hb, h.2.below hb h.2.lt⟩
                  generalize hKK : (fun W => ScKept s (.slice A0 n0 c0) (.slice (some ad) s.funs.length c) hi w.heap.size w W ∧ Blk W wr.heap.size 64 #[.string x.name, .slice A4 n4 c4, .int .i64 x.body.kind, .int .i64 x.body.num, .slice A5 n5 c5]) = K
                  have of_ : ∀ W, K W → ScKept s (.slice A0 n0 c0) (.slice (some ad) s.funs.length c) hi w.heap.size w W ∧ Blk W wr.heap.size 64 #[.string x.name, .slice A4 n4 c4, .int .i64 x.body.kind, .int .i64 x.body.num, .slice A5 n5 c5] := fun W h => by rw [← hKK] at h; exact h
                  have hKn : ∀ W W', K W → Below W.heap.size W W' → K W' := fun W W' h hb => by
                    rw [← hKK] at h ⊢
                    exact HKN.out W W' h hb
                  have HCell : Hid (∀ W, K W → W.cell? ⟨w.heap.size, 0, none⟩ = some (.slice A0 n0 c0) ∧ W.cell? ⟨w.heap.size, 1, none⟩ = some (.slice (some ad) s.funs.length c) ∧ W.cell? ⟨wr.heap.size, 2, none⟩ = some (.int .i64 x.body.kind) ∧ W.cell? ⟨wr.heap.size, 3, none⟩ = some (.int .i64 x.body.num) ∧ W.cell? ⟨wr.heap.size, 4, none⟩ = some (.slice A5 n5 c5)) := Lib.hid fun W h => by
                    obtain ⟨h1, h2⟩ := of_ W h
                    have a0 := h1.b.cell 0
                    have a1 := h1.b.cell 1
                    have a2 := h2.cell 2
                    have a3 := h2.cell 3
                    have a4 := h2.cell 4
                    simp at a0 a1 a2 a3 a4
                    exact ⟨a0, a1, a2, a3, a4⟩
                  have HSK : Hid (∀ W, K W → ScKept s (.slice A0 n0 c0) (.slice (some ad) s.funs.length c) hi w.heap.size w W) := Lib.hid fun W h => (of_ W h).1
                  have HPL := Lib.hid (fun W (h : K W) => (HP.out W (of_ W h).1.i (by have := (of_ W h).1.b.lt; have := (of_ W h).1.hi; omega)).mono fun e w' ⟨vf, vp, he, hp, hb⟩ => (⟨vf, vp, he, hp, hb, hKn _ _ h hb⟩ : ∃ vf vp, e = Ending.returned (.agg #[.slice A0 n0 c0, vf, vp]) ∧ PlIn w' 0 w'.heap.size pl (.slice A0 n0 c0) vf vp ∧ Below W.heap.size W w' ∧ K w'))
                  have HOF := Lib.hid (fun vf vp W hi2 (h : K W) (hp : PlIn W 0 hi2 pl (.slice A0 n0 c0) vf vp) (h2 : hi2 ≤ W.heap.size) => (HO.out vf vp W hi2 hp h2 (T.In.below hbv ((of_ W h).1.bel.mono (by omega)) (fun _ h => by omega)) (fun b hb => by have := (of_ W h).1.b.lt; omega)).mono fun e w' ⟨A, cc, he, hb⟩ => (⟨A, cc, he, hb, hKn _ _ h hb⟩ : ∃ A cc, e = Ending.returned (.tuple #[.agg #[.slice A no cc], .bool bo]) ∧ Below W.heap.size W w' ∧ K w'))
                  have HKa : Hid (∀ W o, K W → K (W.alloc o)) := Lib.hid fun W o h => hKn _ _ h ((Below.refl _ _).alloc (Nat.le_refl _) _)
                  have HKd : Hid (∀ W, K W → K W.drew) := Lib.hid fun W h => hKn _ _ h (Below.refl _ _).drew
                  have k0' : K (wr.alloc (.cells #[.string x.name, .slice A4 n4 c4, .int .i64 x.body.kind, .int .i64 x.body.num, .slice A5 n5 c5] 64)) := by rw [← hKK]; exact ⟨hk2, hbb⟩
                  obtain ⟨l0, l1, l2, l3, l4⟩ := HCell.out _ k0'
                  have HKs : Hid (∀ W b v, K W → wr.heap.size + 1 ≤ b → K (W.setCell ⟨b, 0, none⟩ v)) := Lib.hid fun W b v h hb => by
                    obtain ⟨h1, h2⟩ := of_ W h
                    have hbl : Below (wr.heap.size + 1) W (W.setCell ⟨b, 0, none⟩ v) := (Below.refl _ _).setCell hb _
                    rw [← hKK]
                    exact ⟨⟨h1.b.below hbl (by omega), h1.i.below hbl (by omega), h1.hi, h1.bel.trans (hbl.mono (by omega))⟩, h2.below hbl (by omega)⟩
                  have hgs : wr.heap.size + 1 ≤ (wr.alloc (.cells #[.string x.name, .slice A4 n4 c4, .int .i64 x.body.kind, .int .i64 x.body.num, .slice A5 n5 c5] 64)).heap.size := by simp
                  clear hKK of_ hKn HKN HP HO hk2 hbb bx hkq hsu hbv
                  generalize hgb : wr.heap.size = gb at *
                  go_upto_region 20 with fail
                  generalize hw2 : (wr.alloc (.cells #[.string x.name, .slice A4 n4 c4, .int .i64 x.body.kind, .int .i64 x.body.num, .slice A5 n5 c5] 64)) = w2 at *
                  clear hw2 hgb r0 r1 r2 r3 r4
                  have kd := HKd.out _ k0'
                  have kad := HKd.out _ (HKa.out _ (.cells #[.slice none 0 0] 62) k0')
                  have ba := (Blk.new w2 62 #[.slice none 0 0]).drew
                  go_region_held3 (fun w' => w'.cell? ⟨w.heap.size, 0, none⟩ = some (.slice A0 n0 c0) ∧ w'.cell? ⟨w.heap.size, 1, none⟩ = some (.slice (some ad) s.funs.length c) ∧ w'.cell? ⟨gb, 2, none⟩ = some (.int .i64 x.body.kind) ∧ w'.cell? ⟨gb, 3, none⟩ = some (.int .i64 x.body.num) ∧ w'.cell? ⟨gb, 4, none⟩ = some (.slice A5 n5 c5))
                    (first
                      | assumption
                      | exact HCell.out _ (by assumption)
                      | exact HCell.out _ (HKs.out _ _ _ (by assumption) (by show gb + 1 ≤ _; omega))
                      | go_keep)
                    (first
                    | (go_at_call 82
                       first
                       | ((with_reducible refine (HPL.out _ kd).mono ?_); rintro e W3 ⟨vf, vp, rfl, hp3, b3, K3⟩; have C3 := HCell.out _ K3; have hz3 : w2.heap.size ≤ W3.heap.size := (by have h := b3.size; have e : w2.drew.heap.size = w2.heap.size := rfl; omega); have hB3 : True := trivial)
                       | ((with_reducible refine (HPL.out _ kad).mono ?_); rintro e W3 ⟨vf, vp, rfl, hp3, b3, K3⟩; have C3 := HCell.out _ K3; have hz3 : w2.heap.size ≤ W3.heap.size := (by have h := b3.size; have e : (w2.alloc (.cells #[.slice none 0 0] 62)).drew.heap.size = (w2.alloc (.cells #[.slice none 0 0] 62)).heap.size := rfl; simp only [World.size_alloc] at e h; omega); have hB3 := ba.below b3 ba.lt))
                    | (go_at_call 81
                       first
                       | ((with_reducible refine (HOF.out _ _ _ _ K3 hp3 (Nat.le_refl _)).mono ?_); rintro e W4 ⟨AA, cc, rfl, b4, K4⟩; have C4 := HCell.out _ K4; first | (have hB4 := hB3.below b4 hB3.lt; have x0 := hB4.cell 0; have y0 := hB4.frozen 0; simp at x0) | have hB4 : True := trivial)
                       | ((with_reducible refine (HOF.out _ _ _ _ (HKa.out _ _ K3) (hp3.below ((Below.refl _ _).alloc (Nat.le_refl _) _) (Nat.le_refl _)) (by simp)).mono ?_); rintro e W4 ⟨AA, cc, rfl, b4, K4⟩; have C4 := HCell.out _ K4; have hB4 := (Blk.new W3 62 #[.slice none 0 0]).below b4 (by simp); have x0 := hB4.cell 0; have y0 := hB4.frozen 0; simp at x0)))
                  all_goals
                    first | (have z1 := (hB4.set_ 0 (.slice AA no cc)).cell 0; simp at z1) | skip
                    cases bo with
                    | false =>
                      have HE : Hid (s.sayOk = false) := Lib.hid (HF.out.trans (HNO.out (by rw [HTY.out] <;> rfl)))
                      go_wp2_with fail
                      go_ret
                      exact ⟨by rw [HE.out] <;> rfl, (HSK.out _ (by first | exact HKa.out _ _ K4 | exact HKs.out _ _ _ K4 (by omega))).bel⟩
                    | true =>
                      by_cases hn : no = 0
                      · subst hn
                        have HT := Lib.hid (HSU.out (by rw [HTY.out] <;> rfl))
                        go_wp2_with fail
                        go_roundw
                        case rel => exact ⟨j + 1, by omega, by go_num, HSK.out _ (by first | exact HKa.out _ _ K4 | exact HKs.out _ _ _ K4 (by omega)), HT.out⟩
                        case measure => simp [intOf]; omega
                      · have HE : Hid (s.sayOk = false) := Lib.hid (HF.out.trans (HNO.out (by rw [HTY.out]; simp [hn])))
                        have hd5 : decide ((0 : Int) < (no : Int)) = true := decide_eq_true (by omega)
                        go_wp2_with fail
                        go_ret
                        exact ⟨by rw [HE.out] <;> rfl, (HSK.out _ (by first | exact HKa.out _ _ K4 | exact HKs.out _ _ _ K4 (by omega))).bel⟩
                · have hta : s.funs.all s.typed = true := by
                    rw [List.take_of_length_le (by omega)] at hty
                    exact hty
                  have HE := Lib.hid (HF.out.trans hta)
                  clear hta hty
                  go_wp2_with fail
                  go_ret
                  exact ⟨by rw [HE.out] <;> rfl, hkq.bel⟩
      · have HE : Hid (s.sayOk = false) := Lib.hid (by simp [Sc.sayOk, hn64])
        have hd1 : decide ((s.funs.length : Int) < 1) = false := decide_eq_false (by omega)
        have hd2 : decide ((64 : Int) < (s.funs.length : Int)) = true := decide_eq_true (by omega)
        clear hS
        go_enter Tryz.func38, Tryz.ntmps38
        go_wp2_with fail
        refine HSy.out.mono ?_
        rintro e w1 ⟨rfl, b1⟩
        have k1 := k0.next b1
        have e1 := k1.b.cell 1
        simp at e1
        go_wp2_with fail
        go_ret
        exact ⟨by rw [HE.out] <;> rfl, k1.bel⟩
    · have hz : s.funs.length = 0 := by omega
      have HE : Hid (s.sayOk = false) := Lib.hid (by simp [Sc.sayOk, hz])
      have hd1 : decide ((s.funs.length : Int) < 1) = true := decide_eq_true (by omega)
      clear hS hz hn1
      go_enter Tryz.func38, Tryz.ntmps38
      go_wp2_with fail
      refine HSy.out.mono ?_
      rintro e w1 ⟨rfl, b1⟩
      have k1 := k0.next b1
      have e1 := k1.b.cell 1
      simp at e1
      go_wp2_with fail
      go_ret
      exact ⟨by rw [HE.out] <;> rfl, k1.bel⟩

end Go.Proofs.YtbbejhhohppdhaaGreatDoor
