/-
  The reference's Copy and Replace: what they return is the term, in memory of its own.
-/
import Derived.Test.YtmggccgjhjknpaaTClone
namespace Go.Proofs.Ytmggccgjhjknpaa
open Go.RowKit

/-- What the loop of Copy (and of Replace) holds behind k rounds: list so far ml, its slice cv in the box at B + 2. -/
structure RoundT (ml : List T) (kd nm : Int) (B : Nat) (w0 : World) (cv : Value) (us : List Value) (w : World) : Prop where
  lst : Mk (B + 3) w ml cv us
  out : Blk w (B + 1 + 1) 35 #[.int .i64 kd, .int .i64 nm, cv]
  res : Blk w (B + 1) 35 #[.int .i64 0, .int .i64 0, .slice none 0 0]
  bel : Below B w0 w

theorem RoundT.next {ml : List T} {kd nm : Int} {B : Nat} {w0 wr w1 w2 : World} {cv : Value} {us : List Value} {y : T} {u : Value} {us1 : List Value} {o o1 : Obj} {gg cap : Nat}
    (hr : RoundT ml kd nm B w0 cv us wr) (hm1 : Mk (wr.heap.size + 1) w1 y.args u us1) (hbb1 : Below (wr.heap.size + 1) (wr.alloc o).drew w1) (hwz : wr.heap.size + 1 ≤ w1.heap.size)
    (hown2 : w2.ownsRow (B + 3) 35 3 (.slice (some ⟨gg, 0, none⟩) (ml.length + 1) cap) (ml.length + 1) (us ++ [.int .i64 y.kind, .int .i64 y.num, u])) (hgrow : (w1.alloc o1).grownBy w2 cv.ownBlock)
    (hat : cv.ownBlock = some gg ∨ gg = w1.heap.size + 1) :
    RoundT (ml ++ [y]) kd nm B w0 (.slice (some ⟨gg, 0, none⟩) (ml.length + 1) cap) (us ++ [.int .i64 y.kind, .int .i64 y.num, u]) (w2.setCell ⟨B + 1 + 1, 2, none⟩ (.slice (some ⟨gg, 0, none⟩) (ml.length + 1) cap)) := by
  have hB3 : B + 1 + 1 < wr.heap.size := hr.out.lt
  have hcv : ∀ b, cv.ownBlock = some b → B + 3 ≤ b ∧ b < wr.heap.size := fun b hb => hr.lst.lt hb
  have hk1 : ∀ b, b < wr.heap.size → w1.heap[b]? = wr.heap[b]? := fun b hb => (hbb1.block b (by omega)).trans (Below.heap_alloc wr o b hb)
  have hk2 : ∀ b, b < wr.heap.size → cv.ownBlock ≠ some b → w2.heap[b]? = wr.heap[b]? := fun b hb hne => by
    rw [hgrow.block b (by simp; omega) (fun e => hne e.symm), Below.heap_alloc _ _ _ (by omega), hk1 b hb]
  have hin := hm1.nterm
  refine ⟨?_, ?_, ?_, ?_⟩
  · refine Mk.set ?_ (by show B + 1 + 1 < B + 3; omega) _
    exact hr.lst.push (by omega) hk1 (by omega) (hin.more (fun b hb => ⟨by have := hb.1; omega, hb.2⟩) _) hown2 hgrow hat
  · have h1 : Blk w2 (B + 1 + 1) 35 #[.int .i64 kd, .int .i64 nm, cv] := (hk2 _ hB3 (fun e => by have := hcv _ e; omega)).trans hr.out
    exact h1.set_ 2 _
  · have h1 : Blk w2 (B + 1) 35 #[.int .i64 0, .int .i64 0, .slice none 0 0] := (hk2 _ (by omega) (fun e => by have := hcv _ e; omega)).trans hr.res
    exact h1.far (by simp) _
  · refine Below.setCell (hr.bel.trans ?_) (by simp; omega) _
    have e1 : Below B wr w1 := ⟨(hbb1.os), (hbb1.tape), (hbb1.output), by omega, fun b hb => hk1 b (by omega)⟩
    exact (e1.alloc (by omega) o1).grown hgrow (by simp; omega) (fun b hb => by have := hcv b hb; omega)

theorem copyT_results {tmps : Array Value} {w : World} {a : Nat} {x y z : Value} (h2 : tmps.getD 2 undef = .pointer (some ⟨a, 0, none⟩))
    (ha : Blk w a 35 #[x, y, z]) : (results Try.f38 tmps).run Try.prog w = .ok (.agg #[x, y, z]) w := by
  have h4 := ha.cell 0
  have h5 := ha.cell 1
  have h6 := ha.cell 2
  simp at h4 h5 h6
  have h2' : tmps[2]?.getD undef = .pointer (some ⟨a, 0, none⟩) := by simpa using h2
  simp [results, Try.results38, go_sem, h2', h4, h5, h6]

set_option maxRecDepth 100000 in
set_option maxHeartbeats 3200000 in
theorem copyT_any (K : Nat) : ∀ (t : T) (v : Value) (w : World) (P : Nat → Prop), t.count ≤ K → t.count ≤ 100000 → t.In w P v → Old P w →
    Calls Try.prog 38 #[.agg #[.int .i64 t.kind, .int .i64 t.num, v]] w (Made t w) := by
  induction K with
  | zero => intro t; have := t.count_pos; omega
  | succ K ih =>
    intro t v w P hK hm hin hold
    obtain ⟨i0, hi0, hz0, hz1, hz2⟩ := info_parts term_info
    obtain ⟨kd, nm, l⟩ := t
    simp only [T.In] at hin
    obtain ⟨A, _, c, us0, rfl, rfl, hnc, hc, hrd, hrow⟩ := hin
    simp only [T.kind, T.num]
    have hlen := T.length_le l
    simp only [T.count] at hm hK
    go_enter Try.func38, Try.ntmps38
    go_wp2_with fail
    go_loopw [14] (fun i wr => ∃ k cv us, k ≤ l.length ∧ i = .int .i64 (k : Nat) ∧ RoundT (l.take k) kd nm w.heap.size w cv us wr) (fun i _ => l.length - (intOf i).toNat)
    case atStart =>
      refine ⟨0, _, [], Nat.zero_le _, rfl, ⟨by simpa using Mk.nil _ _, ?_, ?_, ?_⟩⟩
      · simpa using Blk.new ((w.alloc (.cells #[.int .i64 kd, .int .i64 nm, .slice A l.length c] 35)).alloc (.cells #[.int .i64 0, .int .i64 0, .slice none 0 0] 35)) 35 #[.int .i64 kd, .int .i64 nm, .slice none 0 0]
      · exact (by simpa using Blk.new (w.alloc (.cells #[.int .i64 kd, .int .i64 nm, .slice A l.length c] 35)) 35 #[.int .i64 0, .int .i64 0, .slice none 0 0] : Blk ((w.alloc (.cells #[.int .i64 kd, .int .i64 nm, .slice A l.length c] 35)).alloc (.cells #[.int .i64 0, .int .i64 0, .slice none 0 0] 35)) (w.heap.size + 1) 35 #[.int .i64 0, .int .i64 0, .slice none 0 0]).alloc _
      · exact (((Below.refl _ _).alloc (Nat.le_refl _) _).alloc (by simp) _).alloc (by simp; omega) _
    case round =>
      obtain ⟨k, cv, us, hk, rfl, hr⟩ := hrel
      have hsz := hr.bel.size
      have hsz1 := hr.out.lt
      by_cases hlt : k < l.length
      · have hx : l[k]? = some l[k] := List.getElem?_eq_getElem hlt
        have hcl := T.count_lt (a := kd) (b := nm) hx
        simp only [T.count] at hcl
        obtain ⟨ad, u, rfl, hPa, hel, hinx⟩ := T.In.el hrd hrow hx
        obtain ⟨r0, r1, r2⟩ := hel.keep (hr.bel.block _ (hold _ hPa))
        obtain ⟨A', n', c', rfl⟩ := hinx.form
        have hw1 := hr.bel.alloc hsz (.cells #[.int .i64 l[k].kind, .int .i64 l[k].num, .slice A' n' c'] 35)
        have hinr := hinx.old hold hw1
        have d0 := (hr.out.alloc (.cells #[.int .i64 l[k].kind, .int .i64 l[k].num, .slice A' n' c'] 35)).cell 2
        have hxB := Blk.new wr 35 #[.int .i64 l[k].kind, .int .i64 l[k].num, .slice A' n' c']
        have d1 := hxB.cell 0
        have d2 := hxB.cell 1
        have d3 := hxB.cell 2
        have hih := fun w' (h : Below (wr.heap.size + 1) (wr.alloc (.cells #[.int .i64 l[k].kind, .int .i64 l[k].num, .slice A' n' c'] 35)) w') => ih l[k] (.slice A' n' c') w' P (by omega) (by omega) (hinr.below h (fun b hb => by have := hold b hb; omega)) ((hold.bel hw1).le h.size)
        have hsnoc : l.take (k + 1) = l.take k ++ [l[k]] := by rw [List.take_add_one, hx]; rfl
        have hkl : (l.take k).length = k := by rw [List.length_take]; omega
        generalize l.take k = ml at *
        have HIH := Lib.hid hih
        have HX := Lib.hid hx
        have HS := Lib.hid hsnoc
        have HL := Lib.hid hkl
        generalize l[k] = x at *
        clear hih ih hx hel hsnoc hkl
        go_wp2_with fail
        go_region_law
          (first
            | (refine step_append_lies _ (by rfl) _ _ _ (by rfl) (w.heap.size + 3) 35 i0 _ 3 40 Try.underlying33 hi0 hz0 hz1 hz2 rfl (by omega) cv _ us (by rfl) (by exact (hown1.alloc _))
                ⟨w1.heap.size, 0, none⟩ 1 1 [.int .i64 x.kind, .int .i64 x.num, v1] (by rfl) (by rfl) (by exact World.news_of_block (cs := #[.int .i64 x.kind, .int .i64 x.num, v1]) (t := 35) (fr := (0, 0)) (heap_alloc_new w1 _)) (by exact hones _ _ _ hone) (by omega) (by rw [HL.out]; simp only [maxLen]; omega) (by rw [HL.out]; omega) (by simp; omega) (w1.heap.size + 1) (by simp) ?_; intro gg cap w2 hown2 hgrow hat hlt2
               have hblk2 : Blk w2 (w.heap.size + 1 + 1) 35 #[.int .i64 kd, .int .i64 nm, cv] := (hgrow.block _ (by simp; omega) (fun e => by have := (hr.lst.lt e.symm).1; omega)).trans (hblk1.alloc _)
               have hxb2 : Blk w2 wr.heap.size 35 #[.int .i64 x.kind, .int .i64 x.num, .slice A' n' c'] := (hgrow.block _ (by simp; omega) (fun e => by have := (hr.lst.lt e.symm).2; omega)).trans (hxb1.alloc _)
               have s1 := hblk2.cell 2
               have s2 := hxb2.cell 0
               have s3 := hxb2.cell 1
               have s4 := hxb2.cell 2
               have s5 := hblk2.frozen 2
               simp at s1 s2 s3 s4)
            | (go_simp; go_at_call 38; refine (HIH.out _ (by exact (Below.refl _ _).drew)).mono ?_; rintro e w1 ⟨v1, us1, rfl, hm1, hb1⟩
               have hone : v1.oneCell' = true := by obtain ⟨A1, c1, rfl⟩ := hm1.form; rfl
               have hwz : wr.heap.size + 1 ≤ w1.heap.size := by have h : (wr.alloc (.cells #[.int .i64 x.kind, .int .i64 x.num, .slice A' n' c'] 35)).heap.size ≤ w1.heap.size := hb1.size; simpa using h
               have hbb1 : Below (wr.heap.size + 1) (wr.alloc (.cells #[.int .i64 x.kind, .int .i64 x.num, .slice A' n' c'] 35)).drew w1 := hb1.mono (by show _ ≤ (wr.alloc _).heap.size; simp)
               have hown1 : w1.ownsRow (w.heap.size + 3) 35 3 cv ml.length us := owns_kept3 ((hr.lst.own.alloc _).drew) (fun b hb => hbb1.block b (by have := (hr.lst.lt hb).2; omega))
               have hblk1 : Blk w1 (w.heap.size + 1 + 1) 35 #[.int .i64 kd, .int .i64 nm, cv] := ((hr.out.alloc _).drew).below hbb1 (by omega)
               have hxb1 : Blk w1 wr.heap.size 35 #[.int .i64 x.kind, .int .i64 x.num, .slice A' n' c'] := ((Blk.new wr 35 _).drew).below hbb1 (by omega)
               have q1 := hblk1.cell 2
               have q2 := hxb1.cell 0
               have q3 := hxb1.cell 1
               have q4 := hxb1.cell 2
               have q5 : (w1.alloc (.cells #[.int .i64 x.kind, .int .i64 x.num, v1] 35)).cell? ⟨w.heap.size + 1 + 1, 2, none⟩ = some cv := (hblk1.alloc _).cell 2
               simp at q1 q2 q3 q4))
        all_goals
          go_wp2_with fail
          go_roundw
          case rel => exact ⟨k + 1, _, _, by omega, by go_num, by rw [HS.out]; exact hr.next (by simpa [World.drew] using hm1) hbb1 hwz hown2 hgrow hat⟩
          case measure => simp [intOf]; omega
      · have hll : l.take k = l := List.take_of_length_le (by omega)
        rw [hll] at hr
        obtain ⟨A3, c3, rfl⟩ := hr.lst.form
        have c0 := hr.out.cell 0
        have c1 := hr.out.cell 1
        have c2 := hr.out.cell 2
        have e0 := hr.res.cell 0
        have e1 := hr.res.cell 1
        have e2 := hr.res.cell 2
        have e3 := hr.res.frozen 0
        have e4 := hr.res.frozen 1
        have e5 := hr.res.frozen 2
        clear ih hll
        go_wp2_with fail
        refine bodyPost_ret (copyT_results rfl ((((hr.res.set_ 0 _).set_ 1 _).set_ 2 _).eq_ (by simp; exact ⟨rfl, rfl, rfl⟩))) rfl ⟨_, us, rfl, ?_, ?_⟩
        · exact (((hr.lst.set (by simp) _).set (by simp) _).set (by simp) _).less (by omega)
        · exact ((hr.bel.setCell (by simp) _).setCell (by simp) _).setCell (by simp) _
end Go.Proofs.Ytmggccgjhjknpaa
