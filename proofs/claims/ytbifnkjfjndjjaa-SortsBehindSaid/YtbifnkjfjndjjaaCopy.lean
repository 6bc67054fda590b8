/-
  The reference's Copy: what it returns is the sort, each array in a block of its own.
-/
import Derived.Test.YtbifnkjfjndjjaaClone
namespace Go.Proofs.Ytbifnkjfjndjjaa
open Go.RowKit

theorem copy_results {tmps : Array Value} {w : World} {a : Nat} {x : Value} (h2 : tmps.getD 2 undef = .pointer (some ⟨a, 0, none⟩))
    (ha : Blk w a 24 #[x]) : (results Try.f29 tmps).run Try.prog w = .ok (.agg #[x]) w := by
  have h4 := ha.cell 0
  simp at h4
  have h2' : tmps[2]?.getD undef = .pointer (some ⟨a, 0, none⟩) := by simpa using h2
  simp [results, Try.results29, go_sem, h2', h4]

set_option maxRecDepth 100000 in
set_option maxHeartbeats 3200000 in
theorem copy_any (K : Nat) : ∀ (s : S) (v : Value) (w : World) (lo hi : Nat), s.count ≤ K → s.count ≤ 1000 → s.In w lo hi v → hi ≤ w.heap.size →
    Calls Try.prog 29 #[.agg #[v]] w (Cloned s w.heap.size w) := by
  induction K with
  | zero => intro s; have := s.count_pos; omega
  | succ K ih =>
    intro s v w lo hi hK hm hin hhi
    obtain ⟨i0, hi0, hz0, hz1, hz2⟩ := info_parts sort_info
    obtain ⟨l⟩ := s
    simp only [S.In] at hin
    obtain ⟨A, _, c, rfl, rfl, hnc, hc, hall⟩ := hin
    have hlen : l.length ≤ 1000 := by
      have := countL_take_bound l l.length (Nat.le_refl _)
      rw [List.take_length] at this
      simp only [S.count] at hm; omega
    go_enter Try.func29, Try.ntmps29
    go_wp2_with fail
    go_loopw [9] (fun i wr => ∃ k cv us fp, k ≤ l.length ∧ i = .int .i64 (k : Nat) ∧ Round l w.heap.size w k cv us fp wr) (fun i _ => l.length - (intOf i).toNat)
    case atStart => exact ⟨0, _, [], [], Nat.zero_le _, rfl, Round.start l w _⟩
    case round =>
      obtain ⟨k, cv, us, fp, hk, rfl, hr⟩ := hrel
      have hsz := hr.bel.size
      have hsz1 := hr.blk.lt
      by_cases hlt : k < l.length
      · have hx : l[k]? = some l[k] := List.getElem?_eq_getElem hlt
        have hcl := S.count_lt hx
        obtain ⟨ad, u, rfl, _, hadb, hcell, hinx⟩ := hall.at_ hx
        rw [Nat.zero_add] at hcell
        have hcellr : wr.cell? (ad.add k) = some u := (hr.bel.cell (by rw [block_of_add]; omega)).trans hcell
        obtain ⟨A', n', c', rfl⟩ := hinx.form
        have hw1 := hr.bel.alloc hsz (.cells #[.slice A' n' c'] 24)
        have hinr := hinx.below hw1 hhi
        have hcc := (hr.blk.alloc (.cells #[.slice A' n' c'] 24)).cell 0
        have hcx := (Blk.new wr 24 #[.slice A' n' c']).cell 0
        have hih := fun w' (h : Below (wr.heap.size + 1) (wr.alloc (.cells #[.slice A' n' c'] 24)) w') => ih l[k] (.slice A' n' c') w' lo hi (by omega) (by omega) (hinr.below h (by omega)) (by have := h.size; simp at this; omega)
        have HIH := Lib.hid hih
        have HX := Lib.hid hx
        generalize l[k] = x at *
        clear hih ih hx hcell
        go_wp2_with fail
        go_region_law
          (first
            | (refine step_append_lies _ (by rfl) _ _ _ (by rfl) (w.heap.size + 3) 24 i0 _ 1 24 Try.underlying22 hi0 hz0 hz1 hz2 rfl (by omega) cv k us (by rfl) (by exact (hown1.alloc _))
                ⟨w1.heap.size, 0, none⟩ 1 1 [v1] (by rfl) (by rfl) (by exact World.news_of_block (cs := #[v1]) (t := 24) (fr := (0, 0)) (heap_alloc_new w1 _)) (by exact fun u hu => by rw [List.mem_singleton.1 hu]; exact hone) (by omega) (by simp only [maxLen]; omega) (by omega) (by simp; omega) (w1.heap.size + 1) (by simp) ?_; intro gg cap w2 hown2 hgrow hat hlt2
               have hblk2 : Blk w2 (w.heap.size + 1 + 1) 24 #[cv] := (hgrow.block _ (by simp; omega) (fun e => by have := (hr.own.lt _ e.symm).1; omega)).trans (hblk1.alloc _)
               have hxb2 : Blk w2 wr.heap.size 24 #[.slice A' n' c'] := (hgrow.block _ (by simp; omega) (fun e => by have := (hr.own.lt _ e.symm).2; omega)).trans (hxb1.alloc _)
               have r1 := hblk2.cell 0
               have r2 := hxb2.cell 0
               have r3 := hblk2.frozen 0
               simp at r1 r2)
            | (go_simp; go_at_call 29; refine (HIH.out _ (by exact (Below.refl _ _).drew)).mono ?_; rintro e w1 ⟨v1, fp1, rfl, hsep1, hnod1, hrng1, hb1⟩
               have hone : v1.oneCell' = true := by obtain ⟨A1, n1, c1, rfl⟩ := hsep1.form; rfl
               have hwz : wr.heap.size + 1 ≤ w1.heap.size := by have h : (wr.alloc (.cells #[.slice A' n' c'] 24)).heap.size ≤ w1.heap.size := hb1.size; simpa using h
               have hbb1 : Below (wr.heap.size + 1) (wr.alloc (.cells #[.slice A' n' c'] 24)).drew w1 := hb1.mono (by show _ ≤ (wr.alloc _).heap.size; simp)
               have hown1 : w1.ownsRow (w.heap.size + 3) 24 1 cv k us := owns_kept ((hr.own.alloc _).drew) (fun b hb => hbb1.block b (by have := (hr.own.lt b hb).2; omega))
               have hblk1 : Blk w1 (w.heap.size + 1 + 1) 24 #[cv] := ((hr.blk.alloc _).drew).below hbb1 (by omega)
               have hxb1 : Blk w1 wr.heap.size 24 #[.slice A' n' c'] := ((Blk.new wr 24 _).drew).below hbb1 (by omega)
               have q1 := hblk1.cell 0
               have q2 := hxb1.cell 0
               have q3 : (w1.alloc (.cells #[v1] 24)).cell? ⟨w.heap.size + 1 + 1, 0, none⟩ = some cv := (hblk1.alloc _).cell 0
               simp at q1 q2))
        all_goals
          go_wp2_with fail
          go_roundw
          case rel => exact ⟨k + 1, _, _, _, by omega, by go_num, hr.next HX.out hsep1 hnod1 (fun b hb => by have h := hrng1 b hb; simp at h; exact h) hbb1 hwz hown2 hgrow hat⟩
          case measure => simp [intOf]; omega
      · have hkl : k = l.length := by omega
        obtain ⟨A3, n3, c3, rfl⟩ := own_form hr.own
        have hc0 := hr.blk.cell 0
        have hr0 := hr.res.cell 0
        have hrf := hr.res.frozen 0
        clear ih
        have HKL := Lib.hid hkl
        clear hkl
        go_wp2_with fail
        refine bodyPost_ret (copy_results rfl (hr.res.set_ 0 _)) rfl ?_
        rw [HKL.out] at hr
        obtain ⟨g1, g2, g3, g4⟩ := hr.done (.slice A3 n3 c3)
        exact ⟨_, _, rfl, g1, g2, fun b hb => by have := g3 b hb; omega, g4⟩
end Go.Proofs.Ytbifnkjfjndjjaa
