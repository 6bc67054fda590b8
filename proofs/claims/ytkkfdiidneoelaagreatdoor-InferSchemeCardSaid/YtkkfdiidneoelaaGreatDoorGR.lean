/-
  (*guess).whole: a contract.
  nest.Size at guesses: a contract.
  (*guess).settle: a contract.
  infer.Sorts: a contract.
-/
import Derived.Test.YtkkfdiidneoelaaGreatDoorGM
import Derived.Test.YtkkfdiidneoelaaGreatDoorGB
import Derived.Test.YtkkfdiidneoelaaGreatDoorGA
import Derived.Deep.RegionHeld3
import Derived.Test.YtkkfdiidneoelaaGreatDoorISolveB
namespace Go.Proofs.YtkkfdiidneoelaaGreatDoor
open Go.RowKit

/-- What the loop of whole holds behind k rounds. -/
structure RoundW (l : List S) (ps : List Nat) (w0 : World) (k : Nat) (cv : Value) (us : List Value) (fp : List Nat) (w : World) : Prop where
  own : w.ownsRow (w0.heap.size + 2) 50 1 cv k us
  sep : S.SepL w (l.take k) us fp
  nod : (cv.ownBlock.toList ++ fp).Nodup
  rng : ∀ b ∈ fp, w0.heap.size + 2 ≤ b ∧ b < w.heap.size
  blk : Blk w (w0.heap.size + 1) 50 #[cv]
  res : Blk w w0.heap.size 50 #[.slice none 0 0]
  sav : Saves (· ∈ ps) w0 w
theorem RoundW.next {l : List S} {ps : List Nat} {w0 wr w1 w2 : World} {k : Nat} {cv : Value} {us : List Value} {fp fp1 : List Nat} {x : S} {v1 : Value} {gg cap : Nat} {o1 : Obj}
    (hr : RoundW l ps w0 k cv us fp wr) (hps : ∀ b ∈ ps, b < w0.heap.size) (hx : l[k]? = some x) (hsep1 : x.Sep w1 v1 fp1) (hnod1 : fp1.Nodup) (hrng1 : ∀ b ∈ fp1, wr.heap.size ≤ b ∧ b < w1.heap.size)
    (hbb1 : Saves (· ∈ ps) wr w1)
    (hown2 : w2.ownsRow (w0.heap.size + 2) 50 1 (.slice (some ⟨gg, 0, none⟩) (k + 1) cap) (k + 1) (us ++ [v1])) (hgrow : (w1.alloc o1).grownBy w2 cv.ownBlock)
    (hat : cv.ownBlock = some gg ∨ gg = w1.heap.size + 1) :
    RoundW l ps w0 (k + 1) (.slice (some ⟨gg, 0, none⟩) (k + 1) cap) (us ++ [v1]) (fp ++ fp1) (w2.setCell ⟨w0.heap.size + 1, 0, none⟩ (.slice (some ⟨gg, 0, none⟩) (k + 1) cap)) := by
  have hB3 : w0.heap.size + 1 < wr.heap.size := hr.blk.lt
  have hgl := hown2.lt gg rfl
  have hwz := hbb1.size
  have hsz2 : w1.heap.size + 1 ≤ w2.heap.size := by have := hgrow.size; simpa using this
  have hcvlt : ∀ b, cv.ownBlock = some b → w0.heap.size + 2 ≤ b ∧ b < wr.heap.size := fun b hb => hr.own.lt b hb
  have hnp : ∀ b, w0.heap.size ≤ b → b ∉ ps := fun b hb hm => by have := hps b hm; omega
  have hfar : ∀ b, b < w1.heap.size → cv.ownBlock ≠ some b → b ≠ w0.heap.size + 1 → (w2.setCell ⟨w0.heap.size + 1, 0, none⟩ (.slice (some ⟨gg, 0, none⟩) (k + 1) cap)).heap[b]? = w1.heap[b]? := by
    intro b hb hc hne
    rw [Below.heap_setCell _ _ _ _ hne, hgrow.block b (by simp; omega) (fun e => hc e.symm), Below.heap_alloc _ _ _ hb]
  have hfar0 : ∀ b, w0.heap.size ≤ b → b < wr.heap.size → cv.ownBlock ≠ some b → b ≠ w0.heap.size + 1 → (w2.setCell ⟨w0.heap.size + 1, 0, none⟩ (.slice (some ⟨gg, 0, none⟩) (k + 1) cap)).heap[b]? = wr.heap[b]? := by
    intro b h0 hb hc hne
    rw [hfar b (by omega) hc hne, hbb1.block b hb (hnp b h0)]
  have hnod := List.nodup_append.1 hr.nod
  have hnf : ∀ b ∈ fp, cv.ownBlock ≠ some b := fun b hb he => hnod.2.2 b (by simp [he]) b hb rfl
  refine ⟨owns_kept hown2 (fun b hb => ?_), ?_, ?_, ?_, ?_, ?_, ?_⟩
  · have hb' : gg = b := by simpa [Value.ownBlock] using hb
    exact Below.heap_setCell _ _ _ _ (by show b ≠ w0.heap.size + 1; omega)
  · rw [List.take_add_one, hx]
    refine S.SepL.snoc (hsep1.keep _ (fun b hb => hfar b (hrng1 b hb).2 (fun he => by have := hcvlt b he; have := hrng1 b hb; omega) (by have := hrng1 b hb; omega))) _ (hr.sep.keep _ (fun b hb => hfar0 b (by have := hr.rng b hb; omega) (hr.rng b hb).2 (hnf b hb) (by have := hr.rng b hb; omega)))
  · have hdis : ∀ a ∈ fp, ∀ b ∈ fp1, a ≠ b := fun a ha b hb => by have := hr.rng a ha; have := hrng1 b hb; omega
    have h2 : (fp ++ fp1).Nodup := List.nodup_append.2 ⟨hnod.2.1, hnod1, hdis⟩
    simp only [Value.ownBlock, Option.toList, List.cons_append, List.nil_append]
    refine List.nodup_cons.2 ⟨fun hm => ?_, h2⟩
    rcases List.mem_append.1 hm with hm | hm
    · rcases hat with he | he
      · exact hnf gg hm he
      · have := hr.rng gg hm; omega
    · rcases hat with he | he
      · have := hcvlt gg he; have := hrng1 gg hm; omega
      · have := hrng1 gg hm; omega
  · intro b hb
    have hsz : w2.heap.size = (w2.setCell ⟨w0.heap.size + 1, 0, none⟩ (.slice (some ⟨gg, 0, none⟩) (k + 1) cap)).heap.size := by simp [World.setCell]
    rcases List.mem_append.1 hb with hb | hb
    · have := hr.rng b hb; omega
    · have := hrng1 b hb; omega
  · have h1 : Blk w2 (w0.heap.size + 1) 50 #[cv] := (hgrow.block _ (by simp; omega) (fun e => by have := hcvlt _ e.symm; omega)).trans ((hr.blk.saves hbb1 (hnp _ (by omega))).alloc o1)
    exact h1.set_ 0 _
  · exact (hfar0 w0.heap.size (Nat.le_refl _) (by omega) (fun e => by have := hcvlt _ e; omega) (by omega)).trans hr.res
  · refine Saves.setCell ?_ (.inr (by simp)) _
    have h1 := (hr.sav.trans hbb1).alloc o1
    refine ⟨hgrow.os.trans h1.os, hgrow.tape.trans h1.tape, hgrow.output.trans h1.output, Nat.le_trans h1.size hgrow.size, fun b hb hn => ?_⟩
    exact (hgrow.block b (by simp; omega) (fun e => by have := hcvlt b e.symm; omega)).trans (h1.block b hb hn)
theorem RoundW.done {l : List S} {ps : List Nat} {w0 wr : World} {cv : Value} {us : List Value} {fp : List Nat} (hr : RoundW l ps w0 l.length cv us fp wr) (u : Value) :
    (S.mk l).Sep (wr.setCell ⟨w0.heap.size, 0, none⟩ u) cv (cv.ownBlock.toList ++ fp) ∧ (cv.ownBlock.toList ++ fp).Nodup ∧ (∀ b ∈ cv.ownBlock.toList ++ fp, w0.heap.size ≤ b ∧ b < (wr.setCell ⟨w0.heap.size, 0, none⟩ u).heap.size) ∧ Saves (· ∈ ps) w0 (wr.setCell ⟨w0.heap.size, 0, none⟩ u) := by
  have hcvlt : ∀ b, cv.ownBlock = some b → w0.heap.size + 2 ≤ b ∧ b < wr.heap.size := fun b hb => hr.own.lt b hb
  have hall : ∀ b ∈ cv.ownBlock.toList ++ fp, w0.heap.size + 2 ≤ b ∧ b < wr.heap.size := by
    intro b hb
    rcases List.mem_append.1 hb with hb | hb
    · exact hcvlt b (by simpa using hb)
    · exact hr.rng b hb
  have hs : (S.mk l).Sep wr cv (cv.ownBlock.toList ++ fp) := by
    simp only [S.Sep]
    refine ⟨us, fp, ⟨hr.own.1, ?_⟩, by have := hr.sep; rwa [List.take_length] at this, rfl⟩
    rcases hr.own.2 with h | ⟨g, cap, cur, h1, h2, h3⟩
    · exact .inl h
    · exact .inr ⟨g, cap, cur, h1, Nat.zero_le _, h3⟩
  exact ⟨hs.keep _ (fun b hb => Below.heap_setCell _ _ _ _ (by have := hall b hb; show b ≠ w0.heap.size; omega)), hr.nod, fun b hb => by have := hall b hb; simp only [World.setCell, Array.size_modify]; omega, hr.sav.setCell (.inr (Nat.le_refl _)) _⟩
theorem RoundW.start (l : List S) (ps : List Nat) (w : World) : RoundW l ps w 0 (.slice none 0 0) [] [] ((w.alloc (.cells #[.slice none 0 0] 50)).alloc (.cells #[.slice none 0 0] 50)) where
  own := ⟨by simp, .inl ⟨rfl, rfl⟩⟩
  sep := by simp [S.SepL]
  nod := by simp [Value.ownBlock]
  rng := by simp
  blk := by simpa using Blk.new (w.alloc (.cells #[.slice none 0 0] 50)) 50 #[.slice none 0 0]
  res := (Blk.new w 50 #[.slice none 0 0]).alloc _
  sav := ((Saves.refl _ _).alloc _).alloc _
theorem own_own_ne {w : World} {base base' : Nat} {e e' : TypeId} {size size' n n' : Nat} {v v' : Value} {xs xs' : List Value} (h : w.ownsRow base e size v n xs) (h' : w.ownsRow base' e' size' v' n' xs') (hne : e ≠ e') : ∀ b, v.ownBlock = some b → v'.ownBlock ≠ some b := by
  intro b hb hb'
  rcases h.2 with ⟨rfl, _⟩ | ⟨g, cap, cur, rfl, _, hh, _⟩
  · cases hb
  · rcases h'.2 with ⟨rfl, _⟩ | ⟨g', cap', cur', rfl, _, hh', _⟩
    · cases hb'
    · have e1 : g = b := by simpa [Value.ownBlock] using hb
      have e2 : g' = b := by simpa [Value.ownBlock] using hb'
      subst e1
      rw [e2] at hh'
      rw [hh] at hh'
      injection hh' with hh'
      injection hh' with _ ht
      exact hne ht
/-- What whole answers: the sort, in blocks of its own. -/
def WholePost (ps : List Nat) (G : Gr) (vis : Nat → Int) (s : S) (w : World) (e : Ending) (w' : World) : Prop :=
  ∃ v fp G', e = .returned (.agg #[v]) ∧ s.Sep w' v fp ∧ fp.Nodup ∧ (∀ b ∈ fp, w.heap.size ≤ b ∧ b < w'.heap.size) ∧ Saves (· ∈ ps) w w' ∧ Alike G G' ∧ Gs w' ps G' vis
theorem whole_results {tmps : Array Value} {w : World} {a : Nat} {x : Value} (h2 : tmps.getD 2 undef = .pointer (some ⟨a, 0, none⟩))
    (ha : Blk w a 50 #[x]) : (results Tryz.f120 tmps).run Tryz.prog w = .ok (.agg #[x]) w := by
  have h4 := ha.cell 0
  simp at h4
  have h2' : tmps[2]?.getD undef = .pointer (some ⟨a, 0, none⟩) := by simpa using h2
  simp [results, Tryz.results120, go_sem, h2', h4]

def WhAt (l : List S) (ps : List Nat) (G : Gr) (vis : Nat → Int) (us0 : List Nat) (B : Nat) (qv : Value) (w : World) (i : Value) (wr : World) : Prop :=
  ∃ (k : Nat) (cv : Value) (us : List Value) (fp : List Nat) (G' : Gr), k ≤ l.length ∧ i = .int .i64 (k : Int) ∧ RoundW l ps w k cv us fp wr ∧ Alike G G' ∧ Gs wr ps G' vis ∧ Ps B wr us0 qv

set_option maxRecDepth 100000 in
set_option maxHeartbeats 3200000 in
theorem whole_any (K : Nat) : ∀ (s : S) (ps : List Nat) (G : Gr) (vis : Nat → Int) (v : Nat → D) (x p : Nat) (w : World), s.count ≤ K → Good G → Can G v → G.length ≤ 1000000 → Gs w ps G vis → ps[x]? = some p → v x = s.emb →
    Calls Tryz.prog 120 #[pv p] w (WholePost ps G vis s w) := by
  induction K with
  | zero => intro s; have := s.count_pos; omega
  | succ K ih =>
    intro s ps G vis v x p w hK hG hv hlen hgs hx hvx
    obtain ⟨i0, hi0, hz0, hz1, hz2⟩ := info_parts sort_info
    obtain ⟨l⟩ := s
    have hvx' : v x = chainD (l.map S.emb) D.o := by rw [hvx, emb_chain]
    have hxl : x < G.length := by have := hgs.len; have := (List.getElem?_eq_some_iff.1 hx).1; omega
    have hll : l.length ≤ 1000000 := by have := chain_le hG hv hxl hvx'; simp at this; omega
    have hps : ∀ b ∈ ps, b < w.heap.size := fun b hb => hgs.lt hb
    have hw2 : Below w.heap.size w ((w.alloc (.cells #[.slice none 0 0] 50)).alloc (.cells #[.slice none 0 0] 50)) := ((Below.refl _ _).alloc (Nat.le_refl _) _).alloc (by simp) _
    have hca := args_any ps G vis v (l.map S.emb) x p _ hG hv hlen (hgs.below hw2) hx hvx'
    have HCA := Lib.hid hca
    have HIH := Lib.hid ih
    have HV := Lib.hid hv
    have HLN := Lib.hid hlen
    have HK := Lib.hid hK
    have HPS := Lib.hid hps
    clear hca ih hv hlen hK hgs hx hvx hvx' hxl hw2
    go_enter Tryz.func120, Tryz.ntmps120
    go_wp2_with fail
    refine HCA.out.mono ?_
    rintro e w1 ⟨G1, qs, us0, qv, rfl, ha1, hg1, ht1, hn1, hp1, hqd, _⟩
    obtain ⟨Aq, cq, rfl⟩ := hp1.form
    have hql : us0.length = l.length := by rw [hn1.1]; have := congrArg List.length hqd; simpa using this
    have H0 : Hid (WhAt l ps G vis us0 (((w.alloc (.cells #[.slice none 0 0] 50)).alloc (.cells #[.slice none 0 0] 50)).heap.size) (.slice Aq us0.length cq) w (.int .i64 0) w1) := by
      have hr := RoundW.start l ps w
      have hnp : ∀ b, w.heap.size ≤ b → b ∉ ps := fun b hb hm => by have := HPS.out b hm; omega
      exact Lib.hid ⟨0, _, [], [], G1, Nat.zero_le _, rfl, ⟨⟨by simp, .inl ⟨rfl, rfl⟩⟩, by simp [S.SepL], by simp [Value.ownBlock], by simp, hr.blk.saves ht1.sav (hnp _ (by omega)), hr.res.saves ht1.sav (hnp _ (Nat.le_refl _)), hr.sav.trans ht1.sav⟩, ha1, hg1, hp1⟩
    have HN := Lib.hid hn1
    have HQ := Lib.hid hqd
    have HQL := Lib.hid hql
    clear ha1 hg1 ht1 hn1 hp1 hqd hql
    go_wp2_with fail
    go_loopw [9] (fun i wr => WhAt l ps G vis us0 (((w.alloc (.cells #[.slice none 0 0] 50)).alloc (.cells #[.slice none 0 0] 50)).heap.size) (.slice Aq us0.length cq) w i wr) (fun i _ => l.length - (intOf i).toNat)
    case atStart => exact H0.out
    case round =>
      clear H0
      obtain ⟨k, cv, us, fp, G', hk, rfl, hr, ha, hg, hpq⟩ := hrel
      have hsz := hr.sav.size
      have hsz1 := hr.blk.lt
      by_cases hlt : k < l.length
      · have hxk : l[k]? = some l[k] := List.getElem?_eq_getElem hlt
        have hcl := S.count_lt hxk
        obtain ⟨q, hq⟩ : ∃ q, qs[k]? = some q := ⟨qs[k]'(by have := HQL.out; have := HN.out.1; omega), List.getElem?_eq_getElem _⟩
        obtain ⟨pq, hu, hpx⟩ := HN.out.2 k q hq
        obtain ⟨ad, rfl, hB, hbl, hcell⟩ := hpq.cell hu
        have hvq : v q = (l[k]).emb := by
          have h1 : (qs.map v)[k]? = some (v q) := by rw [List.getElem?_map, hq]; rfl
          rw [HQ.out, List.getElem?_map, hxk] at h1
          simpa using h1.symm
        have hcc := hr.blk.cell 0
        have hih := HIH.out l[k] ps G' vis v q pq wr.drew (by have := HK.out; omega) ha.good (HV.out.alike ha) (by have := ha.len; have := HLN.out; omega) hg.drew hpx hvq
        have HC := Lib.hid hih
        have HX := Lib.hid hxk
        have HR := Lib.hid hr
        have HA := Lib.hid ha
        have HPQ := Lib.hid hpq
        have HG := Lib.hid hg
        have hk0 : (0 : Int) ≤ (k : Int) := by omega
        have hkl : (k : Int) < (us0.length : Int) := by have := HQL.out; omega
        generalize l[k] = y at *
        simp at hcc
        clear hih hxk hcl hq hu hpx hvq hr ha hpq hg hbl hB
        go_wp2_with fail
        go_region_law
          (first
            | (refine step_append_lies _ (by rfl) _ _ _ (by rfl) (w.heap.size + 2) 50 i0 _ 1 24 Tryz.underlying48 hi0 hz0 hz1 hz2 rfl (by omega) cv k us (by rfl) (by exact (hown1.alloc _))
                ⟨w3.heap.size, 0, none⟩ 1 1 [v1] (by rfl) (by rfl) (by exact World.news_of_block (cs := #[v1]) (t := 50) (fr := (0, 0)) (heap_alloc_new w3 _)) (by exact fun u hu => by rw [List.mem_singleton.1 hu]; exact hone) (by omega) (by simp only [maxLen]; omega) (by omega) (by simp; omega) (w3.heap.size + 1) (by simp) ?_; intro gg cap w4 hown2 hgrow hat hlt2
               have hblk2 : Blk w4 (w.heap.size + 1) 50 #[cv] := (hgrow.block _ (by simp; omega) (fun e => by have := (HR.out.own.lt _ e.symm).1; omega)).trans (hblk1.alloc _)
               have r1 := hblk2.cell 0
               have r3 := hblk2.frozen 0
               simp at r1)
            | (go_simp; go_at_call 120; refine HC.out.mono ?_; rintro e w3 ⟨v1, fp1, G3, rfl, hsep1, hnod1, hrng1, hs1, ha3, hg3⟩
               have hone : v1.oneCell' = true := by obtain ⟨A1, n1, c1, rfl⟩ := hsep1.form; rfl
               have hs1' : Saves (· ∈ ps) wr w3 := ⟨hs1.os, hs1.tape, hs1.output, hs1.size, hs1.block⟩
               have hwz : wr.heap.size ≤ w3.heap.size := hs1'.size
               have hnp : ∀ b, w.heap.size ≤ b → b ∉ ps := fun b hb hm => by have := HPS.out b hm; omega
               have hown1 : w3.ownsRow (w.heap.size + 2) 50 1 cv k us := owns_kept HR.out.own (fun b hb => hs1'.block b (HR.out.own.lt b hb).2 (hnp b (by have := (HR.out.own.lt b hb).1; omega)))
               have hblk1 : Blk w3 (w.heap.size + 1) 50 #[cv] := HR.out.blk.saves hs1' (hnp _ (by omega))
               have q1 := hblk1.cell 0
               have q3 : (w3.alloc (.cells #[v1] 50)).cell? ⟨w.heap.size + 1, 0, none⟩ = some cv := (hblk1.alloc _).cell 0
               simp at q1))
        all_goals
          have hnx := HR.out.next HPS.out HX.out hsep1 hnod1 (fun b hb => hrng1 b hb) hs1' hown2 hgrow hat
          have HF : Hid (WhAt l ps G vis us0 (((w.alloc (.cells #[.slice none 0 0] 50)).alloc (.cells #[.slice none 0 0] 50)).heap.size) (.slice (some ad) us0.length cq) w (.int .i64 ((k + 1 : Nat) : Int)) (w4.setCell ⟨w.heap.size + 1, 0, none⟩ (.slice (some ⟨gg, 0, none⟩) (k + 1) cap))) := by
            have hfar : ∀ b, b < w3.heap.size → cv.ownBlock ≠ some b → b ≠ w.heap.size + 1 → (w4.setCell ⟨w.heap.size + 1, 0, none⟩ (.slice (some ⟨gg, 0, none⟩) (k + 1) cap)).heap[b]? = w3.heap[b]? := by
              intro b hb hc hne
              rw [Below.heap_setCell _ _ _ _ hne, hgrow.block b (by simp; omega) (fun e => hc e.symm), Below.heap_alloc _ _ _ hb]
            refine Lib.hid ⟨k + 1, _, _, _, G3, by omega, rfl, hnx, HA.out.trans ha3, hg3.keep fun b hb => ?_, owns_kept3 HPQ.out fun b hb => ?_⟩
            · have h1 := HPS.out b hb
              exact hfar b (by omega) (fun e => by have := HR.out.own.lt b e; omega) (by omega)
            · have h1 := HPQ.out.lt hb
              simp only [World.size_alloc] at h1
              exact (hfar b (by omega) (own_own_ne HPQ.out HR.out.own (by decide) b hb) (by omega)).trans (hs1'.block b h1.2 (hnp b (by omega)))
          clear hnx hsep1 hnod1 hrng1 hs1 hs1' hown2 hgrow hat hg3 ha3 hown1 hblk1
          go_wp2_with fail
          go_roundw
          case rel => simpa using HF.out
          case measure => simp [intOf]; omega
      · have hkl : k = l.length := by omega
        obtain ⟨A3, n3, c3, rfl⟩ := own_form hr.own
        have hc0 := hr.blk.cell 0
        have hr0 := hr.res.cell 0
        have hrf := hr.res.frozen 0
        have HKL := Lib.hid hkl
        have hge : ¬ (k : Int) < (us0.length : Int) := by have := HQL.out; omega
        have HA := Lib.hid ha
        have HG := Lib.hid hg
        have HP := Lib.hid hpq
        simp at hc0 hr0
        clear hkl ha hg hpq
        go_wp2_with fail
        refine bodyPost_ret (whole_results rfl (hr.res.set_ 0 _)) rfl ?_
        rw [HKL.out] at hr
        obtain ⟨g1, g2, g3, g4⟩ := hr.done (.slice A3 n3 c3)
        exact ⟨_, _, G', rfl, g1, g2, g3, g4, HA.out, HG.out.keep fun b hb => Below.heap_setCell wr ⟨w.heap.size, 0, none⟩ _ b (by have := HPS.out b hb; show b ≠ w.heap.size; omega)⟩
end Go.Proofs.YtkkfdiidneoelaaGreatDoor

namespace Go.Proofs.YtkkfdiidneoelaaGreatDoor
open Go.RowKit

theorem Ps.not_inG {B : Nat} {w : World} {us ps : List Nat} {v : Value} {G : Gr} {vis : Nat → Int} (h : Ps B w us v) (hg : Gs w ps G vis) : ∀ b, v.ownBlock = some b → b ∉ ps := by
  intro b hb hm
  obtain ⟨i, hi, rfl⟩ := List.mem_iff_getElem.1 hm
  have h1 : ps[i]? = some ps[i] := List.getElem?_eq_getElem hi
  obtain ⟨d, hd⟩ := hg.nd h1
  obtain ⟨sm, kd, fr, to_, hk, _⟩ := hg.at_ i _ d h1 hd
  rcases h.2 with ⟨rfl, _⟩ | ⟨g', cap, cur, rfl, _, hh, _⟩
  · cases hb
  · have e : g' = ps[i] := by simpa [Value.ownBlock] using hb
    unfold Blk at hk
    rw [← e, hh] at hk
    injection hk with hk
    injection hk with _ ht
    exact absurd ht (by decide)
set_option maxHeartbeats 400000 in
theorem sizeG1_any (s : S) (p : Nat) (lvl : Nat) (w : World) (B b : Nat) (st : Nat × Nat) (h60 : st.1 ≤ 60) (h2 : Two B b st w) :
    Calls Tryz.prog 156 #[pv p, .int .i64 (lvl : Int), .pointer (some ⟨b + 1, 0, none⟩), .pointer (some ⟨b + 2, 0, none⟩), .pointer (some ⟨b, 0, none⟩)] w fun e w' =>
      e = .returned (.bool (sizeStep st s lvl).1) ∧ Two B b (sizeStep st s lvl).2 w' ∧ Saves (fun k => k = b + 1 ∨ k = b + 2) w w' := by
  obtain ⟨n0, d0⟩ := st
  obtain ⟨hB, hb0, hb1, hb2⟩ := h2
  simp only at h60 hb1 hb2
  have hl0 := hb0.lt
  have hl1 := hb1.lt
  have hl2 := hb2.lt
  have hc0 := hb0.cell 0
  have hc1 := hb1.cell 0
  have hc2 := hb2.cell 0
  have hf1 := hb1.frozen 0
  have hf2 := hb2.frozen 0
  go_enter Tryz.func156, Tryz.ntmps156
  go_wp2_with fail
  all_goals
    go_ret
    refine ⟨ret_bool (decide_eq_decide.2 (by show (n0 : Int) + 1 ≤ 60 ↔ n0 + 1 ≤ 60; omega)), ⟨hB, ?_, ?_, ?_⟩, ((Saves.refl _ _).setCell (.inl (.inl rfl)) _).setCell (.inl (.inr rfl)) _⟩
    · exact (hb0.far (p := ⟨b + 1, 0, none⟩) (by simp) _).far (p := ⟨b + 2, 0, none⟩) (by simp) _
    · exact (hb1.set_ 0 _).far (p := ⟨b + 2, 0, none⟩) (by simp) _
    · refine ((hb2.far (p := ⟨b + 1, 0, none⟩) (by simp) _).set_ 0 _).eq_ (congrArg (fun z : Int => #[Value.int .i64 z]) ?_)
      show _ = ((max d0 lvl : Nat) : Int)
      omega

/-- The state of the visit: a count, and the graph. -/
def VS (B b : Nat) (ps : List Nat) (G : Gr) (vis : Nat → Int) (st : Nat × Nat) (w : World) : Prop := Two B b st w ∧ ∃ G', Alike G G' ∧ Gs w ps G' vis
/-- The blocks that the visit may change. -/
abbrev VM (b : Nat) (ps : List Nat) (k : Nat) : Prop := k = b + 1 ∨ k = b + 2 ∨ k ∈ ps
theorem VS.next {B b : Nat} {ps : List Nat} {G : Gr} {vis : Nat → Int} {st : Nat × Nat} {w w' : World} (h : VS B b ps G vis st w) (hb : Below w.heap.size w w') : VS B b ps G vis st w' := by
  obtain ⟨h1, G', h2, h3⟩ := h
  exact ⟨two_kept h1 hb, G', h2, h3.below hb⟩

/-- The rounds of a visit of some arguments. -/
def VgAt (B b : Nat) (ps : List Nat) (G : Gr) (vis : Nat → Int) (l : List S) (st1 : Nat × Nat) (lvl : Nat) (us0 : List Nat) (Bq : Nat) (qv : Value) (w : World) (i : Value) (wr : World) : Prop :=
  ∃ k : Nat, k ≤ l.length ∧ i = .int .i64 (k : Int) ∧ (visitL sizeStep st1 (lvl + 1) (l.take k)).1 = true ∧ VS B b ps G vis (visitL sizeStep st1 (lvl + 1) (l.take k)).2 wr ∧ Saves (VM b ps) w wr ∧ Ps Bq wr us0 qv

set_option maxRecDepth 100000 in
set_option maxHeartbeats 3200000 in
theorem visitG_any (ps : List Nat) (G : Gr) (vis : Nat → Int) (v : Nat → D) (hv : Can G v) (hlen : G.length ≤ 1000000) (B b : Nat) (hbp : b ∉ ps ∧ b + 1 ∉ ps ∧ b + 2 ∉ ps) (K : Nat) : ∀ (s : S) (x p lvl : Nat) (w : World) (st : Nat × Nat), s.count ≤ K → (lvl ≤ st.1 + 1 ∧ st.1 ≤ 60) → VS B b ps G vis st w → ps[x]? = some p → v x = s.emb →
    Calls Tryz.prog 155 #[pv p, .int .i64 (lvl : Int), .func (.func 114) #[] #[], .func (.func 156) #[] #[.pointer (some ⟨b + 1, 0, none⟩), .pointer (some ⟨b + 2, 0, none⟩), .pointer (some ⟨b, 0, none⟩)]] w fun e w' =>
      e = .returned (.bool (visit sizeStep st lvl s).1) ∧ VS B b ps G vis (visit sizeStep st lvl s).2 w' ∧ Saves (VM b ps) w w' := by
  have hcall1 := Tryz.call114
  have hcall2 := Tryz.call156
  induction K with
  | zero => intro s; have := s.count_pos; omega
  | succ K ih =>
    intro s x p lvl w st hK hst hvs hx hvx
    obtain ⟨l⟩ := s
    obtain ⟨h2, G1, ha1, hg1⟩ := hvs
    have hS := sizeG1_any (.mk l) p lvl w B b st hst.2 h2
    have hbl := h2.2.1.lt
    obtain ⟨hlv, hdown⟩ := sizeOk st l lvl hst
    have hkeep : ∀ (W W' : World) (G' : Gr), Gs W ps G' vis → Saves (fun k => k = b + 1 ∨ k = b + 2) W W' → Gs W' ps G' vis := fun _ _ _ hg hs => hg.saves hs (fun c hc e => by
      rcases e with rfl | rfl
      · exact hbp.2.1 hc
      · exact hbp.2.2 hc)
    have HKP := Lib.hid hkeep
    cases hb : (sizeStep st (.mk l) lvl).1 with
    | false =>
      have hvv : visit sizeStep st lvl (.mk l) = (false, (sizeStep st (.mk l) lvl).2) := by simp [visit, hb]
      rw [hvv]
      rw [hb] at hS
      have HS := Lib.hid hS
      have HA := Lib.hid ha1
      have HG := Lib.hid hg1
      clear hS hkeep ih hdown hb hvv h2 ha1 hg1 hx hvx hv hlen hK
      go_enter Tryz.func155, Tryz.ntmps155
      go_wp2_with fail
      refine HS.out.mono ?_
      rintro e w1 ⟨rfl, hI1, hs1⟩
      have HF : Hid (VS B b ps G vis (sizeStep st (.mk l) lvl).2 w1 ∧ Saves (VM b ps) w w1) := Lib.hid ⟨⟨hI1, G1, HA.out, HKP.out _ _ _ HG.out hs1⟩, hs1.mono fun k _ h => by rcases h with h | h <;> simp [VM, h]⟩
      clear hI1 hs1
      go_wp2_with fail
      go_ret
      exact ⟨rfl, HF.out⟩
    | true =>
      have hvv : visit sizeStep st lvl (.mk l) = visitL sizeStep (sizeStep st (.mk l) lvl).2 (lvl + 1) l := by simp [visit, hb]
      rw [hvv]
      rw [hb] at hS
      replace hdown := hdown hb
      generalize (sizeStep st (.mk l) lvl).2 = st1 at *
      have Hsucc := Lib.hid (visitL_succ sizeStep (lvl + 1) l st1)
      have Hfalse := Lib.hid (visitL_false sizeStep (lvl + 1) l st1)
      have HS := Lib.hid hS
      have HD := Lib.hid hdown
      have HIH := Lib.hid ih
      have HA := Lib.hid ha1
      have HG := Lib.hid hg1
      have HV := Lib.hid hv
      have HK := Lib.hid hK
      have HX : Hid (ps[x]? = some p ∧ v x = chainD (l.map S.emb) D.o) := Lib.hid ⟨hx, by rw [hvx, emb_chain]⟩
      have HLN : Hid (G1.length ≤ 1000000) := Lib.hid (by have := ha1.len; omega)
      have hll : l.length ≤ 1000000 := by
        have hxl : x < G1.length := by have := hg1.len; have := (List.getElem?_eq_some_iff.1 hx).1; omega
        have := chain_le ha1.good (hv.alike ha1) hxl HX.out.2
        simp at this; have := HLN.out; omega
      clear hS hkeep ih hdown hb hvv h2 ha1 hg1 hx hvx hv hlen hK
      go_enter Tryz.func155, Tryz.ntmps155
      go_wp2_with fail
      refine HS.out.mono ?_
      rintro e w1 ⟨rfl, hI1, hs1⟩
      have hg2 := HKP.out _ _ _ HG.out hs1
      have hca := args_any ps G1 vis v (l.map S.emb) x p w1 HA.out.good (HV.out.alike HA.out) HLN.out hg2 HX.out.1 HX.out.2
      have HCA := Lib.hid hca
      have H1 : Hid (Two B b st1 w1 ∧ Saves (VM b ps) w w1) := Lib.hid ⟨hI1, hs1.mono fun k _ h => by rcases h with h | h <;> simp [VM, h]⟩
      clear hI1 hs1 hg2 hca
      go_wp2_with fail
      refine HCA.out.mono ?_
      rintro e w2 ⟨G2, qs, us0, qv, rfl, ha2, hg2, ht2, hn2, hp2, hqd, _⟩
      obtain ⟨Aq, cq, rfl⟩ := hp2.form
      have hql : us0.length = l.length := by rw [hn2.1]; have := congrArg List.length hqd; simpa using this
      have H0 : Hid (VgAt B b ps G vis l st1 lvl us0 w1.heap.size (.slice Aq us0.length cq) w (.int .i64 0) w2) := by
        obtain ⟨g1, g2⟩ := H1.out
        refine Lib.hid ⟨0, Nat.zero_le _, rfl, by simp [visitL], ⟨?_, G2, HA.out.trans ha2, hg2⟩, g2.trans (ht2.sav.mono fun k _ h => .inr (.inr h)), hp2⟩
        simp only [List.take_zero, visitL]
        exact ⟨g1.1, g1.2.1.saves ht2.sav hbp.1, g1.2.2.1.saves ht2.sav hbp.2.1, g1.2.2.2.saves ht2.sav hbp.2.2⟩
      have HN := Lib.hid hn2
      have HQ := Lib.hid hqd
      have HQL := Lib.hid hql
      have hw1b : b + 2 < w1.heap.size := H1.out.1.2.2.2.lt
      clear ha2 hg2 ht2 hn2 hp2 hqd hql
      go_wp2_with fail
      go_loopw [20] (fun i wr => VgAt B b ps G vis l st1 lvl us0 w1.heap.size (.slice Aq us0.length cq) w i wr) (fun i _ => l.length - (intOf i).toNat)
      case atStart => exact H0.out
      case round =>
        clear H0
        obtain ⟨k, hk, rfl, hf, hvs, hsk, hpq⟩ := hrel
        by_cases hlt : k < l.length
        · have hxk : l[k]? = some l[k] := List.getElem?_eq_getElem hlt
          have hcl := S.count_lt hxk
          obtain ⟨q, hq⟩ : ∃ q, qs[k]? = some q := ⟨qs[k]'(by have := HQL.out; have := HN.out.1; omega), List.getElem?_eq_getElem _⟩
          obtain ⟨pq, hu, hpx⟩ := HN.out.2 k q hq
          obtain ⟨ad, rfl, hB, hbl', hcell⟩ := hpq.cell hu
          have hvq : v q = (l[k]).emb := by
            have h1 : (qs.map v)[k]? = some (v q) := by rw [List.getElem?_map, hq]; rfl
            rw [HQ.out, List.getElem?_map, hxk] at h1
            simpa using h1.symm
          have hokx := HD.out k _ hxk hf
          have hs := Hsucc.out k _ hxk hf
          have hct := HIH.out l[k] q pq (lvl + 1) wr _ (by have := HK.out; omega) hokx hvs hpx hvq
          rw [← hs] at hct
          have HVS := Lib.hid hvs
          have HSK := Lib.hid hsk
          have HPQ := Lib.hid hpq
          have hk0 : (0 : Int) ≤ (k : Int) := by omega
          have hkl : (k : Int) < (us0.length : Int) := by have := HQL.out; omega
          generalize l[k] = y at *
          cases hb2 : (visitL sizeStep st1 (lvl + 1) (l.take (k + 1))).1 with
          | true =>
            rw [hb2] at hct
            have HC := Lib.hid hct
            have HB2 := Lib.hid hb2
            clear hxk hcl hq hu hpx hvq hs hokx hct hb2 hf hvs hsk hpq hB hbl'
            go_wp2_with fail
            refine HC.out.mono ?_
            rintro e w3 ⟨rfl, hI3, hs3⟩
            have HF : Hid (VgAt B b ps G vis l st1 lvl us0 w1.heap.size (.slice (some ad) us0.length cq) w (.int .i64 ((k + 1 : Nat) : Int)) w3) := by
              refine Lib.hid ⟨k + 1, by omega, rfl, HB2.out, hI3, HSK.out.trans hs3, owns_kept3 HPQ.out fun c hc => hs3.block c (HPQ.out.lt hc).2 fun hm => ?_⟩
              have h1 := (HPQ.out.lt hc).1
              obtain ⟨_, G', _, hgg⟩ := HVS.out
              rcases hm with rfl | rfl | hm
              · omega
              · omega
              · exact HPQ.out.not_inG hgg c hc hm
            clear hI3 hs3
            go_wp2_with fail
            go_roundw
            case rel => simpa using HF.out
            case measure => simp [intOf]; omega
          | false =>
            have hfin := Hfalse.out (k + 1) hb2
            rw [hb2] at hct
            have HC := Lib.hid hct
            have HF := Lib.hid hfin
            have HB2 := Lib.hid hb2
            clear hxk hcl hq hu hpx hvq hs hokx hct hb2 hf hvs hsk hpq hfin hB hbl'
            go_wp2_with fail
            refine HC.out.mono ?_
            rintro e w3 ⟨rfl, hI3, hs3⟩
            have HFF : Hid (VS B b ps G vis (visitL sizeStep st1 (lvl + 1) (l.take (k + 1))).2 w3 ∧ Saves (VM b ps) w w3) := Lib.hid ⟨hI3, HSK.out.trans hs3⟩
            clear hI3 hs3
            go_wp2_with fail
            go_ret
            rw [HF.out, HB2.out]
            exact ⟨rfl, HFF.out⟩
        · have hll2 : l.take k = l := List.take_of_length_le (by omega)
          rw [hll2] at hvs hf
          have hge : ¬ (k : Int) < (us0.length : Int) := by have := HQL.out; omega
          have HFF : Hid ((visitL sizeStep st1 (lvl + 1) l).1 = true ∧ VS B b ps G vis (visitL sizeStep st1 (lvl + 1) l).2 wr ∧ Saves (VM b ps) w wr) := Lib.hid ⟨hf, hvs, hsk⟩
          clear hll2 hvs hf hsk hpq
          go_wp2_with fail
          go_ret
          rw [HFF.out.1]
          exact ⟨rfl, HFF.out.2⟩
theorem sizeG_results {tmps : Array Value} {w : World} {a b : Nat} {x y : Int} (h2 : tmps.getD 6 undef = .pointer (some ⟨a, 0, none⟩)) (h3 : tmps.getD 7 undef = .pointer (some ⟨b, 0, none⟩))
    (ha : Blk w a 3 #[.int .i64 x]) (hb : Blk w b 3 #[.int .i64 y]) : (results Tryz.f119 tmps).run Tryz.prog w = .ok (.tuple #[.int .i64 x, .int .i64 y]) w := by
  have h4 := ha.cell 0
  have h5 := hb.cell 0
  simp at h4 h5
  have h2' : tmps[6]?.getD undef = .pointer (some ⟨a, 0, none⟩) := by simpa using h2
  have h3' : tmps[7]?.getD undef = .pointer (some ⟨b, 0, none⟩) := by simpa using h3
  simp [results, Tryz.results119, go_sem, h2', h3', h4, h5]

/-- What Size answers of a guess. -/
def SzPost (ps : List Nat) (G : Gr) (vis : Nat → Int) (s : S) (w : World) (e : Ending) (w' : World) : Prop :=
  ∃ z : Int, e = .returned (.tuple #[.int .i64 (s.sizes.1 : Int), .int .i64 z]) ∧ (∃ G', Alike G G' ∧ Gs w' ps G' vis) ∧ Saves (· ∈ ps) w w'
set_option maxRecDepth 100000 in
set_option maxHeartbeats 800000 in
theorem nestSizeG_any (ps : List Nat) (G : Gr) (vis : Nat → Int) (v : Nat → D) (hG : Good G) (hv : Can G v) (hlen : G.length ≤ 1000000) (s : S) (x p : Nat) (w : World) (hgs : Gs w ps G vis) (hx : ps[x]? = some p) (hvx : v x = s.emb) :
    Calls Tryz.prog 119 #[pv p, .func (.func 114) #[] #[], .int .i64 60] w (SzPost ps G vis s w) := by
  have hvz := visit_size s (0, 0) 1
  have hw3 : Below w.heap.size w (((w.alloc (.cells #[.int .i64 60] 3)).alloc (.cells #[.int .i64 0] 3)).alloc (.cells #[.int .i64 0] 3)) :=
    (((Below.refl _ _).alloc (Nat.le_refl _) _).alloc (by simp) _).alloc (by simp; omega) _
  have h2 : Two w.heap.size w.heap.size (0, 0) (((w.alloc (.cells #[.int .i64 60] 3)).alloc (.cells #[.int .i64 0] 3)).alloc (.cells #[.int .i64 0] 3)) :=
    ⟨Nat.le_refl _, ((Blk.new w 3 #[.int .i64 60]).alloc _).alloc _,
      (by simpa using (Blk.new (w.alloc (.cells #[.int .i64 60] 3)) 3 #[.int .i64 0]).alloc _),
      (by simpa using Blk.new ((w.alloc (.cells #[.int .i64 60] 3)).alloc (.cells #[.int .i64 0] 3)) 3 #[.int .i64 0])⟩
  have hbp : w.heap.size ∉ ps ∧ w.heap.size + 1 ∉ ps ∧ w.heap.size + 2 ∉ ps := ⟨fun h => by have := hgs.lt h; omega, fun h => by have := hgs.lt h; omega, fun h => by have := hgs.lt h; omega⟩
  have hct := visitG_any ps G vis v hv hlen w.heap.size w.heap.size hbp s.count s x p 1 _ (0, 0) (Nat.le_refl _) (by simp) ⟨h2, G, .refl hG, hgs.below hw3⟩ hx hvx
  have hsv : ∀ w', Saves (VM w.heap.size ps) (((w.alloc (.cells #[.int .i64 60] 3)).alloc (.cells #[.int .i64 0] 3)).alloc (.cells #[.int .i64 0] 3)) w' → Saves (· ∈ ps) w w' := fun w' h =>
    ⟨h.os, h.tape, h.output, by have := h.size; simp at this; omega, fun k hk hn => (h.block k (by simp; omega) (fun e => by rcases e with rfl | rfl | e; (· omega); (· omega); exact hn e)).trans (hw3.block k hk)⟩
  have HSV := Lib.hid hsv
  have HNP := Lib.hid hbp
  by_cases h60 : s.count ≤ 60
  · have hv1 : (visit sizeStep (0, 0) 1 s).1 = true := by rw [hvz.1]; simpa using h60
    have hv2 := hvz.2 hv1
    rw [hv1, hv2] at hct
    have HS : Hid (s.sizes = (s.count, s.deep)) := Lib.hid (by simp [S.sizes, h60])
    have HC := Lib.hid hct
    clear hct hv2 hv1 hvz h2 hgs hx hvx hsv hbp
    go_enter Tryz.func119, Tryz.ntmps119
    go_wp2_with fail
    refine HC.out.mono ?_
    rintro e w1 ⟨rfl, ⟨⟨_, _, hk1, hk2⟩, G', ha, hg⟩, hs1⟩
    have hc1 := hk1.cell 0
    have hc2 := hk2.cell 0
    have hf1 := hk1.frozen 0
    have hf2 := hk2.frozen 0
    have HG := Lib.hid hg
    have HA := Lib.hid ha
    have HS1 := Lib.hid (HSV.out w1 hs1)
    clear hg ha hs1
    go_wp2_with fail
    go_region
    go_wp2
    refine bodyPost_ret (sizeG_results rfl rfl (((hk1.set_ 0 _).far (p := ⟨w.heap.size + 2, 0, none⟩) (by simp) _).drew) (((hk2.far (p := ⟨w.heap.size + 1, 0, none⟩) (by simp) _).set_ 0 _).drew)) rfl ⟨_, by rw [HS.out], ⟨G', HA.out, ?_⟩, ?_⟩
    · exact HG.out.keep fun c hc => (Below.heap_setCell _ ⟨w.heap.size + 2, 0, none⟩ _ c (by rintro rfl; exact HNP.out.2.2 hc)).trans (Below.heap_setCell _ ⟨w.heap.size + 1, 0, none⟩ _ c (by rintro rfl; exact HNP.out.2.1 hc))
    · exact ((HS1.out.setCell (.inr (by simp)) _).setCell (.inr (by simp; omega)) _).drew
  · have hv1 : (visit sizeStep (0, 0) 1 s).1 = false := by rw [hvz.1]; simpa using h60
    rw [hv1] at hct
    have HS : Hid (s.sizes = (61, 0)) := Lib.hid (by simp [S.sizes, h60])
    have HC := Lib.hid hct
    clear hct hv1 hvz h2 hgs hx hvx hsv hbp
    go_enter Tryz.func119, Tryz.ntmps119
    go_wp2_with fail
    refine HC.out.mono ?_
    rintro e w1 ⟨rfl, ⟨⟨_, hk0, hk1, hk2⟩, G', ha, hg⟩, hs1⟩
    have hc0 := hk0.cell 0
    have hc1 := hk1.cell 0
    have hc2 := hk2.cell 0
    have hf1 := hk1.frozen 0
    have hf2 := hk2.frozen 0
    have HG := Lib.hid hg
    have HA := Lib.hid ha
    have HS1 := Lib.hid (HSV.out w1 hs1)
    clear hg ha hs1
    go_wp2_with fail
    refine bodyPost_ret (sizeG_results (x := 61) (y := 0) rfl rfl ((hk1.set_ 0 _).far (p := ⟨w.heap.size + 2, 0, none⟩) (by simp) _) ((hk2.far (p := ⟨w.heap.size + 1, 0, none⟩) (by simp) _).set_ 0 _)) rfl ⟨0, by rw [HS.out]; rfl, ⟨G', HA.out, ?_⟩, ?_⟩
    · exact HG.out.keep fun c hc => (Below.heap_setCell _ ⟨w.heap.size + 2, 0, none⟩ _ c (by rintro rfl; exact HNP.out.2.2 hc)).trans (Below.heap_setCell _ ⟨w.heap.size + 1, 0, none⟩ _ c (by rintro rfl; exact HNP.out.2.1 hc))
    · exact (HS1.out.setCell (.inr (by simp)) _).setCell (.inr (by simp; omega)) _
end Go.Proofs.YtkkfdiidneoelaaGreatDoor

namespace Go.Proofs.YtkkfdiidneoelaaGreatDoor
open Go.RowKit

/-- What settle answers: the sort, in blocks of its own, if it is valid. -/
def SetPost (ps : List Nat) (G : Gr) (vis : Nat → Int) (s : S) (w : World) (e : Ending) (w' : World) : Prop :=
  ∃ v, e = .returned (.tuple #[.agg #[v], .bool s.ok]) ∧ (s.ok = true → ∃ fp, s.Sep w' v fp ∧ fp.Nodup ∧ ∀ b ∈ fp, w.heap.size ≤ b ∧ b < w'.heap.size) ∧ (∃ A n c, v = .slice A n c) ∧ Saves (· ∈ ps) w w' ∧ ∃ G', Alike G G' ∧ Gs w' ps G' vis
theorem settle_results {tmps : Array Value} {w : World} {a : Nat} {x u : Value} (h2 : tmps.getD 2 undef = .pointer (some ⟨a, 0, none⟩)) (h3 : tmps.getD 3 undef = u)
    (ha : Blk w a 50 #[x]) : (results Tryz.f66 tmps).run Tryz.prog w = .ok (.tuple #[.agg #[x], u]) w := by
  have h4 := ha.cell 0
  simp at h4
  have h2' : tmps[2]?.getD undef = .pointer (some ⟨a, 0, none⟩) := by simpa using h2
  have h3' : tmps[3]?.getD undef = u := by simpa using h3
  simp [results, Tryz.results66, go_sem, h2', h3', h4]

set_option maxRecDepth 100000 in
set_option maxHeartbeats 1600000 in
theorem settle_any (ps : List Nat) (G : Gr) (vis : Nat → Int) (v : Nat → D) (hG : Good G) (hv : Can G v) (hlen : G.length ≤ 1000000) (s : S) (x p : Nat) (w : World) (hgs : Gs w ps G vis) (hx : ps[x]? = some p) (hvx : v x = s.emb) :
    Calls Tryz.prog 66 #[pv p] w (SetPost ps G vis s w) := by
  have hw1 : Below w.heap.size w (w.alloc (.cells #[.slice none 0 0] 50)) := (Below.refl _ _).alloc (Nat.le_refl _) _
  have hres := Blk.new w 50 #[.slice none 0 0]
  have hct := nestSizeG_any ps G vis v hG hv hlen s x p _ (hgs.below hw1) hx hvx
  have HNP : Hid (∀ b, w.heap.size ≤ b → b ∉ ps) := Lib.hid fun b hb hm => by have := hgs.lt hm; omega
  have HC := Lib.hid hct
  have HV := Lib.hid hv
  have HX : Hid (ps[x]? = some p ∧ v x = s.emb ∧ G.length ≤ 1000000) := Lib.hid ⟨hx, hvx, hlen⟩
  have HSV : Hid (∀ w', Saves (· ∈ ps) (w.alloc (.cells #[.slice none 0 0] 50)) w' → Saves (· ∈ ps) w w') := Lib.hid fun w' h => (Saves.of_below hw1).trans h
  have hcnt : ∃ m : Nat, s.sizes.1 = m ∧ (m ≤ 60 ↔ s.count ≤ 60) := by
    refine ⟨_, rfl, ?_⟩
    by_cases h1 : s.count ≤ 60
    · simp [S.sizes, h1]
    · simp [S.sizes, h1]
  obtain ⟨m, hm, hmm⟩ := hcnt
  unfold SzPost at HC
  rw [hm] at HC
  clear hct hG hv hlen hgs hx hvx hm
  by_cases h60 : s.count ≤ 60
  · have g1 : decide (60 < (m : Int)) = false := decide_eq_false (by omega)
    have H60 := Lib.hid h60
    clear hmm h60
    go_enter Tryz.func66, Tryz.ntmps66
    go_wp2_with fail
    refine HC.out.mono ?_
    rintro e w1 ⟨z, rfl, ⟨G1, ha1, hg1⟩, hs1⟩
    have hwh := whole_any s.count s ps G1 vis v x p w1 (Nat.le_refl _) ha1.good (HV.out.alike ha1) (by have := ha1.len; have := HX.out.2.2; omega) hg1 HX.out.1 HX.out.2.1
    have HWH := Lib.hid hwh
    have hres1 := hres.saves hs1 (HNP.out _ (Nat.le_refl _))
    have HA1 := Lib.hid ha1
    have HS1 := Lib.hid (HSV.out w1 hs1)
    have hz1 := hs1.size
    simp only [World.size_alloc] at hz1
    clear hwh hs1 hg1 ha1
    go_wp2_with fail
    refine HWH.out.mono ?_
    rintro e w2 ⟨v2, fp, G2, rfl, hsep, hnod, hrng, hs2, ha2, hg2⟩
    obtain ⟨A2, n2, c2, rfl⟩ := hsep.form
    have hres2 := hres1.saves hs2 (HNP.out _ (Nat.le_refl _))
    have hz2 := hs2.size
    have HF : Hid (∀ (W : World), Below w2.heap.size w2 W → ∀ u : Value, s.In W w.heap.size w2.heap.size (.slice A2 n2 c2) ∧ (∃ fp, s.Sep (W.setCell ⟨w.heap.size, 0, none⟩ u) (.slice A2 n2 c2) fp ∧ fp.Nodup ∧ ∀ b ∈ fp, w.heap.size ≤ b ∧ b < (W.setCell ⟨w.heap.size, 0, none⟩ u).heap.size) ∧ Saves (· ∈ ps) w (W.setCell ⟨w.heap.size, 0, none⟩ u) ∧
        (∃ G', Alike G G' ∧ Gs (W.setCell ⟨w.heap.size, 0, none⟩ u) ps G' vis)) := by
      refine Lib.hid fun W hW u => ?_
      have hsz := hW.size
      have hsepW : s.Sep W (.slice A2 n2 c2) fp := hsep.keep _ fun b hb => hW.block b (hrng b hb).2
      refine ⟨S.Sep.in_ s hsepW fun b hb => by have := hrng b hb; omega, ⟨fp, hsepW.keep _ fun b hb => Below.heap_setCell _ _ _ _ (by have := hrng b hb; show b ≠ w.heap.size; omega), hnod, fun b hb => by have := hrng b hb; simp only [World.setCell, Array.size_modify]; omega⟩, ?_, G2, HA1.out.trans ha2, ?_⟩
      · exact ((HS1.out.trans hs2).trans (Saves.of_below hW)).setCell (.inr (Nat.le_refl _)) u
      · exact (hg2.below hW).keep fun b hb => Below.heap_setCell W ⟨w.heap.size, 0, none⟩ u b (by rintro rfl; exact HNP.out _ (Nat.le_refl _) hb)
    clear hsep hnod hrng hs2 ha2 hg2
    generalize hK : (fun W => Below w2.heap.size w2 W ∧ Blk W w2.heap.size 50 #[.slice A2 n2 c2] ∧ Blk W w.heap.size 50 #[.slice none 0 0]) = K
    have of_ : ∀ W, K W → Below w2.heap.size w2 W ∧ Blk W w2.heap.size 50 #[.slice A2 n2 c2] ∧ Blk W w.heap.size 50 #[.slice none 0 0] := fun W h => by rw [← hK] at h; exact h
    have hKn : ∀ W W', K W → Below W.heap.size W W' → K W' := fun W W' h hb => by
      rw [← hK] at h ⊢
      exact ⟨h.1.trans (hb.mono h.1.size), h.2.1.below hb h.2.1.lt, h.2.2.below hb h.2.2.lt⟩
    have HCK := Lib.hid (fun W (h : K W) => (check_any s (.slice A2 n2 c2) W w.heap.size w2.heap.size (HF.out W (of_ W h).1 (.int .i64 0)).1 (of_ W h).1.size).mono fun e w' ⟨he, hb⟩ => (⟨he, hKn _ _ h hb⟩ : e = _ ∧ K w'))
    have k0 : K ((w2.alloc (.cells #[.slice A2 n2 c2] 50)).drew) := by
      rw [← hK]
      exact ⟨((Below.refl _ _).alloc (Nat.le_refl _) _).drew, (Blk.new w2 _ _).drew, (hres2.alloc _).drew⟩
    have HKK : Hid (∀ W, K W → Below w2.heap.size w2 W ∧ Blk W w2.heap.size 50 #[.slice A2 n2 c2] ∧ Blk W w.heap.size 50 #[.slice none 0 0]) := Lib.hid of_
    have HCell : Hid (∀ W, K W → W.cell? ⟨w2.heap.size, 0, none⟩ = some (.slice A2 n2 c2) ∧ W.cell? ⟨w.heap.size, 0, none⟩ = some (.slice none 0 0) ∧ W.frozen? ⟨w.heap.size, 0, none⟩ = false) := Lib.hid fun W h => by
      obtain ⟨_, h1, h2⟩ := of_ W h
      have e1 := h1.cell 0
      have e2 := h2.cell 0
      simp at e1 e2
      exact ⟨e1, e2, h2.frozen 0⟩
    have HSC : Hid (∀ W, K W → (W.setCell ⟨w.heap.size, 0, none⟩ (.slice A2 n2 c2)).cell? ⟨w2.heap.size, 0, none⟩ = some (.slice A2 n2 c2)) := Lib.hid fun W h => by
      rw [World.cell?_setCell_other W ⟨w.heap.size, 0, none⟩ ⟨w2.heap.size, 0, none⟩ _ (fun e => by injection e with e; omega)]
      exact (HCell.out W h).1
    clear hK hKn of_ hres hres1 hres2 hw1
    have HOK : Hid ((s.ok = true → errOf s.ok = 0) ∧ (s.ok = false → errOf s.ok = 6)) := Lib.hid ⟨fun h => by rw [h]; rfl, fun h => by rw [h]; rfl⟩
    go_wp2_with fail
    cases hok : s.ok with
    | true =>
      rw [HOK.out.1 hok] at HCK
      have HO := Lib.hid hok
      clear hok
      go_region_held3 (fun w' => w'.cell? ⟨w2.heap.size, 0, none⟩ = some (.slice A2 n2 c2))
        (first
          | exact (HCell.out _ (by assumption)).1
          | exact HSC.out _ (by assumption)
          | go_keep)
        (first
          | (go_at_call 101; ((with_reducible refine (HCK.out _ (by assumption)).mono ?_); rintro e W1 ⟨rfl, K1⟩; have C1 := (HCell.out _ K1).1; have C2 := (HCell.out _ K1).2.1; have C3 := (HCell.out _ K1).2.2)))
      all_goals
        go_wp2_with fail
        obtain ⟨hb, hk1, hk2⟩ := HKK.out _ K1
        obtain ⟨_, g2, g3, g4⟩ := HF.out W1 hb (.slice A2 n2 c2)
        exact bodyPost_ret (settle_results rfl rfl (hk2.set_ 0 _)) rfl ⟨.slice A2 n2 c2, by rw [HO.out]; rfl, fun _ => g2, ⟨_, _, _, rfl⟩, g3, g4⟩
    | false =>
      rw [HOK.out.2 hok] at HCK
      have HO := Lib.hid hok
      clear hok
      go_region_held3 (fun w' => w'.cell? ⟨w2.heap.size, 0, none⟩ = some (.slice A2 n2 c2))
        (first
          | exact (HCell.out _ (by assumption)).1
          | exact HSC.out _ (by assumption)
          | go_keep)
        (first
          | (go_at_call 101; ((with_reducible refine (HCK.out _ (by assumption)).mono ?_); rintro e W1 ⟨rfl, K1⟩; have C1 := (HCell.out _ K1).1; have C2 := (HCell.out _ K1).2.1; have C3 := (HCell.out _ K1).2.2)))
      all_goals
        go_wp2_with fail
        obtain ⟨hb, hk1, hk2⟩ := HKK.out _ K1
        obtain ⟨_, g2, g3, g4⟩ := HF.out W1 hb (.slice A2 n2 c2)
        exact bodyPost_ret (settle_results rfl rfl (hk2.set_ 0 _)) rfl ⟨.slice A2 n2 c2, by rw [HO.out]; rfl, fun h => by rw [HO.out] at h; (cases h), ⟨_, _, _, rfl⟩, g3, g4⟩
  · have g1 : decide (60 < (m : Int)) = true := decide_eq_true (by omega)
    have HO : Hid (s.ok = false) := Lib.hid (by simp [S.ok, h60])
    clear hmm h60
    go_enter Tryz.func66, Tryz.ntmps66
    go_wp2_with fail
    refine HC.out.mono ?_
    rintro e w1 ⟨z, rfl, ⟨G1, ha1, hg1⟩, hs1⟩
    have hres1 := hres.saves hs1 (HNP.out _ (Nat.le_refl _))
    have c0 := hres1.cell 0
    have f0 := hres1.frozen 0
    have HF : Hid (∀ u, Saves (· ∈ ps) w (w1.setCell ⟨w.heap.size, 0, none⟩ u) ∧ ∃ G', Alike G G' ∧ Gs (w1.setCell ⟨w.heap.size, 0, none⟩ u) ps G' vis) :=
      Lib.hid fun u => ⟨(HSV.out w1 hs1).setCell (.inr (Nat.le_refl _)) u, G1, ha1, hg1.keep fun b hb => Below.heap_setCell w1 ⟨w.heap.size, 0, none⟩ u b (by rintro rfl; exact HNP.out _ (Nat.le_refl _) hb)⟩
    simp at c0
    clear hg1 ha1 hs1
    go_wp2_with fail
    refine bodyPost_ret (settle_results rfl rfl (hres1.set_ 0 _)) rfl ⟨.slice none 0 0, by rw [HO.out]; rfl, fun h => by rw [HO.out] at h; (cases h), ⟨_, _, _, rfl⟩, HF.out _⟩
end Go.Proofs.YtkkfdiidneoelaaGreatDoor

namespace Go.Proofs.YtkkfdiidneoelaaGreatDoor
open Go.RowKit

/-- What is answered of the smallest assignment, or where there is none. -/
def ansE : Option (List S) → Int
  | none => 6
  | some a => if a.all S.ok = true then 0 else 3
/-- The error and the sorts that are asked for. -/
def Ans (syms : List Sy) (l : List Lz) (E : Int) (lst : List S) : Prop :=
  (checkI syms l ≠ 0 ∧ E = checkI syms l ∧ lst = []) ∨
    (checkI syms l = 0 ∧ ∃ o, Solves (l.map Lz.lo) (ranksOf syms) o ∧ E = ansE o ∧ lst = if ansE o = 0 then o.getD [] else [])
theorem Ans.one {syms : List Sy} {l : List Lz} {E E' : Int} {a b : List S} (h : Ans syms l E a) (k : Ans syms l E' b) : E = E' ∧ a = b := by
  rcases h with ⟨h0, h1, h2⟩ | ⟨h0, o, h1, h2, h3⟩ <;> rcases k with ⟨k0, k1, k2⟩ | ⟨k0, p, k1, k2, k3⟩
  · exact ⟨h1.trans k1.symm, h2.trans k2.symm⟩
  · exact (h0 k0).elim
  · exact (k0 h0).elim
  · obtain rfl := h1.one k1
    exact ⟨h2.trans k2.symm, h3.trans k3.symm⟩
/-- What Sorts answers: sorts in blocks of their own. -/
def SortsPost (syms : List Sy) (l : List Lz) (w : World) (e : Ending) (w' : World) : Prop :=
  ∃ (E : Int) (lst : List S) (v : Value) (fp : List Nat), e = .returned (.tuple #[v, .int .i64 E]) ∧ Ans syms l E lst ∧ (S.mk lst).Sep w' v fp ∧ fp.Nodup ∧ (∀ b ∈ fp, w.heap.size ≤ b ∧ b < w'.heap.size) ∧ Below w.heap.size w w'

/-- What the loop of Sorts holds behind k rounds. -/
structure RoundS (l : List S) (ps : List Nat) (w0 : World) (k : Nat) (cv : Value) (us : List Value) (fp : List Nat) (w : World) : Prop where
  own : w.ownsRow w0.heap.size 50 1 cv k us
  sep : S.SepL w (l.take k) us fp
  nod : (cv.ownBlock.toList ++ fp).Nodup
  rng : ∀ b ∈ fp, w0.heap.size ≤ b ∧ b < w.heap.size
  sav : Saves (· ∈ ps) w0 w
theorem RoundS.next {l : List S} {ps : List Nat} {w0 wr w1 w2 : World} {k : Nat} {cv : Value} {us : List Value} {fp fp1 : List Nat} {x : S} {v1 : Value} {gg cap : Nat} {o o1 : Obj}
    (hr : RoundS l ps w0 k cv us fp wr) (hps : ∀ b ∈ ps, b < w0.heap.size) (hx : l[k]? = some x) (hsep1 : x.Sep w1 v1 fp1) (hnod1 : fp1.Nodup) (hrng1 : ∀ b ∈ fp1, wr.heap.size ≤ b ∧ b < w1.heap.size)
    (hbb1 : Saves (· ∈ ps) wr w1)
    (hown2 : w2.ownsRow w0.heap.size 50 1 (.slice (some ⟨gg, 0, none⟩) (k + 1) cap) (k + 1) (us ++ [v1])) (hgrow : ((w1.alloc o).alloc o1).grownBy w2 cv.ownBlock)
    (hat : cv.ownBlock = some gg ∨ gg = w1.heap.size + 1 + 1) :
    RoundS l ps w0 (k + 1) (.slice (some ⟨gg, 0, none⟩) (k + 1) cap) (us ++ [v1]) (fp ++ fp1) w2 := by
  have hwz := hbb1.size
  have hw0 := hr.sav.size
  have hsz2 : w1.heap.size + 2 ≤ w2.heap.size := by have := hgrow.size; simp at this; omega
  have hcvlt : ∀ b, cv.ownBlock = some b → w0.heap.size ≤ b ∧ b < wr.heap.size := fun b hb => hr.own.lt b hb
  have hnp : ∀ b, w0.heap.size ≤ b → b ∉ ps := fun b hb hm => by have := hps b hm; omega
  have hal : ∀ b, b < w1.heap.size → ((w1.alloc o).alloc o1).heap[b]? = w1.heap[b]? := fun b hb => (Below.heap_alloc _ _ _ (by simp; omega)).trans (Below.heap_alloc _ _ _ hb)
  have hfar : ∀ b, b < w1.heap.size → cv.ownBlock ≠ some b → w2.heap[b]? = w1.heap[b]? := by
    intro b hb hc
    rw [hgrow.block b (by simp; omega) (fun e => hc e.symm), hal b hb]
  have hfar0 : ∀ b, w0.heap.size ≤ b → b < wr.heap.size → cv.ownBlock ≠ some b → w2.heap[b]? = wr.heap[b]? := by
    intro b h0 hb hc
    rw [hfar b (by omega) hc, hbb1.block b hb (hnp b h0)]
  have hnod := List.nodup_append.1 hr.nod
  have hnf : ∀ b ∈ fp, cv.ownBlock ≠ some b := fun b hb he => hnod.2.2 b (by simp [he]) b hb rfl
  refine ⟨hown2, ?_, ?_, ?_, ?_⟩
  · rw [List.take_add_one, hx]
    refine S.SepL.snoc (hsep1.keep _ (fun b hb => hfar b (hrng1 b hb).2 (fun he => by have := hcvlt b he; have := hrng1 b hb; omega))) _ (hr.sep.keep _ (fun b hb => hfar0 b (by have := hr.rng b hb; omega) (hr.rng b hb).2 (hnf b hb)))
  · have hdis : ∀ a ∈ fp, ∀ b ∈ fp1, a ≠ b := fun a ha b hb => by have := hr.rng a ha; have := hrng1 b hb; omega
    have h2 : (fp ++ fp1).Nodup := List.nodup_append.2 ⟨hnod.2.1, hnod1, hdis⟩
    simp only [Value.ownBlock, Option.toList, List.cons_append, List.nil_append]
    refine List.nodup_cons.2 ⟨fun hm => ?_, h2⟩
    rcases List.mem_append.1 hm with hm | hm
    · rcases hat with he | he
      · exact hnf gg hm he
      · have := hr.rng gg hm; omega
    · rcases hat with he | he
      · have := hcvlt gg he; have := hrng1 gg hm; omega
      · have := hrng1 gg hm; omega
  · intro b hb
    rcases List.mem_append.1 hb with hb | hb
    · have := hr.rng b hb; omega
    · have := hrng1 b hb; omega
  · have h1 := ((hr.sav.trans hbb1).alloc o).alloc o1
    refine ⟨hgrow.os.trans h1.os, hgrow.tape.trans h1.tape, hgrow.output.trans h1.output, Nat.le_trans h1.size hgrow.size, fun b hb hn => ?_⟩
    exact (hgrow.block b (by simp; omega) (fun e => by have := hcvlt b e.symm; omega)).trans (h1.block b hb hn)
theorem RoundS.done {l : List S} {ps : List Nat} {w0 wr : World} {cv : Value} {us : List Value} {fp : List Nat} (hr : RoundS l ps w0 l.length cv us fp wr) :
    (S.mk l).Sep wr cv (cv.ownBlock.toList ++ fp) ∧ (cv.ownBlock.toList ++ fp).Nodup ∧ (∀ b ∈ cv.ownBlock.toList ++ fp, w0.heap.size ≤ b ∧ b < wr.heap.size) := by
  have hcvlt : ∀ b, cv.ownBlock = some b → w0.heap.size ≤ b ∧ b < wr.heap.size := fun b hb => hr.own.lt b hb
  refine ⟨?_, hr.nod, fun b hb => ?_⟩
  · simp only [S.Sep]
    refine ⟨us, fp, ⟨hr.own.1, ?_⟩, by have := hr.sep; rwa [List.take_length] at this, rfl⟩
    rcases hr.own.2 with h | ⟨g, cap, cur, h1, h2, h3⟩
    · exact .inl h
    · exact .inr ⟨g, cap, cur, h1, Nat.zero_le _, h3⟩
  · rcases List.mem_append.1 hb with hb | hb
    · exact hcvlt b (by simpa using hb)
    · exact hr.rng b hb
theorem sepI_nil {w : World} : (S.mk []).Sep w (.slice none 0 0) [] := by
  simp only [S.Sep]
  exact ⟨[], [], ⟨by simp, .inl ⟨rfl, rfl⟩⟩, by simp [S.SepL], by simp [Value.ownBlock]⟩

/-- So many functions' sorts are made. -/
def StAt (a : List S) (ps : List Nat) (G : Gr) (us0 : List Nat) (B : Nat) (qv : Value) (w0 : World) (lv i : Value) (wr : World) : Prop :=
  ∃ (k : Nat) (us : List Value) (fp : List Nat) (G' : Gr) (vis : Nat → Int), k ≤ a.length ∧ i = .int .i64 (k : Int) ∧ RoundS a ps w0 k lv us fp wr ∧ (a.take k).all S.ok = true ∧ Alike G G' ∧ Gs wr ps G' vis ∧ Ps B wr us0 qv

set_option maxRecDepth 100000 in
set_option maxHeartbeats 3200000 in
theorem sortsI_any (syms : List Sy) (l : List Lz) (v0 v1 : Value) (w : World) (hi : Nat) (hsy : SyIn w (fun b => b < hi) syms v0) (hl : LzIn w hi l v1) (hhi : hi ≤ w.heap.size) (hfit : ∀ f ∈ l, f.body.fit ∧ fit64 f.params) :
    Calls Tryz.prog 25 #[v0, v1] w (SortsPost syms l w) := by
  obtain ⟨i0, hi0, hz0, hz1, hz2⟩ := info_parts sort_info
  have HC := Lib.hid (checkI_any syms l v0 v1 w hi hsy hl hhi hfit)
  have HS := Lib.hid hsy
  have HL := Lib.hid hl
  obtain ⟨A0, n0, c0, rfl⟩ := hsy.form
  obtain ⟨A1, n1, c1, rfl⟩ := hl.form
  have HCS : Hid (checkI syms l = 0 ∨ checkI syms l = 2 ∨ checkI syms l = 4) := Lib.hid (by unfold checkI; split <;> (try split) <;> simp)
  have HEQ : Hid (∃ z, checkI syms l = z) := Lib.hid ⟨_, rfl⟩
  obtain ⟨z, hz⟩ := HEQ.out
  rw [hz] at HC HCS
  have HZ := Lib.hid hz
  clear hsy hl hz hfit
  by_cases h0 : z = 0
  case neg =>
    go_enter Tryz.func25, Tryz.ntmps25
    go_wp2_with fail
    refine HC.out.mono ?_
    rintro e w1 ⟨rfl, hb1⟩
    have HF : Hid (SortsPost syms l w (.returned (.tuple #[.slice none 0 0, .int .i64 z])) w1) := Lib.hid ⟨z, [], _, [], rfl, .inl ⟨by rw [HZ.out]; exact h0, HZ.out.symm, rfl⟩, sepI_nil, .nil, fun b hb => by simp at hb, hb1⟩
    clear hb1
    go_wp2_with fail
    go_ret2
    exact HF.out
  subst h0
  go_enter Tryz.func25, Tryz.ntmps25
  go_wp2_with fail
  refine HC.out.mono ?_
  rintro e w1 ⟨rfl, hb1⟩
  have hsv := solve_any syms l (.slice A0 n0 c0) (.slice A1 n1 c1) w1 hi (HS.out.below hb1 hhi) (LzIn.below HL.out hb1 hhi) (by have := hb1.size; omega) HZ.out
  have HSV := Lib.hid hsv
  have HB1 := Lib.hid hb1
  clear hsv hb1
  go_wp2_with fail
  refine HSV.out.mono ?_
  rintro e w2 ⟨hb2, hres⟩
  rcases hres with ⟨hno, val, rfl⟩ | ⟨G, ps, fs, us0, qv, v, a, vis, rfl, hG, hg, hbase, hn, hp, hv, hlen, hfl, hal, hav, hsol⟩
  · have HF : Hid (SortsPost syms l w (.returned (.tuple #[.slice none 0 0, .int .i64 6])) w2) := Lib.hid ⟨6, [], _, [], rfl, .inr ⟨HZ.out, none, hno, rfl, by simp [ansE]⟩, sepI_nil, .nil, fun b hb => by simp at hb, HB1.out.trans (hb2.mono HB1.out.size)⟩
    clear hb2 hno
    go_wp2_with fail
    go_ret2
    exact HF.out
  · obtain ⟨Aq, cq, rfl⟩ := hp.form
    have HB2 := Lib.hid (HB1.out.trans (hb2.mono HB1.out.size))
    have H0 : Hid (StAt a ps G us0 (w1.heap.size + 1) (.slice Aq us0.length cq) w2 (.slice none 0 0) (.int .i64 0) w2) :=
      Lib.hid ⟨0, [], [], G, vis, Nat.zero_le _, rfl, ⟨⟨by simp, .inl ⟨rfl, rfl⟩⟩, by simp [S.SepL], by simp [Value.ownBlock], by simp, Saves.refl _ _⟩, by simp, .refl hG, hg, hp⟩
    have HPS : Hid (∀ b ∈ ps, b < w2.heap.size) := Lib.hid fun b hb => hg.lt hb
    have HPW : Hid (∀ b ∈ ps, w.heap.size ≤ b) := Lib.hid fun b hb => by have := hbase b hb; have := HB1.out.size; omega
    have HN := Lib.hid hn
    have HV := Lib.hid hv
    have HLN := Lib.hid hlen
    have HAL : Hid (us0.length = a.length ∧ fs.length = a.length) := Lib.hid ⟨by have := hn.1; omega, hal.symm⟩
    have HAV := Lib.hid hav
    have HSO := Lib.hid hsol
    have ha64 : a.length ≤ 1000000 := by
      have : checkI syms l = 0 := HZ.out
      unfold checkI at this
      split at this
      · split at this
        · rename_i h2
          simp only [lzOk, Bool.and_eq_true, decide_eq_true_eq] at h2
          simp at hfl; omega
        · cases this
      · cases this
    clear hb2 hG hg hbase hn hp hv hlen hfl hal hav hsol
    go_wp2_with fail
    go_loopw [9, 30] (fun lv i wr => StAt a ps G us0 (w1.heap.size + 1) (.slice Aq us0.length cq) w2 lv i wr) (fun _ i _ => a.length - (intOf i).toNat)
    case atStart => exact H0.out
    case round =>
      clear H0
      obtain ⟨k, us, fp, G', vis', hk, rfl, hr, hall, ha, hg, hpq⟩ := hrel
      by_cases hlt : k < a.length
      · have hs : a[k]? = some a[k] := List.getElem?_eq_getElem hlt
        obtain ⟨f, hf⟩ : ∃ f, fs[k]? = some f := ⟨fs[k]'(by have := HAL.out.2; omega), List.getElem?_eq_getElem _⟩
        obtain ⟨p, hu, hpx⟩ := HN.out.2 k f hf
        obtain ⟨ad, rfl, hB, hbl, hcell⟩ := hpq.cell hu
        have hvf := HAV.out k f _ hf hs
        have hst := settle_any ps G' vis' v ha.good (HV.out.alike ha) (by have := ha.len; have := HLN.out; omega) a[k] f p wr hg hpx hvf
        have hsucc := @all_succ _ S.ok a k _ hs hall
        have hno := @all_no _ S.ok a k _ hs
        generalize a[k] = s at *
        have HST := Lib.hid hst
        have HR := Lib.hid hr
        have HA := Lib.hid ha
        have HG := Lib.hid hg
        have HPQ := Lib.hid hpq
        have HK : Hid (a[k]? = some s) := Lib.hid hs
        have hk0 : (0 : Int) ≤ (k : Int) := by omega
        have hkl : (k : Int) < (us0.length : Int) := by have := HAL.out.1; omega
        have HBW : Hid (∀ w', Saves (· ∈ ps) wr w' → Below w.heap.size w w') := Lib.hid fun w' h => HB2.out.trans ((hr.sav.trans h).below HB2.out.size (fun b hb hm => by have := HPW.out b hm; omega))
        cases hok : s.ok with
        | false =>
          have HN2 : Hid (a.all S.ok = false) := Lib.hid (hno hok)
          have HOK := Lib.hid hok
          clear hs hf hu hpx hB hbl hvf hst hsucc hno hr hall ha hg hpq hok
          go_wp2_with fail
          refine HST.out.mono ?_
          rintro e w3 ⟨v3, rfl, _, ⟨A3, n3, c3, rfl⟩, hs3, _⟩
          rw [HOK.out]
          have HF : Hid (∀ o, SortsPost syms l w (.returned (.tuple #[.slice none 0 0, .int .i64 3])) (w3.alloc o)) := by
            have hb := HBW.out w3 hs3
            exact Lib.hid fun o => ⟨3, [], _, [], rfl, .inr ⟨HZ.out, some a, HSO.out, by simp [ansE, HN2.out], by simp [ansE, HN2.out]⟩, sepI_nil, .nil, fun b hb => by simp at hb, hb.alloc hb.size o⟩
          clear hs3
          go_wp2_with fail
          go_ret2
          exact HF.out _
        | true =>
          have HSU := Lib.hid (hsucc hok)
          have HOK := Lib.hid hok
          have hus : us.length = k := by have := hr.own.1; omega
          have HUS := Lib.hid hus
          clear hs hf hu hpx hB hbl hvf hst hsucc hno hr hall ha hg hpq hok hus
          go_wp2_with fail
          refine HST.out.mono ?_
          rintro e w3 ⟨v3, rfl, hsep, ⟨A3, n3, c3, rfl⟩, hs3, G3, ha3, hg3⟩
          rw [HOK.out]
          obtain ⟨fp1, hsep1, hnod1, hrng1⟩ := hsep HOK.out
          have hnp : ∀ b, w2.heap.size ≤ b → b ∉ ps := fun b hb hm => by have := HPS.out b hm; omega
          have hown1 : w3.ownsRow w2.heap.size 50 1 u9 k us := owns_kept HR.out.own (fun b hb => hs3.block b (HR.out.own.lt b hb).2 (hnp b (HR.out.own.lt b hb).1))
          have HW := Lib.hid (⟨hsep1, hnod1, hrng1, hs3, ha3, hg3⟩ : s.Sep w3 (.slice A3 n3 c3) fp1 ∧ fp1.Nodup ∧ (∀ b ∈ fp1, wr.heap.size ≤ b ∧ b < w3.heap.size) ∧ Saves (· ∈ ps) wr w3 ∧ Alike G' G3 ∧ Gs w3 ps G3 vis')
          have hz3 : w2.heap.size ≤ w3.heap.size := Nat.le_trans HR.out.sav.size hs3.size
          clear hsep hsep1 hnod1 hrng1 hs3 ha3 hg3
          go_wp2_with
            (at_builtin
             refine wpList_append_lies _ rfl _ _ _ rfl w2.heap.size 50 i0 _ 1 24 Tryz.underlying48 hi0 hz0 hz1 hz2 rfl (by omega) u9 k us (by rfl) ((hown1.alloc _).alloc _)
               ⟨w3.heap.size + 1, 0, none⟩ 1 1 [.slice A3 n3 c3] (by rfl) (by rfl) (World.news_of_block (cs := #[.slice A3 n3 c3]) (t := 50) (fr := (0, 0)) (by have := heap_alloc_new (w3.alloc (.cells #[.slice A3 n3 c3] 50)) (.cells #[.slice A3 n3 c3] 50); simpa using this)) (fun u hu => by rw [List.mem_singleton.1 hu]; rfl) (by omega) (by simp only [maxLen]; omega) (by omega) (by simp; omega) (w3.heap.size + 1 + 1) (by simp) ?_
             intro gg cap w4 hown2 hgrow hat hlt2)
          have HF : Hid (StAt a ps G us0 (w1.heap.size + 1) (.slice (some ad) us0.length cq) w2 (.slice (some ⟨gg, 0, none⟩) (k + 1) cap) (.int .i64 ((k + 1 : Nat) : Int)) w4) := by
            obtain ⟨g1, g2, g3, g4, g5, g6⟩ := HW.out
            have hfar : ∀ b, b < w3.heap.size → u9.ownBlock ≠ some b → w4.heap[b]? = w3.heap[b]? := by
              intro b hb hc
              rw [hgrow.block b (by simp; omega) (fun e => hc e.symm), Below.heap_alloc _ _ _ (by simp; omega), Below.heap_alloc _ _ _ hb]
            refine Lib.hid ⟨k + 1, _, _, G3, vis', by omega, rfl, HR.out.next HPS.out HK.out g1 g2 g3 g4 hown2 hgrow hat, HSU.out, HA.out.trans g5, g6.keep fun b hb => ?_, owns_kept3 HPQ.out fun b hb => ?_⟩
            · have h1 := HPS.out b hb
              exact hfar b (by omega) (fun e => by have := HR.out.own.lt b e; omega)
            · have h1 := HPQ.out.lt hb
              have h2 := g4.size
              exact (hfar b (by omega) (own_own_ne HPQ.out HR.out.own (by decide) b hb)).trans (g4.block b h1.2 (HPQ.out.not_in HG.out b hb))
          clear hown2 hgrow hat hlt2
          go_wp2_with fail
          go_roundw
          case rel => simpa using HF.out
          case measure => simp [intOf]; omega
      · have hka : k = a.length := by omega
        have htk : a.take k = a := List.take_of_length_le (by omega)
        rw [htk] at hall
        have hge : ¬ (k : Int) < (us0.length : Int) := by have := HAL.out.1; omega
        have HF : Hid (SortsPost syms l w (.returned (.tuple #[u9, .int .i64 0])) wr) := by
          subst hka
          obtain ⟨g1, g2, g3⟩ := hr.done
          have hb := HB2.out.trans (hr.sav.below HB2.out.size (fun b hb hm => by have := HPW.out b hm; omega))
          exact Lib.hid ⟨0, a, _, _, rfl, .inr ⟨HZ.out, some a, HSO.out, by simp [ansE, hall], by simp [ansE, hall]⟩, g1, g2, fun b hb' => by have := g3 b hb'; have := HB2.out.size; omega, hb⟩
        clear hka htk hr hall ha hg hpq
        go_wp2_with fail
        go_ret2
        exact HF.out
end Go.Proofs.YtkkfdiidneoelaaGreatDoor
