/-
  (*guess).whole: a contract.
-/
import Derived.Test.YtkkfdiidneoelaaDoorIArgs
import Derived.Test.YtkkfdiidneoelaaDoorClone
namespace Go.Proofs.YtkkfdiidneoelaaDoor
open Go.RowKit

/-- What the loop of whole holds behind k rounds. -/
structure RoundW (l : List S) (ps : List Nat) (w0 : World) (k : Nat) (cv : Value) (us : List Value) (fp : List Nat) (w : World) : Prop where
  own : w.ownsRow (w0.heap.size + 2) 41 1 cv k us
  sep : S.SepL w (l.take k) us fp
  nod : (cv.ownBlock.toList ++ fp).Nodup
  rng : ∀ b ∈ fp, w0.heap.size + 2 ≤ b ∧ b < w.heap.size
  blk : Blk w (w0.heap.size + 1) 41 #[cv]
  res : Blk w w0.heap.size 41 #[.slice none 0 0]
  sav : Saves (· ∈ ps) w0 w
theorem RoundW.next {l : List S} {ps : List Nat} {w0 wr w1 w2 : World} {k : Nat} {cv : Value} {us : List Value} {fp fp1 : List Nat} {x : S} {v1 : Value} {gg cap : Nat} {o1 : Obj}
    (hr : RoundW l ps w0 k cv us fp wr) (hps : ∀ b ∈ ps, b < w0.heap.size) (hx : l[k]? = some x) (hsep1 : x.Sep w1 v1 fp1) (hnod1 : fp1.Nodup) (hrng1 : ∀ b ∈ fp1, wr.heap.size ≤ b ∧ b < w1.heap.size)
    (hbb1 : Saves (· ∈ ps) wr w1)
    (hown2 : w2.ownsRow (w0.heap.size + 2) 41 1 (.slice (some ⟨gg, 0, none⟩) (k + 1) cap) (k + 1) (us ++ [v1])) (hgrow : (w1.alloc o1).grownBy w2 cv.ownBlock)
    (hat : cv.ownBlock = some gg ∨ gg = w1.heap.size + 1) :
    RoundW l ps w0 (k + 1) (.slice (some ⟨gg, 0, none⟩) (k + 1) cap) (us ++ [v1]) (fp ++ fp1) (w2.setCell ⟨w0.heap.size + 1, 0, none⟩ (.slice (some ⟨gg, 0, none⟩) (k + 1) cap)) := by
  have hB3 : w0.heap.size + 1 < wr.heap.size := hr.blk.lt
  have hgl := hown2.lt gg rfl
  have hwz := hbb1.size
  have hsz2 : w1.heap.size + 1 ≤ w2.heap.size := by have := hgrow.size; simpa using this
  have hcvlt : ∀ b, cv.ownBlock = some b → w0.heap.size + 2 ≤ b ∧ b < wr.heap.size := fun b hb => hr.own.lt b hb
  have hnp : ∀ b, w0.heap.size ≤ b → b ∉ ps := fun b hb hm => by have := hps b hm; omega
  have hfar : ∀ b, b < w1.heap.size → cv.ownBlock ≠ some b → b ≠ w0.heap.size + 1 → (w2.setCell ⟨w0.heap.size + 1, 0, none⟩ (.slice (some ⟨gg, 0, none⟩) (k + 1) cap)).heap[b]? = w1.heap[b]? := by
    intro b hb hc hne
    rw [Below.heap_setCell _ _ _ _ hne, hgrow.block b (by simp; omega) (fun e => hc e.symm), Below.heap_alloc _ _ _ hb]
  have hfar0 : ∀ b, w0.heap.size ≤ b → b < wr.heap.size → cv.ownBlock ≠ some b → b ≠ w0.heap.size + 1 → (w2.setCell ⟨w0.heap.size + 1, 0, none⟩ (.slice (some ⟨gg, 0, none⟩) (k + 1) cap)).heap[b]? = wr.heap[b]? := by
    intro b h0 hb hc hne
    rw [hfar b (by omega) hc hne, hbb1.block b hb (hnp b h0)]
  have hnod := List.nodup_append.1 hr.nod
  have hnf : ∀ b ∈ fp, cv.ownBlock ≠ some b := fun b hb he => hnod.2.2 b (by simp [he]) b hb rfl
  refine ⟨owns_kept hown2 (fun b hb => ?_), ?_, ?_, ?_, ?_, ?_, ?_⟩
  · have hb' : gg = b := by simpa [Value.ownBlock] using hb
    exact Below.heap_setCell _ _ _ _ (by show b ≠ w0.heap.size + 1; omega)
  · rw [List.take_add_one, hx]
    refine S.SepL.snoc (hsep1.keep _ (fun b hb => hfar b (hrng1 b hb).2 (fun he => by have := hcvlt b he; have := hrng1 b hb; omega) (by have := hrng1 b hb; omega))) _ (hr.sep.keep _ (fun b hb => hfar0 b (by have := hr.rng b hb; omega) (hr.rng b hb).2 (hnf b hb) (by have := hr.rng b hb; omega)))
  · have hdis : ∀ a ∈ fp, ∀ b ∈ fp1, a ≠ b := fun a ha b hb => by have := hr.rng a ha; have := hrng1 b hb; omega
    have h2 : (fp ++ fp1).Nodup := List.nodup_append.2 ⟨hnod.2.1, hnod1, hdis⟩
    simp only [Value.ownBlock, Option.toList, List.cons_append, List.nil_append]
    refine List.nodup_cons.2 ⟨fun hm => ?_, h2⟩
    rcases List.mem_append.1 hm with hm | hm
    · rcases hat with he | he
      · exact hnf gg hm he
      · have := hr.rng gg hm; omega
    · rcases hat with he | he
      · have := hcvlt gg he; have := hrng1 gg hm; omega
      · have := hrng1 gg hm; omega
  · intro b hb
    have hsz : w2.heap.size = (w2.setCell ⟨w0.heap.size + 1, 0, none⟩ (.slice (some ⟨gg, 0, none⟩) (k + 1) cap)).heap.size := by simp [World.setCell]
    rcases List.mem_append.1 hb with hb | hb
    · have := hr.rng b hb; omega
    · have := hrng1 b hb; omega
  · have h1 : Blk w2 (w0.heap.size + 1) 41 #[cv] := (hgrow.block _ (by simp; omega) (fun e => by have := hcvlt _ e.symm; omega)).trans ((hr.blk.saves hbb1 (hnp _ (by omega))).alloc o1)
    exact h1.set_ 0 _
  · exact (hfar0 w0.heap.size (Nat.le_refl _) (by omega) (fun e => by have := hcvlt _ e; omega) (by omega)).trans hr.res
  · refine Saves.setCell ?_ (.inr (by simp)) _
    have h1 := (hr.sav.trans hbb1).alloc o1
    refine ⟨hgrow.os.trans h1.os, hgrow.tape.trans h1.tape, hgrow.output.trans h1.output, Nat.le_trans h1.size hgrow.size, fun b hb hn => ?_⟩
    exact (hgrow.block b (by simp; omega) (fun e => by have := hcvlt b e.symm; omega)).trans (h1.block b hb hn)
theorem RoundW.done {l : List S} {ps : List Nat} {w0 wr : World} {cv : Value} {us : List Value} {fp : List Nat} (hr : RoundW l ps w0 l.length cv us fp wr) (u : Value) :
    (S.mk l).Sep (wr.setCell ⟨w0.heap.size, 0, none⟩ u) cv (cv.ownBlock.toList ++ fp) ∧ (cv.ownBlock.toList ++ fp).Nodup ∧ (∀ b ∈ cv.ownBlock.toList ++ fp, w0.heap.size ≤ b ∧ b < (wr.setCell ⟨w0.heap.size, 0, none⟩ u).heap.size) ∧ Saves (· ∈ ps) w0 (wr.setCell ⟨w0.heap.size, 0, none⟩ u) := by
  have hcvlt : ∀ b, cv.ownBlock = some b → w0.heap.size + 2 ≤ b ∧ b < wr.heap.size := fun b hb => hr.own.lt b hb
  have hall : ∀ b ∈ cv.ownBlock.toList ++ fp, w0.heap.size + 2 ≤ b ∧ b < wr.heap.size := by
    intro b hb
    rcases List.mem_append.1 hb with hb | hb
    · exact hcvlt b (by simpa using hb)
    · exact hr.rng b hb
  have hs : (S.mk l).Sep wr cv (cv.ownBlock.toList ++ fp) := by
    simp only [S.Sep]
    refine ⟨us, fp, ⟨hr.own.1, ?_⟩, by have := hr.sep; rwa [List.take_length] at this, rfl⟩
    rcases hr.own.2 with h | ⟨g, cap, cur, h1, h2, h3⟩
    · exact .inl h
    · exact .inr ⟨g, cap, cur, h1, Nat.zero_le _, h3⟩
  exact ⟨hs.keep _ (fun b hb => Below.heap_setCell _ _ _ _ (by have := hall b hb; show b ≠ w0.heap.size; omega)), hr.nod, fun b hb => by have := hall b hb; simp only [World.setCell, Array.size_modify]; omega, hr.sav.setCell (.inr (Nat.le_refl _)) _⟩
theorem RoundW.start (l : List S) (ps : List Nat) (w : World) : RoundW l ps w 0 (.slice none 0 0) [] [] ((w.alloc (.cells #[.slice none 0 0] 41)).alloc (.cells #[.slice none 0 0] 41)) where
  own := ⟨by simp, .inl ⟨rfl, rfl⟩⟩
  sep := by simp [S.SepL]
  nod := by simp [Value.ownBlock]
  rng := by simp
  blk := by simpa using Blk.new (w.alloc (.cells #[.slice none 0 0] 41)) 41 #[.slice none 0 0]
  res := (Blk.new w 41 #[.slice none 0 0]).alloc _
  sav := ((Saves.refl _ _).alloc _).alloc _
theorem own_own_ne {w : World} {base base' : Nat} {e e' : TypeId} {size size' n n' : Nat} {v v' : Value} {xs xs' : List Value} (h : w.ownsRow base e size v n xs) (h' : w.ownsRow base' e' size' v' n' xs') (hne : e ≠ e') : ∀ b, v.ownBlock = some b → v'.ownBlock ≠ some b := by
  intro b hb hb'
  rcases h.2 with ⟨rfl, _⟩ | ⟨g, cap, cur, rfl, _, hh, _⟩
  · cases hb
  · rcases h'.2 with ⟨rfl, _⟩ | ⟨g', cap', cur', rfl, _, hh', _⟩
    · cases hb'
    · have e1 : g = b := by simpa [Value.ownBlock] using hb
      have e2 : g' = b := by simpa [Value.ownBlock] using hb'
      subst e1
      rw [e2] at hh'
      rw [hh] at hh'
      injection hh' with hh'
      injection hh' with _ ht
      exact hne ht
/-- What whole answers: the sort, in blocks of its own. -/
def WholePost (ps : List Nat) (G : Gr) (vis : Nat → Int) (s : S) (w : World) (e : Ending) (w' : World) : Prop :=
  ∃ v fp G', e = .returned (.agg #[v]) ∧ s.Sep w' v fp ∧ fp.Nodup ∧ (∀ b ∈ fp, w.heap.size ≤ b ∧ b < w'.heap.size) ∧ Saves (· ∈ ps) w w' ∧ Alike G G' ∧ Gs w' ps G' vis
theorem whole_results {tmps : Array Value} {w : World} {a : Nat} {x : Value} (h2 : tmps.getD 2 undef = .pointer (some ⟨a, 0, none⟩))
    (ha : Blk w a 41 #[x]) : (results Tryd.f65 tmps).run Tryd.prog w = .ok (.agg #[x]) w := by
  have h4 := ha.cell 0
  simp at h4
  have h2' : tmps[2]?.getD undef = .pointer (some ⟨a, 0, none⟩) := by simpa using h2
  simp [results, Tryd.results65, go_sem, h2', h4]

def WhAt (l : List S) (ps : List Nat) (G : Gr) (vis : Nat → Int) (us0 : List Nat) (B : Nat) (qv : Value) (w : World) (i : Value) (wr : World) : Prop :=
  ∃ (k : Nat) (cv : Value) (us : List Value) (fp : List Nat) (G' : Gr), k ≤ l.length ∧ i = .int .i64 (k : Int) ∧ RoundW l ps w k cv us fp wr ∧ Alike G G' ∧ Gs wr ps G' vis ∧ Ps B wr us0 qv

set_option maxRecDepth 100000 in
set_option maxHeartbeats 3200000 in
theorem whole_any (K : Nat) : ∀ (s : S) (ps : List Nat) (G : Gr) (vis : Nat → Int) (v : Nat → D) (x p : Nat) (w : World), s.count ≤ K → Good G → Can G v → G.length ≤ 1000000 → Gs w ps G vis → ps[x]? = some p → v x = s.emb →
    Calls Tryd.prog 65 #[pv p] w (WholePost ps G vis s w) := by
  induction K with
  | zero => intro s; have := s.count_pos; omega
  | succ K ih =>
    intro s ps G vis v x p w hK hG hv hlen hgs hx hvx
    obtain ⟨i0, hi0, hz0, hz1, hz2⟩ := info_parts sort_info
    obtain ⟨l⟩ := s
    have hvx' : v x = chainD (l.map S.emb) D.o := by rw [hvx, emb_chain]
    have hxl : x < G.length := by have := hgs.len; have := (List.getElem?_eq_some_iff.1 hx).1; omega
    have hll : l.length ≤ 1000000 := by have := chain_le hG hv hxl hvx'; simp at this; omega
    have hps : ∀ b ∈ ps, b < w.heap.size := fun b hb => hgs.lt hb
    have hw2 : Below w.heap.size w ((w.alloc (.cells #[.slice none 0 0] 41)).alloc (.cells #[.slice none 0 0] 41)) := ((Below.refl _ _).alloc (Nat.le_refl _) _).alloc (by simp) _
    have hca := args_any ps G vis v (l.map S.emb) x p _ hG hv hlen (hgs.below hw2) hx hvx'
    have HCA := Lib.hid hca
    have HIH := Lib.hid ih
    have HV := Lib.hid hv
    have HLN := Lib.hid hlen
    have HK := Lib.hid hK
    have HPS := Lib.hid hps
    clear hca ih hv hlen hK hgs hx hvx hvx' hxl hw2
    go_enter Tryd.func65, Tryd.ntmps65
    go_wp2_with fail
    refine HCA.out.mono ?_
    rintro e w1 ⟨G1, qs, us0, qv, rfl, ha1, hg1, ht1, hn1, hp1, hqd, _⟩
    obtain ⟨Aq, cq, rfl⟩ := hp1.form
    have hql : us0.length = l.length := by rw [hn1.1]; have := congrArg List.length hqd; simpa using this
    have H0 : Hid (WhAt l ps G vis us0 (((w.alloc (.cells #[.slice none 0 0] 41)).alloc (.cells #[.slice none 0 0] 41)).heap.size) (.slice Aq us0.length cq) w (.int .i64 0) w1) := by
      have hr := RoundW.start l ps w
      have hnp : ∀ b, w.heap.size ≤ b → b ∉ ps := fun b hb hm => by have := HPS.out b hm; omega
      exact Lib.hid ⟨0, _, [], [], G1, Nat.zero_le _, rfl, ⟨⟨by simp, .inl ⟨rfl, rfl⟩⟩, by simp [S.SepL], by simp [Value.ownBlock], by simp, hr.blk.saves ht1.sav (hnp _ (by omega)), hr.res.saves ht1.sav (hnp _ (Nat.le_refl _)), hr.sav.trans ht1.sav⟩, ha1, hg1, hp1⟩
    have HN := Lib.hid hn1
    have HQ := Lib.hid hqd
    have HQL := Lib.hid hql
    clear ha1 hg1 ht1 hn1 hp1 hqd hql
    go_wp2_with fail
    go_loopw [9] (fun i wr => WhAt l ps G vis us0 (((w.alloc (.cells #[.slice none 0 0] 41)).alloc (.cells #[.slice none 0 0] 41)).heap.size) (.slice Aq us0.length cq) w i wr) (fun i _ => l.length - (intOf i).toNat)
    case atStart => exact H0.out
    case round =>
      clear H0
      obtain ⟨k, cv, us, fp, G', hk, rfl, hr, ha, hg, hpq⟩ := hrel
      have hsz := hr.sav.size
      have hsz1 := hr.blk.lt
      by_cases hlt : k < l.length
      · have hxk : l[k]? = some l[k] := List.getElem?_eq_getElem hlt
        have hcl := S.count_lt hxk
        obtain ⟨q, hq⟩ : ∃ q, qs[k]? = some q := ⟨qs[k]'(by have := HQL.out; have := HN.out.1; omega), List.getElem?_eq_getElem _⟩
        obtain ⟨pq, hu, hpx⟩ := HN.out.2 k q hq
        obtain ⟨ad, rfl, hB, hbl, hcell⟩ := hpq.cell hu
        have hvq : v q = (l[k]).emb := by
          have h1 : (qs.map v)[k]? = some (v q) := by rw [List.getElem?_map, hq]; rfl
          rw [HQ.out, List.getElem?_map, hxk] at h1
          simpa using h1.symm
        have hcc := hr.blk.cell 0
        have hih := HIH.out l[k] ps G' vis v q pq wr.drew (by have := HK.out; omega) ha.good (HV.out.alike ha) (by have := ha.len; have := HLN.out; omega) hg.drew hpx hvq
        have HC := Lib.hid hih
        have HX := Lib.hid hxk
        have HR := Lib.hid hr
        have HA := Lib.hid ha
        have HPQ := Lib.hid hpq
        have HG := Lib.hid hg
        have hk0 : (0 : Int) ≤ (k : Int) := by omega
        have hkl : (k : Int) < (us0.length : Int) := by have := HQL.out; omega
        generalize l[k] = y at *
        simp at hcc
        clear hih hxk hcl hq hu hpx hvq hr ha hpq hg hbl hB
        go_wp2_with fail
        go_region_law
          (first
            | (refine step_append_lies _ (by rfl) _ _ _ (by rfl) (w.heap.size + 2) 41 i0 _ 1 24 Tryd.underlying31 hi0 hz0 hz1 hz2 rfl (by omega) cv k us (by rfl) (by exact (hown1.alloc _))
                ⟨w3.heap.size, 0, none⟩ 1 1 [v1] (by rfl) (by rfl) (by exact World.news_of_block (cs := #[v1]) (t := 41) (fr := (0, 0)) (heap_alloc_new w3 _)) (by exact fun u hu => by rw [List.mem_singleton.1 hu]; exact hone) (by omega) (by simp only [maxLen]; omega) (by omega) (by simp; omega) (w3.heap.size + 1) (by simp) ?_; intro gg cap w4 hown2 hgrow hat hlt2
               have hblk2 : Blk w4 (w.heap.size + 1) 41 #[cv] := (hgrow.block _ (by simp; omega) (fun e => by have := (HR.out.own.lt _ e.symm).1; omega)).trans (hblk1.alloc _)
               have r1 := hblk2.cell 0
               have r3 := hblk2.frozen 0
               simp at r1)
            | (go_simp; go_at_call 65; refine HC.out.mono ?_; rintro e w3 ⟨v1, fp1, G3, rfl, hsep1, hnod1, hrng1, hs1, ha3, hg3⟩
               have hone : v1.oneCell' = true := by obtain ⟨A1, n1, c1, rfl⟩ := hsep1.form; rfl
               have hs1' : Saves (· ∈ ps) wr w3 := ⟨hs1.os, hs1.tape, hs1.output, hs1.size, hs1.block⟩
               have hwz : wr.heap.size ≤ w3.heap.size := hs1'.size
               have hnp : ∀ b, w.heap.size ≤ b → b ∉ ps := fun b hb hm => by have := HPS.out b hm; omega
               have hown1 : w3.ownsRow (w.heap.size + 2) 41 1 cv k us := owns_kept HR.out.own (fun b hb => hs1'.block b (HR.out.own.lt b hb).2 (hnp b (by have := (HR.out.own.lt b hb).1; omega)))
               have hblk1 : Blk w3 (w.heap.size + 1) 41 #[cv] := HR.out.blk.saves hs1' (hnp _ (by omega))
               have q1 := hblk1.cell 0
               have q3 : (w3.alloc (.cells #[v1] 41)).cell? ⟨w.heap.size + 1, 0, none⟩ = some cv := (hblk1.alloc _).cell 0
               simp at q1))
        all_goals
          have hnx := HR.out.next HPS.out HX.out hsep1 hnod1 (fun b hb => hrng1 b hb) hs1' hown2 hgrow hat
          have HF : Hid (WhAt l ps G vis us0 (((w.alloc (.cells #[.slice none 0 0] 41)).alloc (.cells #[.slice none 0 0] 41)).heap.size) (.slice (some ad) us0.length cq) w (.int .i64 ((k + 1 : Nat) : Int)) (w4.setCell ⟨w.heap.size + 1, 0, none⟩ (.slice (some ⟨gg, 0, none⟩) (k + 1) cap))) := by
            have hfar : ∀ b, b < w3.heap.size → cv.ownBlock ≠ some b → b ≠ w.heap.size + 1 → (w4.setCell ⟨w.heap.size + 1, 0, none⟩ (.slice (some ⟨gg, 0, none⟩) (k + 1) cap)).heap[b]? = w3.heap[b]? := by
              intro b hb hc hne
              rw [Below.heap_setCell _ _ _ _ hne, hgrow.block b (by simp; omega) (fun e => hc e.symm), Below.heap_alloc _ _ _ hb]
            refine Lib.hid ⟨k + 1, _, _, _, G3, by omega, rfl, hnx, HA.out.trans ha3, hg3.keep fun b hb => ?_, owns_kept3 HPQ.out fun b hb => ?_⟩
            · have h1 := HPS.out b hb
              exact hfar b (by omega) (fun e => by have := HR.out.own.lt b e; omega) (by omega)
            · have h1 := HPQ.out.lt hb
              simp only [World.size_alloc] at h1
              exact (hfar b (by omega) (own_own_ne HPQ.out HR.out.own (by decide) b hb) (by omega)).trans (hs1'.block b h1.2 (hnp b (by omega)))
          clear hnx hsep1 hnod1 hrng1 hs1 hs1' hown2 hgrow hat hg3 ha3 hown1 hblk1
          go_wp2_with fail
          go_roundw
          case rel => simpa using HF.out
          case measure => simp [intOf]; omega
      · have hkl : k = l.length := by omega
        obtain ⟨A3, n3, c3, rfl⟩ := own_form hr.own
        have hc0 := hr.blk.cell 0
        have hr0 := hr.res.cell 0
        have hrf := hr.res.frozen 0
        have HKL := Lib.hid hkl
        have hge : ¬ (k : Int) < (us0.length : Int) := by have := HQL.out; omega
        have HA := Lib.hid ha
        have HG := Lib.hid hg
        have HP := Lib.hid hpq
        simp at hc0 hr0
        clear hkl ha hg hpq
        go_wp2_with fail
        refine bodyPost_ret (whole_results rfl (hr.res.set_ 0 _)) rfl ?_
        rw [HKL.out] at hr
        obtain ⟨g1, g2, g3, g4⟩ := hr.done (.slice A3 n3 c3)
        exact ⟨_, _, G', rfl, g1, g2, g3, g4, HA.out, HG.out.keep fun b hb => Below.heap_setCell wr ⟨w.heap.size, 0, none⟩ _ b (by have := HPS.out b hb; show b ≠ w.heap.size; omega)⟩
end Go.Proofs.YtkkfdiidneoelaaDoor
