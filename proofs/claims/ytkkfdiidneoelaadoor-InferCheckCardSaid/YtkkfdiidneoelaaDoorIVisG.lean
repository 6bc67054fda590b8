/-
  nest.Size at guesses: a contract.
-/
import Derived.Test.YtkkfdiidneoelaaDoorIArgs
import Derived.Test.YtkkfdiidneoelaaDoorSize
namespace Go.Proofs.YtkkfdiidneoelaaDoor
open Go.RowKit

theorem Ps.not_inG {B : Nat} {w : World} {us ps : List Nat} {v : Value} {G : Gr} {vis : Nat → Int} (h : Ps B w us v) (hg : Gs w ps G vis) : ∀ b, v.ownBlock = some b → b ∉ ps := by
  intro b hb hm
  obtain ⟨i, hi, rfl⟩ := List.mem_iff_getElem.1 hm
  have h1 : ps[i]? = some ps[i] := List.getElem?_eq_getElem hi
  obtain ⟨d, hd⟩ := hg.nd h1
  obtain ⟨sm, kd, fr, to_, hk, _⟩ := hg.at_ i _ d h1 hd
  rcases h.2 with ⟨rfl, _⟩ | ⟨g', cap, cur, rfl, _, hh, _⟩
  · cases hb
  · have e : g' = ps[i] := by simpa [Value.ownBlock] using hb
    unfold Blk at hk
    rw [← e, hh] at hk
    injection hk with hk
    injection hk with _ ht
    exact absurd ht (by decide)
set_option maxHeartbeats 400000 in
theorem sizeG1_any (s : S) (p : Nat) (lvl : Nat) (w : World) (B b : Nat) (st : Nat × Nat) (h60 : st.1 ≤ 60) (h2 : Two B b st w) :
    Calls Tryd.prog 88 #[pv p, .int .i64 (lvl : Int), .pointer (some ⟨b + 1, 0, none⟩), .pointer (some ⟨b + 2, 0, none⟩), .pointer (some ⟨b, 0, none⟩)] w fun e w' =>
      e = .returned (.bool (sizeStep st s lvl).1) ∧ Two B b (sizeStep st s lvl).2 w' ∧ Saves (fun k => k = b + 1 ∨ k = b + 2) w w' := by
  obtain ⟨n0, d0⟩ := st
  obtain ⟨hB, hb0, hb1, hb2⟩ := h2
  simp only at h60 hb1 hb2
  have hl0 := hb0.lt
  have hl1 := hb1.lt
  have hl2 := hb2.lt
  have hc0 := hb0.cell 0
  have hc1 := hb1.cell 0
  have hc2 := hb2.cell 0
  have hf1 := hb1.frozen 0
  have hf2 := hb2.frozen 0
  go_enter Tryd.func88, Tryd.ntmps88
  go_wp2_with fail
  all_goals
    go_ret
    refine ⟨ret_bool (decide_eq_decide.2 (by show (n0 : Int) + 1 ≤ 60 ↔ n0 + 1 ≤ 60; omega)), ⟨hB, ?_, ?_, ?_⟩, ((Saves.refl _ _).setCell (.inl (.inl rfl)) _).setCell (.inl (.inr rfl)) _⟩
    · exact (hb0.far (p := ⟨b + 1, 0, none⟩) (by simp) _).far (p := ⟨b + 2, 0, none⟩) (by simp) _
    · exact (hb1.set_ 0 _).far (p := ⟨b + 2, 0, none⟩) (by simp) _
    · refine ((hb2.far (p := ⟨b + 1, 0, none⟩) (by simp) _).set_ 0 _).eq_ (congrArg (fun z : Int => #[Value.int .i64 z]) ?_)
      show _ = ((max d0 lvl : Nat) : Int)
      omega

/-- The state of the visit: a count, and the graph. -/
def VS (B b : Nat) (ps : List Nat) (G : Gr) (vis : Nat → Int) (st : Nat × Nat) (w : World) : Prop := Two B b st w ∧ ∃ G', Alike G G' ∧ Gs w ps G' vis
/-- The blocks that the visit may change. -/
abbrev VM (b : Nat) (ps : List Nat) (k : Nat) : Prop := k = b + 1 ∨ k = b + 2 ∨ k ∈ ps
theorem VS.next {B b : Nat} {ps : List Nat} {G : Gr} {vis : Nat → Int} {st : Nat × Nat} {w w' : World} (h : VS B b ps G vis st w) (hb : Below w.heap.size w w') : VS B b ps G vis st w' := by
  obtain ⟨h1, G', h2, h3⟩ := h
  exact ⟨two_kept h1 hb, G', h2, h3.below hb⟩

/-- The rounds of a visit of some arguments. -/
def VgAt (B b : Nat) (ps : List Nat) (G : Gr) (vis : Nat → Int) (l : List S) (st1 : Nat × Nat) (lvl : Nat) (us0 : List Nat) (Bq : Nat) (qv : Value) (w : World) (i : Value) (wr : World) : Prop :=
  ∃ k : Nat, k ≤ l.length ∧ i = .int .i64 (k : Int) ∧ (visitL sizeStep st1 (lvl + 1) (l.take k)).1 = true ∧ VS B b ps G vis (visitL sizeStep st1 (lvl + 1) (l.take k)).2 wr ∧ Saves (VM b ps) w wr ∧ Ps Bq wr us0 qv

set_option maxRecDepth 100000 in
set_option maxHeartbeats 3200000 in
theorem visitG_any (ps : List Nat) (G : Gr) (vis : Nat → Int) (v : Nat → D) (hv : Can G v) (hlen : G.length ≤ 1000000) (B b : Nat) (hbp : b ∉ ps ∧ b + 1 ∉ ps ∧ b + 2 ∉ ps) (K : Nat) : ∀ (s : S) (x p lvl : Nat) (w : World) (st : Nat × Nat), s.count ≤ K → (lvl ≤ st.1 + 1 ∧ st.1 ≤ 60) → VS B b ps G vis st w → ps[x]? = some p → v x = s.emb →
    Calls Tryd.prog 87 #[pv p, .int .i64 (lvl : Int), .func (.func 59) #[] #[], .func (.func 88) #[] #[.pointer (some ⟨b + 1, 0, none⟩), .pointer (some ⟨b + 2, 0, none⟩), .pointer (some ⟨b, 0, none⟩)]] w fun e w' =>
      e = .returned (.bool (visit sizeStep st lvl s).1) ∧ VS B b ps G vis (visit sizeStep st lvl s).2 w' ∧ Saves (VM b ps) w w' := by
  have hcall1 := Tryd.call59
  have hcall2 := Tryd.call88
  induction K with
  | zero => intro s; have := s.count_pos; omega
  | succ K ih =>
    intro s x p lvl w st hK hst hvs hx hvx
    obtain ⟨l⟩ := s
    obtain ⟨h2, G1, ha1, hg1⟩ := hvs
    have hS := sizeG1_any (.mk l) p lvl w B b st hst.2 h2
    have hbl := h2.2.1.lt
    obtain ⟨hlv, hdown⟩ := sizeOk st l lvl hst
    have hkeep : ∀ (W W' : World) (G' : Gr), Gs W ps G' vis → Saves (fun k => k = b + 1 ∨ k = b + 2) W W' → Gs W' ps G' vis := fun _ _ _ hg hs => hg.saves hs (fun c hc e => by
      rcases e with rfl | rfl
      · exact hbp.2.1 hc
      · exact hbp.2.2 hc)
    have HKP := Lib.hid hkeep
    cases hb : (sizeStep st (.mk l) lvl).1 with
    | false =>
      have hvv : visit sizeStep st lvl (.mk l) = (false, (sizeStep st (.mk l) lvl).2) := by simp [visit, hb]
      rw [hvv]
      rw [hb] at hS
      have HS := Lib.hid hS
      have HA := Lib.hid ha1
      have HG := Lib.hid hg1
      clear hS hkeep ih hdown hb hvv h2 ha1 hg1 hx hvx hv hlen hK
      go_enter Tryd.func87, Tryd.ntmps87
      go_wp2_with fail
      refine HS.out.mono ?_
      rintro e w1 ⟨rfl, hI1, hs1⟩
      have HF : Hid (VS B b ps G vis (sizeStep st (.mk l) lvl).2 w1 ∧ Saves (VM b ps) w w1) := Lib.hid ⟨⟨hI1, G1, HA.out, HKP.out _ _ _ HG.out hs1⟩, hs1.mono fun k _ h => by rcases h with h | h <;> simp [VM, h]⟩
      clear hI1 hs1
      go_wp2_with fail
      go_ret
      exact ⟨rfl, HF.out⟩
    | true =>
      have hvv : visit sizeStep st lvl (.mk l) = visitL sizeStep (sizeStep st (.mk l) lvl).2 (lvl + 1) l := by simp [visit, hb]
      rw [hvv]
      rw [hb] at hS
      replace hdown := hdown hb
      generalize (sizeStep st (.mk l) lvl).2 = st1 at *
      have Hsucc := Lib.hid (visitL_succ sizeStep (lvl + 1) l st1)
      have Hfalse := Lib.hid (visitL_false sizeStep (lvl + 1) l st1)
      have HS := Lib.hid hS
      have HD := Lib.hid hdown
      have HIH := Lib.hid ih
      have HA := Lib.hid ha1
      have HG := Lib.hid hg1
      have HV := Lib.hid hv
      have HK := Lib.hid hK
      have HX : Hid (ps[x]? = some p ∧ v x = chainD (l.map S.emb) D.o) := Lib.hid ⟨hx, by rw [hvx, emb_chain]⟩
      have HLN : Hid (G1.length ≤ 1000000) := Lib.hid (by have := ha1.len; omega)
      have hll : l.length ≤ 1000000 := by
        have hxl : x < G1.length := by have := hg1.len; have := (List.getElem?_eq_some_iff.1 hx).1; omega
        have := chain_le ha1.good (hv.alike ha1) hxl HX.out.2
        simp at this; have := HLN.out; omega
      clear hS hkeep ih hdown hb hvv h2 ha1 hg1 hx hvx hv hlen hK
      go_enter Tryd.func87, Tryd.ntmps87
      go_wp2_with fail
      refine HS.out.mono ?_
      rintro e w1 ⟨rfl, hI1, hs1⟩
      have hg2 := HKP.out _ _ _ HG.out hs1
      have hca := args_any ps G1 vis v (l.map S.emb) x p w1 HA.out.good (HV.out.alike HA.out) HLN.out hg2 HX.out.1 HX.out.2
      have HCA := Lib.hid hca
      have H1 : Hid (Two B b st1 w1 ∧ Saves (VM b ps) w w1) := Lib.hid ⟨hI1, hs1.mono fun k _ h => by rcases h with h | h <;> simp [VM, h]⟩
      clear hI1 hs1 hg2 hca
      go_wp2_with fail
      refine HCA.out.mono ?_
      rintro e w2 ⟨G2, qs, us0, qv, rfl, ha2, hg2, ht2, hn2, hp2, hqd, _⟩
      obtain ⟨Aq, cq, rfl⟩ := hp2.form
      have hql : us0.length = l.length := by rw [hn2.1]; have := congrArg List.length hqd; simpa using this
      have H0 : Hid (VgAt B b ps G vis l st1 lvl us0 w1.heap.size (.slice Aq us0.length cq) w (.int .i64 0) w2) := by
        obtain ⟨g1, g2⟩ := H1.out
        refine Lib.hid ⟨0, Nat.zero_le _, rfl, by simp [visitL], ⟨?_, G2, HA.out.trans ha2, hg2⟩, g2.trans (ht2.sav.mono fun k _ h => .inr (.inr h)), hp2⟩
        simp only [List.take_zero, visitL]
        exact ⟨g1.1, g1.2.1.saves ht2.sav hbp.1, g1.2.2.1.saves ht2.sav hbp.2.1, g1.2.2.2.saves ht2.sav hbp.2.2⟩
      have HN := Lib.hid hn2
      have HQ := Lib.hid hqd
      have HQL := Lib.hid hql
      have hw1b : b + 2 < w1.heap.size := H1.out.1.2.2.2.lt
      clear ha2 hg2 ht2 hn2 hp2 hqd hql
      go_wp2_with fail
      go_loopw [20] (fun i wr => VgAt B b ps G vis l st1 lvl us0 w1.heap.size (.slice Aq us0.length cq) w i wr) (fun i _ => l.length - (intOf i).toNat)
      case atStart => exact H0.out
      case round =>
        clear H0
        obtain ⟨k, hk, rfl, hf, hvs, hsk, hpq⟩ := hrel
        by_cases hlt : k < l.length
        · have hxk : l[k]? = some l[k] := List.getElem?_eq_getElem hlt
          have hcl := S.count_lt hxk
          obtain ⟨q, hq⟩ : ∃ q, qs[k]? = some q := ⟨qs[k]'(by have := HQL.out; have := HN.out.1; omega), List.getElem?_eq_getElem _⟩
          obtain ⟨pq, hu, hpx⟩ := HN.out.2 k q hq
          obtain ⟨ad, rfl, hB, hbl', hcell⟩ := hpq.cell hu
          have hvq : v q = (l[k]).emb := by
            have h1 : (qs.map v)[k]? = some (v q) := by rw [List.getElem?_map, hq]; rfl
            rw [HQ.out, List.getElem?_map, hxk] at h1
            simpa using h1.symm
          have hokx := HD.out k _ hxk hf
          have hs := Hsucc.out k _ hxk hf
          have hct := HIH.out l[k] q pq (lvl + 1) wr _ (by have := HK.out; omega) hokx hvs hpx hvq
          rw [← hs] at hct
          have HVS := Lib.hid hvs
          have HSK := Lib.hid hsk
          have HPQ := Lib.hid hpq
          have hk0 : (0 : Int) ≤ (k : Int) := by omega
          have hkl : (k : Int) < (us0.length : Int) := by have := HQL.out; omega
          generalize l[k] = y at *
          cases hb2 : (visitL sizeStep st1 (lvl + 1) (l.take (k + 1))).1 with
          | true =>
            rw [hb2] at hct
            have HC := Lib.hid hct
            have HB2 := Lib.hid hb2
            clear hxk hcl hq hu hpx hvq hs hokx hct hb2 hf hvs hsk hpq hB hbl'
            go_wp2_with fail
            refine HC.out.mono ?_
            rintro e w3 ⟨rfl, hI3, hs3⟩
            have HF : Hid (VgAt B b ps G vis l st1 lvl us0 w1.heap.size (.slice (some ad) us0.length cq) w (.int .i64 ((k + 1 : Nat) : Int)) w3) := by
              refine Lib.hid ⟨k + 1, by omega, rfl, HB2.out, hI3, HSK.out.trans hs3, owns_kept3 HPQ.out fun c hc => hs3.block c (HPQ.out.lt hc).2 fun hm => ?_⟩
              have h1 := (HPQ.out.lt hc).1
              obtain ⟨_, G', _, hgg⟩ := HVS.out
              rcases hm with rfl | rfl | hm
              · omega
              · omega
              · exact HPQ.out.not_inG hgg c hc hm
            clear hI3 hs3
            go_wp2_with fail
            go_roundw
            case rel => simpa using HF.out
            case measure => simp [intOf]; omega
          | false =>
            have hfin := Hfalse.out (k + 1) hb2
            rw [hb2] at hct
            have HC := Lib.hid hct
            have HF := Lib.hid hfin
            have HB2 := Lib.hid hb2
            clear hxk hcl hq hu hpx hvq hs hokx hct hb2 hf hvs hsk hpq hfin hB hbl'
            go_wp2_with fail
            refine HC.out.mono ?_
            rintro e w3 ⟨rfl, hI3, hs3⟩
            have HFF : Hid (VS B b ps G vis (visitL sizeStep st1 (lvl + 1) (l.take (k + 1))).2 w3 ∧ Saves (VM b ps) w w3) := Lib.hid ⟨hI3, HSK.out.trans hs3⟩
            clear hI3 hs3
            go_wp2_with fail
            go_ret
            rw [HF.out, HB2.out]
            exact ⟨rfl, HFF.out⟩
        · have hll2 : l.take k = l := List.take_of_length_le (by omega)
          rw [hll2] at hvs hf
          have hge : ¬ (k : Int) < (us0.length : Int) := by have := HQL.out; omega
          have HFF : Hid ((visitL sizeStep st1 (lvl + 1) l).1 = true ∧ VS B b ps G vis (visitL sizeStep st1 (lvl + 1) l).2 wr ∧ Saves (VM b ps) w wr) := Lib.hid ⟨hf, hvs, hsk⟩
          clear hll2 hvs hf hsk hpq
          go_wp2_with fail
          go_ret
          rw [HFF.out.1]
          exact ⟨rfl, HFF.out.2⟩
theorem sizeG_results {tmps : Array Value} {w : World} {a b : Nat} {x y : Int} (h2 : tmps.getD 6 undef = .pointer (some ⟨a, 0, none⟩)) (h3 : tmps.getD 7 undef = .pointer (some ⟨b, 0, none⟩))
    (ha : Blk w a 3 #[.int .i64 x]) (hb : Blk w b 3 #[.int .i64 y]) : (results Tryd.f64 tmps).run Tryd.prog w = .ok (.tuple #[.int .i64 x, .int .i64 y]) w := by
  have h4 := ha.cell 0
  have h5 := hb.cell 0
  simp at h4 h5
  have h2' : tmps[6]?.getD undef = .pointer (some ⟨a, 0, none⟩) := by simpa using h2
  have h3' : tmps[7]?.getD undef = .pointer (some ⟨b, 0, none⟩) := by simpa using h3
  simp [results, Tryd.results64, go_sem, h2', h3', h4, h5]

/-- What Size answers of a guess. -/
def SzPost (ps : List Nat) (G : Gr) (vis : Nat → Int) (s : S) (w : World) (e : Ending) (w' : World) : Prop :=
  ∃ z : Int, e = .returned (.tuple #[.int .i64 (s.sizes.1 : Int), .int .i64 z]) ∧ (∃ G', Alike G G' ∧ Gs w' ps G' vis) ∧ Saves (· ∈ ps) w w'
set_option maxRecDepth 100000 in
set_option maxHeartbeats 800000 in
theorem nestSizeG_any (ps : List Nat) (G : Gr) (vis : Nat → Int) (v : Nat → D) (hG : Good G) (hv : Can G v) (hlen : G.length ≤ 1000000) (s : S) (x p : Nat) (w : World) (hgs : Gs w ps G vis) (hx : ps[x]? = some p) (hvx : v x = s.emb) :
    Calls Tryd.prog 64 #[pv p, .func (.func 59) #[] #[], .int .i64 60] w (SzPost ps G vis s w) := by
  have hvz := visit_size s (0, 0) 1
  have hw3 : Below w.heap.size w (((w.alloc (.cells #[.int .i64 60] 3)).alloc (.cells #[.int .i64 0] 3)).alloc (.cells #[.int .i64 0] 3)) :=
    (((Below.refl _ _).alloc (Nat.le_refl _) _).alloc (by simp) _).alloc (by simp; omega) _
  have h2 : Two w.heap.size w.heap.size (0, 0) (((w.alloc (.cells #[.int .i64 60] 3)).alloc (.cells #[.int .i64 0] 3)).alloc (.cells #[.int .i64 0] 3)) :=
    ⟨Nat.le_refl _, ((Blk.new w 3 #[.int .i64 60]).alloc _).alloc _,
      (by simpa using (Blk.new (w.alloc (.cells #[.int .i64 60] 3)) 3 #[.int .i64 0]).alloc _),
      (by simpa using Blk.new ((w.alloc (.cells #[.int .i64 60] 3)).alloc (.cells #[.int .i64 0] 3)) 3 #[.int .i64 0])⟩
  have hbp : w.heap.size ∉ ps ∧ w.heap.size + 1 ∉ ps ∧ w.heap.size + 2 ∉ ps := ⟨fun h => by have := hgs.lt h; omega, fun h => by have := hgs.lt h; omega, fun h => by have := hgs.lt h; omega⟩
  have hct := visitG_any ps G vis v hv hlen w.heap.size w.heap.size hbp s.count s x p 1 _ (0, 0) (Nat.le_refl _) (by simp) ⟨h2, G, .refl hG, hgs.below hw3⟩ hx hvx
  have hsv : ∀ w', Saves (VM w.heap.size ps) (((w.alloc (.cells #[.int .i64 60] 3)).alloc (.cells #[.int .i64 0] 3)).alloc (.cells #[.int .i64 0] 3)) w' → Saves (· ∈ ps) w w' := fun w' h =>
    ⟨h.os, h.tape, h.output, by have := h.size; simp at this; omega, fun k hk hn => (h.block k (by simp; omega) (fun e => by rcases e with rfl | rfl | e; (· omega); (· omega); exact hn e)).trans (hw3.block k hk)⟩
  have HSV := Lib.hid hsv
  have HNP := Lib.hid hbp
  by_cases h60 : s.count ≤ 60
  · have hv1 : (visit sizeStep (0, 0) 1 s).1 = true := by rw [hvz.1]; simpa using h60
    have hv2 := hvz.2 hv1
    rw [hv1, hv2] at hct
    have HS : Hid (s.sizes = (s.count, s.deep)) := Lib.hid (by simp [S.sizes, h60])
    have HC := Lib.hid hct
    clear hct hv2 hv1 hvz h2 hgs hx hvx hsv hbp
    go_enter Tryd.func64, Tryd.ntmps64
    go_wp2_with fail
    refine HC.out.mono ?_
    rintro e w1 ⟨rfl, ⟨⟨_, _, hk1, hk2⟩, G', ha, hg⟩, hs1⟩
    have hc1 := hk1.cell 0
    have hc2 := hk2.cell 0
    have hf1 := hk1.frozen 0
    have hf2 := hk2.frozen 0
    have HG := Lib.hid hg
    have HA := Lib.hid ha
    have HS1 := Lib.hid (HSV.out w1 hs1)
    clear hg ha hs1
    go_wp2_with fail
    go_region
    go_wp2
    refine bodyPost_ret (sizeG_results rfl rfl (((hk1.set_ 0 _).far (p := ⟨w.heap.size + 2, 0, none⟩) (by simp) _).drew) (((hk2.far (p := ⟨w.heap.size + 1, 0, none⟩) (by simp) _).set_ 0 _).drew)) rfl ⟨_, by rw [HS.out], ⟨G', HA.out, ?_⟩, ?_⟩
    · exact HG.out.keep fun c hc => (Below.heap_setCell _ ⟨w.heap.size + 2, 0, none⟩ _ c (by rintro rfl; exact HNP.out.2.2 hc)).trans (Below.heap_setCell _ ⟨w.heap.size + 1, 0, none⟩ _ c (by rintro rfl; exact HNP.out.2.1 hc))
    · exact ((HS1.out.setCell (.inr (by simp)) _).setCell (.inr (by simp; omega)) _).drew
  · have hv1 : (visit sizeStep (0, 0) 1 s).1 = false := by rw [hvz.1]; simpa using h60
    rw [hv1] at hct
    have HS : Hid (s.sizes = (61, 0)) := Lib.hid (by simp [S.sizes, h60])
    have HC := Lib.hid hct
    clear hct hv1 hvz h2 hgs hx hvx hsv hbp
    go_enter Tryd.func64, Tryd.ntmps64
    go_wp2_with fail
    refine HC.out.mono ?_
    rintro e w1 ⟨rfl, ⟨⟨_, hk0, hk1, hk2⟩, G', ha, hg⟩, hs1⟩
    have hc0 := hk0.cell 0
    have hc1 := hk1.cell 0
    have hc2 := hk2.cell 0
    have hf1 := hk1.frozen 0
    have hf2 := hk2.frozen 0
    have HG := Lib.hid hg
    have HA := Lib.hid ha
    have HS1 := Lib.hid (HSV.out w1 hs1)
    clear hg ha hs1
    go_wp2_with fail
    refine bodyPost_ret (sizeG_results (x := 61) (y := 0) rfl rfl ((hk1.set_ 0 _).far (p := ⟨w.heap.size + 2, 0, none⟩) (by simp) _) ((hk2.far (p := ⟨w.heap.size + 1, 0, none⟩) (by simp) _).set_ 0 _)) rfl ⟨0, by rw [HS.out]; rfl, ⟨G', HA.out, ?_⟩, ?_⟩
    · exact HG.out.keep fun c hc => (Below.heap_setCell _ ⟨w.heap.size + 2, 0, none⟩ _ c (by rintro rfl; exact HNP.out.2.2 hc)).trans (Below.heap_setCell _ ⟨w.heap.size + 1, 0, none⟩ _ c (by rintro rfl; exact HNP.out.2.1 hc))
    · exact (HS1.out.setCell (.inr (by simp)) _).setCell (.inr (by simp; omega)) _
end Go.Proofs.YtkkfdiidneoelaaDoor
