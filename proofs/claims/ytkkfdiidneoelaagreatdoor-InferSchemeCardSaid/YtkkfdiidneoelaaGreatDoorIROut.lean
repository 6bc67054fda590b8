/-
  The reference's nodes and out: contracts.
-/
import Derived.Test.YtkkfdiidneoelaaGreatDoorIRAdd
import Derived.Test.YtkkfdiidneoelaaGreatDoorGR
import Derived.Deep.RegionLaw
namespace Go.Proofs.YtkkfdiidneoelaaGreatDoor
open Go.RowKit

theorem Can.at_ends {G : Gr} {v : Nat → D} (hv : Can G v) {x r k : Nat} {d : D} (he : Ends G x r k) (h : v x = d) : v r = d := (hv.sol.ends he).symm.trans h
/-- The nodes of a sort, as far as they are counted. -/
def NodR (s : S) (m : Nat) (w : World) (e : Ending) (w' : World) : Prop := e = .returned (.int .i64 ((min s.count (m + 1) : Nat) : Int)) ∧ w = w'
/-- So far has the count come. -/
def NodAt (G : Gr) (v : Nat → D) (s : S) (m : Nat) (w : World) (j : Nat) (n k : Value) (wr : World) : Prop :=
  ∃ (y kk : Nat) (r : List S) (d : Nd), n = .int .i64 (y : Int) ∧ k = .int .i64 (kk : Int) ∧ r.length = j ∧ G[y]? = some d ∧ d.root = true ∧ v y = (S.mk r).emb ∧ 1 ≤ kk ∧ kk ≤ m + 1 ∧ kk + S.countL r ≤ s.count ∧ (m < kk ∨ kk + S.countL r = s.count) ∧ w = wr
theorem S.emb_nil : (S.mk []).emb = D.o := by simp [S.emb, S.embL]
theorem S.emb_cons (x : S) (r : List S) : (S.mk (x :: r)).emb = D.arr x.emb (S.mk r).emb := by simp only [S.emb, S.embL]
set_option maxRecDepth 100000 in
set_option maxHeartbeats 1600000 in
theorem nodesR_any (p : Nat) (G : Gr) (v : Nat → D) (gv : Value) (hG : Good G) (hv : Can G v) (K : Nat) : ∀ (s : S) (x m : Nat) (xi mi : Int) (w : World), s.count ≤ K → m ≤ 60 → RG p w G gv → x < G.length → xi = (x : Int) → mi = (m : Int) → v x = s.emb →
    Calls Tryz.prog 76 #[.pointer (some (at0 p)), .int .i64 xi, .int .i64 mi] w (NodR s m w) := by
  induction K with
  | zero => intro s; have := s.count_pos; omega
  | succ K ih =>
    intro s x m xi mi w hK hm hg hx hxi hmi hvx
    subst hxi hmi
    obtain ⟨l⟩ := s
    obtain ⟨r0, k0, he⟩ := hG.ends x hx
    obtain ⟨d0, hd0, hdr0⟩ := he.at_
    have HC := Lib.hid (endR_any p G gv x r0 k0 _ w rfl hg he)
    have HEND := Lib.hid (fun (y : Nat) (hy : y < G.length) => hG.ends y hy)
    obtain ⟨gr, c, rfl, hgp, hgl, _⟩ := hg.cell hd0
    have c0 := hg.box.cell 0
    simp at c0
    have H0 : Hid (NodAt G v (.mk l) m w l.length (.int .i64 (r0 : Int)) (.int .i64 1) w) :=
      Lib.hid ⟨r0, 1, l, d0, rfl, rfl, rfl, hd0, hdr0, hv.at_ends he hvx, Nat.le_refl _, by omega, by simp [S.count], .inr (by simp [S.count]), rfl⟩
    have HIH := Lib.hid ih
    have HV := Lib.hid hv
    have HG := Lib.hid hG
    have HGS := Lib.hid hg
    have HK := Lib.hid hK
    clear ih hg hd0 hdr0 he hvx hK
    go_enter Tryz.func76, Tryz.ntmps76
    go_wp2_with fail
    refine HC.out.mono ?_
    rintro e w1 ⟨rfl, rfl⟩
    go_wp2_with fail
    go_loopg [1, 7] l.length (fun j n k wr => NodAt G v (.mk l) m w j n k wr)
    case atStart => exact H0.out
    case round =>
      clear H0
      obtain ⟨y, kk, r, d, rfl, rfl, hrl, hd, hdr, hvy, hk1, hk2, hk3, hk4, rfl⟩ := hrel
      obtain ⟨k10, k11, k12⟩ := HGS.out.cells hd
      have hyl := (List.getElem?_eq_some_iff.1 hd).1
      cases r with
      | nil =>
        rw [S.emb_nil] at hvy
        have hkd : (((d.kd : Nat) : Int) == 2) = false := by
          rcases HV.out.root_o hd hdr hvy with rfl | rfl
          · rfl
          · rfl
        have HF : Hid (NodR (.mk l) m w (.returned (.int .i64 (kk : Int))) w) := by
          refine Lib.hid ⟨?_, rfl⟩
          simp only [S.countL] at hk3 hk4
          congr 3
          omega
        clear hrl hd hdr hvy hk3 hk4
        go_wp2_with fail
        go_ret
        exact HF.out
      | cons a t =>
        rw [S.emb_cons] at hvy
        obtain ⟨na, nb, rfl, hva, hvb⟩ := HV.out.root_arr hd hdr hvy
        have hab := HG.out.arrow y na nb hd
        simp only [Nd.kd, Nd.fa, Nd.fb] at k10 k11 k12
        simp only [S.countL] at hk3 hk4
        have hac := a.count_pos
        by_cases hkm : kk ≤ m
        · obtain ⟨rb, kb, heb⟩ := HEND.out nb hab.2
          obtain ⟨db, hdb, hdbr⟩ := heb.at_
          have g : (kk : Int) ≤ (m : Int) := by omega
          have hcnt : (S.mk l).count = kk + (a.count + S.countL t) := by omega
          have HCA := Lib.hid (HIH.out a na (m - kk) (na : Int) ((m : Int) - (kk : Int)) w (by have := HK.out; omega) (by omega) HGS.out hab.1 rfl (by omega) hva)
          have HCE := Lib.hid (endR_any p G _ nb rb kb _ w rfl HGS.out heb)
          have HF : Hid (∀ z : Nat, z = min a.count (m - kk + 1) → NodAt G v (.mk l) m w t.length (.int .i64 (rb : Int)) (.int .i64 ((kk + z : Nat) : Int)) w) := by
            refine Lib.hid fun z hz => ⟨rb, kk + z, t, db, rfl, rfl, rfl, hdb, hdbr, HV.out.at_ends heb hvb, by omega, by omega, by omega, ?_, rfl⟩
            omega
          have HJ : Hid (t.length < gk) := Lib.hid (by simp at hrl; omega)
          have hz60 : min a.count (m - kk + 1) ≤ 61 := by omega
          generalize hzz : min a.count (m - kk + 1) = z at *
          have HZ := Lib.hid hzz
          have hke : (kk : Int) + (z : Int) = ((kk + z : Nat) : Int) := by omega
          clear hrl hd hdr hvy hva hvb hab hk3 hk4 hcnt heb hdb hdbr hzz hac hke
          go_wp2_with fail
          refine HCA.out.mono ?_
          unfold NodR
          rw [HZ.out]
          rintro e w3 ⟨rfl, rfl⟩
          go_wp2_with fail
          refine HCE.out.mono ?_
          rintro e w4 ⟨rfl, rfl⟩
          have HR := Lib.hid (HF.out z rfl)
          go_wp2_with fail
          go_roundg t.length
          case measure => exact HJ.out
          case rel => simpa using HR.out
        · have g : ¬ (kk : Int) ≤ (m : Int) := by omega
          have HF : Hid (NodR (.mk l) m w (.returned (.int .i64 (kk : Int))) w) := by
            refine Lib.hid ⟨?_, rfl⟩
            congr 3
            omega
          clear hrl hd hdr hvy hva hvb hab hk3 hk4 hac
          go_wp2_with fail
          go_ret
          exact HF.out

/-- What out answers: the sort, in blocks of its own. -/
def OutPost (s : S) (w : World) (e : Ending) (w' : World) : Prop :=
  ∃ v fp, e = .returned (.agg #[v]) ∧ s.Sep w' v fp ∧ fp.Nodup ∧ (∀ b ∈ fp, w.heap.size ≤ b ∧ b < w'.heap.size) ∧ Below w.heap.size w w'
theorem outR_results {tmps : Array Value} {w : World} {a : Nat} {x : Value} (h2 : tmps.getD 4 undef = .pointer (some ⟨a, 0, none⟩))
    (ha : Blk w a 50 #[x]) : (results Tryz.f77 tmps).run Tryz.prog w = .ok (.agg #[x]) w := by
  have h4 := ha.cell 0
  simp at h4
  have h2' : tmps[4]?.getD undef = .pointer (some ⟨a, 0, none⟩) := by simpa using h2
  simp [results, Tryz.results77, go_sem, h2', h4]
def OutAt (G : Gr) (v : Nat → D) (l : List S) (w : World) (j : Nat) (n : Value) (wr : World) : Prop :=
  ∃ (k y : Nat) (cv : Value) (us : List Value) (fp : List Nat) (d : Nd), k + j = l.length ∧ n = .int .i64 (y : Int) ∧ RoundW l [] w k cv us fp wr ∧ G[y]? = some d ∧ d.root = true ∧ v y = (S.mk (l.drop k)).emb
theorem RoundW.bel {l : List S} {w wr : World} {k : Nat} {cv : Value} {us : List Value} {fp : List Nat} (h : RoundW l [] w k cv us fp wr) : Below w.heap.size w wr := h.sav.below (Nat.le_refl _) (fun _ _ hm => by simp at hm)
set_option maxRecDepth 100000 in
set_option maxHeartbeats 3200000 in
theorem outR_any (p : Nat) (G : Gr) (v : Nat → D) (gv : Value) (hG : Good G) (hv : Can G v) (hlen : G.length ≤ 1000000) (K : Nat) : ∀ (s : S) (x : Nat) (xi : Int) (w : World), s.count ≤ K → RG p w G gv → x < G.length → xi = (x : Int) → v x = s.emb →
    Calls Tryz.prog 77 #[.pointer (some (at0 p)), .int .i64 xi] w (OutPost s w) := by
  induction K with
  | zero => intro s; have := s.count_pos; omega
  | succ K ih =>
    intro s x xi w hK hg hx hxi hvx
    subst hxi
    obtain ⟨i0, hi0, hz0, hz1, hz2⟩ := info_parts sort_info
    obtain ⟨l⟩ := s
    obtain ⟨r0, k0, he⟩ := hG.ends x hx
    obtain ⟨d0, hd0, hdr0⟩ := he.at_
    have hll : l.length ≤ 1000000 := by
      have hvx' : v x = chainD (l.map S.emb) D.o := by rw [hvx, emb_chain]
      have := chain_le hG hv hx hvx'
      simp at this; omega
    have hst := RoundW.start l [] w
    have HEND := Lib.hid (fun (W : World) (h : RG p W G gv) (y r k : Nat) (he : Ends G y r k) => endR_any p G gv y r k (y : Int) W rfl h he)
    have HENS := Lib.hid (fun (y : Nat) (hy : y < G.length) => hG.ends y hy)
    have HC := Lib.hid (HEND.out _ (hg.below hst.bel) x r0 k0 he)
    obtain ⟨gr, c, rfl, hgp, hgl, _⟩ := hg.cell hd0
    have HST := Lib.hid hst
    have H0 : Hid (OutAt G v l w l.length (.int .i64 (r0 : Int)) _) := Lib.hid ⟨0, r0, _, [], [], d0, by omega, rfl, hst, hd0, hdr0, by rw [List.drop_zero]; exact hv.at_ends he hvx⟩
    have HIH := Lib.hid ih
    have HV := Lib.hid hv
    have HG := Lib.hid hG
    have HGS := Lib.hid hg
    have HK := Lib.hid hK
    have HZ1 := Lib.hid hz1
    have HZ2 := Lib.hid hz2
    clear ih hg hd0 hdr0 he hvx hK hst hz1 hz2
    go_enter Tryz.func77, Tryz.ntmps77
    go_wp2_with fail
    refine HC.out.mono ?_
    rintro e w1 ⟨rfl, rfl⟩
    go_wp2_with fail
    go_loopg [1] l.length (fun j n wr => OutAt G v l w j n wr)
    case atStart => exact H0.out
    case round =>
      clear H0
      obtain ⟨k, y, cv, us, fp, d, hkj, rfl, hr, hd, hdr, hvy⟩ := hrel
      have hsz := hr.sav.size
      have hsz1 := hr.blk.lt
      have hgr := HGS.out.below hr.bel
      obtain ⟨k10, k11, k12⟩ := hgr.cells hd
      have kb := hgr.box.cell 0
      simp at kb
      have hyl := (List.getElem?_eq_some_iff.1 hd).1
      by_cases hlt : k < l.length
      · have hxk : l[k]? = some l[k] := List.getElem?_eq_getElem hlt
        have hcl := S.count_lt hxk
        rw [List.drop_eq_getElem_cons hlt, S.emb_cons] at hvy
        obtain ⟨na, nb, rfl, hva, hvb⟩ := HV.out.root_arr hd hdr hvy
        have hab := HG.out.arrow y na nb hd
        obtain ⟨rb, kb2, heb⟩ := HENS.out nb hab.2
        obtain ⟨db, hdb, hdbr⟩ := heb.at_
        simp only [Nd.kd, Nd.fa, Nd.fb] at k10 k11 k12
        have hcc := hr.blk.cell 0
        simp at hcc
        have HC2 := Lib.hid (HIH.out l[k] na (na : Int) wr.drew (by have := HK.out; omega) hgr.drew hab.1 rfl hva)
        have HX := Lib.hid hxk
        have HR := Lib.hid hr
        have HN : Hid (Ends G nb rb kb2 ∧ G[rb]? = some db ∧ db.root = true ∧ v rb = (S.mk (l.drop (k + 1))).emb ∧ G[y]? = some (.arrow na nb)) := Lib.hid ⟨heb, hdb, hdbr, HV.out.at_ends heb hvb, hd⟩
        have HKJ : Hid (k + gk = l.length) := Lib.hid hkj
        generalize l[k] = sx at *
        clear hxk hcl hvy hva hvb hab heb hdb hdbr hr hgr hd hdr hkj
        go_wp2_with fail
        go_region_law
          (first
            | (refine step_append_lies _ (by rfl) _ _ _ (by rfl) (w.heap.size + 2) 50 i0 _ 1 24 Tryz.underlying48 hi0 hz0 HZ1.out HZ2.out rfl (by omega) cv k us (by rfl) (by exact (hown1.alloc _))
                ⟨w3.heap.size, 0, none⟩ 1 1 [v1] (by rfl) (by rfl) (by exact World.news_of_block (cs := #[v1]) (t := 50) (fr := (0, 0)) (heap_alloc_new w3 _)) (by exact fun u hu => by rw [List.mem_singleton.1 hu]; exact hone) (by omega) (by simp only [maxLen]; omega) (by omega) (by simp; omega) (w3.heap.size + 1) (by simp) ?_; intro gg cap w4 hown2 hgrow hat hlt2
               have hblk2 : Blk w4 (w.heap.size + 1) 50 #[cv] := (hgrow.block _ (by simp; omega) (fun e => by have := (HR.out.own.lt _ e.symm).1; omega)).trans (hblk1.alloc _)
               have r1 := hblk2.cell 0
               have r3 := hblk2.frozen 0
               simp at r1)
            | (go_simp; go_at_call 77; refine HC2.out.mono ?_; rintro e w3 ⟨v1, fp1, rfl, hsep1, hnod1, hrng1, hb3⟩
               have hone : v1.oneCell' = true := by obtain ⟨A1, n1, c1, rfl⟩ := hsep1.form; rfl
               have hs1' : Saves (· ∈ ([] : List Nat)) wr w3 := ⟨hb3.os, hb3.tape, hb3.output, hb3.size, fun b hb _ => hb3.block b hb⟩
               have hwz : wr.heap.size ≤ w3.heap.size := hs1'.size
               have hown1 : w3.ownsRow (w.heap.size + 2) 50 1 cv k us := owns_kept HR.out.own (fun b hb => hs1'.block b (HR.out.own.lt b hb).2 (by simp))
               have hblk1 : Blk w3 (w.heap.size + 1) 50 #[cv] := HR.out.blk.saves hs1' (by simp)
               have q1 := hblk1.cell 0
               have q3 : (w3.alloc (.cells #[v1] 50)).cell? ⟨w.heap.size + 1, 0, none⟩ = some cv := (hblk1.alloc _).cell 0
               simp at q1))
        all_goals
          have hnx := HR.out.next (by simp) HX.out hsep1 hnod1 (fun b hb => hrng1 b hb) hs1' hown2 hgrow hat
          have hg5 := HGS.out.below hnx.bel
          obtain ⟨m10, m11, m12⟩ := hg5.cells HN.out.2.2.2.2
          have mb := hg5.box.cell 0
          simp at mb
          simp only [Nd.fb] at m12
          have HE := Lib.hid (HEND.out _ hg5 nb rb kb2 HN.out.1)
          have HF : Hid (OutAt G v l w (l.length - (k + 1)) (.int .i64 (rb : Int)) (w4.setCell ⟨w.heap.size + 1, 0, none⟩ (.slice (some ⟨gg, 0, none⟩) (k + 1) cap))) :=
            Lib.hid ⟨k + 1, rb, _, _, _, db, by omega, rfl, hnx, HN.out.2.1, HN.out.2.2.1, HN.out.2.2.2.1⟩
          clear hnx hg5 hsep1 hnod1 hrng1 hs1' hb3 hown2 hgrow hat hown1 hblk1 hblk2 m10 m11 kb k10 k11 k12 hcc
          go_wp2_with fail
          refine HE.out.mono ?_
          rintro e w6 ⟨rfl, rfl⟩
          go_wp2_with fail
          go_roundg (l.length - (k + 1))
          case measure => have := HKJ.out; omega
          case rel => simpa using HF.out
      · have hkl : k = l.length := by omega
        have hvy0 : v y = D.o := by rw [hvy, hkl, List.drop_length]; exact S.emb_nil
        have hkd : (((d.kd : Nat) : Int) == 2) = false := by
          rcases HV.out.root_o hd hdr hvy0 with rfl | rfl
          · rfl
          · rfl
        obtain ⟨A3, n3, c3, rfl⟩ := own_form hr.own
        have hc0 := hr.blk.cell 0
        have hr0 := hr.res.cell 0
        have hrf := hr.res.frozen 0
        have HKL := Lib.hid hkl
        have HR := Lib.hid hr
        simp at hc0 hr0
        have hres := hr.res
        clear hkl hr hgr hd hdr hvy hvy0 hkj
        go_wp2_with fail
        refine bodyPost_ret (outR_results rfl (hres.set_ 0 _)) rfl ?_
        have hr := HR.out
        rw [HKL.out] at hr
        obtain ⟨g1, g2, g3, g4⟩ := hr.done (.slice A3 n3 c3)
        exact ⟨_, _, rfl, g1, g2, g3, g4.below (Nat.le_refl _) (fun _ _ hm => by simp at hm)⟩
end Go.Proofs.YtkkfdiidneoelaaGreatDoor
