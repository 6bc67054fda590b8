/-
  (*guess).args: a contract.
-/
import Derived.Test.YtkkfdiidneoelaaDoorIJoin
import Derived.Test.YtkkfdiidneoelaaDoorZs
namespace Go.Proofs.YtkkfdiidneoelaaDoor
open Go.RowKit

theorem pguess_info : (Tryd.prog.info? 76).map (fun i => (i.zero, i.size, i.bytes)) = some (some (.pointer none), 1, 8) := by kernel_rfl
abbrev pv (p : Nat) : Value := .pointer (some (at0 p))
/-- A slice of guesses, of an array of its own. -/
def Ps (B : Nat) (w : World) (us : List Nat) (v : Value) : Prop := w.ownsRow B 76 1 v us.length (us.map pv)
theorem Ps.nil (B : Nat) (w : World) : Ps B w [] (.slice none 0 0) := ⟨by simp, .inl ⟨rfl, rfl⟩⟩
theorem Ps.lt {B : Nat} {w : World} {l : List Nat} {v : Value} (h : Ps B w l v) {b : Nat} (hb : v.ownBlock = some b) : B ≤ b ∧ b < w.heap.size := World.ownsRow.lt h b hb
theorem Ps.keep {B : Nat} {w w' : World} {l : List Nat} {v : Value} (h : Ps B w l v) (hk : ∀ b, B ≤ b → b < w.heap.size → w'.heap[b]? = w.heap[b]?) : Ps B w' l v := owns_kept3 h (fun b hb => hk b (h.lt hb).1 (h.lt hb).2)
theorem Ps.below {B : Nat} {w w' : World} {l : List Nat} {v : Value} (h : Ps B w l v) (hb : Below w.heap.size w w') : Ps B w' l v := h.keep (fun b _ hl => hb.block b hl)
theorem Ps.less {B B' : Nat} {w : World} {l : List Nat} {v : Value} (h : Ps B w l v) (hb : B' ≤ B) : Ps B' w l v := owns_less h hb
theorem Ps.form {B : Nat} {w : World} {l : List Nat} {v : Value} (h : Ps B w l v) : ∃ A c, v = .slice A l.length c := by
  rcases h.2 with ⟨rfl, h0⟩ | ⟨g, cap, cur, rfl, _⟩
  · exact ⟨none, 0, by rw [h0]⟩
  · exact ⟨_, cap, rfl⟩
theorem Ps.cell {B : Nat} {w : World} {l : List Nat} {A : Option Addr} {n c : Nat} (h : Ps B w l (.slice A n c)) {j x : Nat} (hj : l[j]? = some x) : ∃ ad, A = some ad ∧ B ≤ ad.block ∧ ad.block < w.heap.size ∧ w.cell? (ad.add j) = some (pv x) := by
  rcases h.2 with ⟨_, h0⟩ | ⟨g, cap, cur, he, _⟩
  · have : l = [] := List.eq_nil_of_length_eq_zero h0
    subst this; simp at hj
  · injection he with e1 e2 e3
    subst e1
    have hg := h.lt (b := g) rfl
    exact ⟨_, rfl, hg.1, hg.2, World.ownsRow.cells h (g := g) rfl j _ (by simp [hj])⟩

/-- The blocks of some nodes. -/
def Nodes (ps qs us : List Nat) : Prop := us.length = qs.length ∧ ∀ i x : Nat, qs[i]? = some x → ∃ p, us[i]? = some p ∧ ps[x]? = some p
theorem Nodes.nil {ps : List Nat} : Nodes ps [] [] := ⟨rfl, fun i x h => by simp at h⟩
theorem Nodes.snoc {ps qs us : List Nat} {x p : Nat} (h : Nodes ps qs us) (hx : ps[x]? = some p) : Nodes ps (qs ++ [x]) (us ++ [p]) := by
  refine ⟨by simp [h.1], fun i y hi => ?_⟩
  rcases Nat.lt_or_ge i qs.length with hlt | hge
  · rw [List.getElem?_append_left hlt] at hi
    rw [List.getElem?_append_left (by rw [h.1]; exact hlt)]
    exact h.2 i y hi
  · rw [List.getElem?_append_right hge] at hi
    have h0 : i - qs.length = 0 := by
      have := (List.getElem?_eq_some_iff.1 hi).1
      simp at this; omega
    rw [h0] at hi
    simp at hi
    subst hi
    rw [List.getElem?_append_right (by rw [h.1]; exact hge), h.1, h0]
    exact ⟨p, by simp, hx⟩
theorem get_more {ps : List Nat} {x p : Nat} (h : ps[x]? = some p) (m : List Nat) : (ps ++ m)[x]? = some p := by rw [List.getElem?_append_left (List.getElem?_eq_some_iff.1 h).1]; exact h
theorem Nodes.more {ps qs us : List Nat} (h : Nodes ps qs us) (m : List Nat) : Nodes (ps ++ m) qs us := ⟨h.1, fun i x hi => by
  obtain ⟨p, h1, h2⟩ := h.2 i x hi
  exact ⟨p, h1, get_more h2 m⟩⟩

/-- So many different numbers below n are at most n. -/
theorem nodup_le : ∀ (n : Nat) (l : List Nat), l.Nodup → (∀ x ∈ l, x < n) → l.length ≤ n
  | 0, [], _, _ => Nat.le_refl _
  | 0, x :: r, _, h => absurd (h x (by simp)) (by omega)
  | n + 1, l, hd, h => by
    have h1 := nodup_le n (l.erase n) (hd.erase n) (fun x hx => by
      have h2 := List.mem_of_mem_erase hx
      have h3 := h x h2
      have h4 : x ≠ n := by
        rintro rfl
        exact (hd.not_mem_erase hx)
      omega)
    have h2 : l.length ≤ (l.erase n).length + 1 := by
      rw [List.length_erase]
      split <;> omega
    omega
theorem chain_nodes {G : Gr} {v : Nat → D} (hG : Good G) (hv : Can G v) : ∀ (ds : List D) (x : Nat), x < G.length → v x = chainD ds D.o →
    ∃ l : List Nat, l.length = ds.length ∧ l.Nodup ∧ ∀ r ∈ l, r < G.length ∧ ∃ es, v r = chainD es D.o ∧ es.length ≤ ds.length
  | [], _, _, _ => ⟨[], rfl, .nil, fun r h => by simp at h⟩
  | a :: t, x, hx, he => by
    obtain ⟨r, k, hk⟩ := hG.ends x hx
    have hr : v r = chainD (a :: t) D.o := (hv.sol.ends hk).symm.trans he
    obtain ⟨d, h1, h2⟩ := hk.at_
    obtain ⟨p, q, rfl, _, h4⟩ := hv.root_arr h1 h2 hr
    obtain ⟨l, g1, g2, g3⟩ := chain_nodes hG hv t q (hG.arrow r p q h1).2 h4
    refine ⟨r :: l, by simp [g1], List.nodup_cons.2 ⟨fun hm => ?_, g2⟩, fun s hs => ?_⟩
    · obtain ⟨_, es, e1, e2⟩ := g3 r hm
      have := chainD_len (hr.symm.trans e1)
      simp at this
      omega
    · rcases List.mem_cons.1 hs with rfl | hs
      · exact ⟨hk.lt.2, a :: t, hr, Nat.le_refl _⟩
      · obtain ⟨e0, es, e1, e2⟩ := g3 s hs
        exact ⟨e0, es, e1, by simp; omega⟩
theorem chain_le {G : Gr} {v : Nat → D} (hG : Good G) (hv : Can G v) {ds : List D} {x : Nat} (hx : x < G.length) (he : v x = chainD ds D.o) : ds.length ≤ G.length := by
  obtain ⟨l, h1, h2, h3⟩ := chain_nodes hG hv ds x hx he
  rw [← h1]
  exact nodup_le _ l h2 fun r hr => (h3 r hr).1

/-- What args answers: the nodes of the arguments. -/
def ArgsPost (ps : List Nat) (G : Gr) (vis : Nat → Int) (v : Nat → D) (ds : List D) (x : Nat) (w : World) (e : Ending) (w' : World) : Prop :=
  ∃ G' qs us val, e = .returned val ∧ Alike G G' ∧ Gs w' ps G' vis ∧ Turns ps w w' ∧ Nodes ps qs us ∧ Ps w.heap.size w' us val ∧ qs.map v = ds ∧ ∀ u, Sol G u → ∃ z, u x = chainD (qs.map u) z
/-- So far has args come: a root, and the arguments ahead of it. -/
def ArgsAt (ps : List Nat) (G : Gr) (vis : Nat → Int) (v : Nat → D) (ds : List D) (x : Nat) (w : World) (j : Nat) (g lv : Value) (wr : World) : Prop :=
  ∃ G' y p qs us rest d, g = pv p ∧ ps[y]? = some p ∧ G'[y]? = some d ∧ d.root = true ∧ Alike G G' ∧ Gs wr ps G' vis ∧ Turns ps w wr ∧ Nodes ps qs us ∧ Ps w.heap.size wr us lv ∧
    qs.map v ++ rest = ds ∧ rest.length = j ∧ v y = chainD rest D.o ∧ ∀ u, Sol G u → u x = chainD (qs.map u) (u y)

set_option maxRecDepth 100000 in
set_option maxHeartbeats 1600000 in
theorem args_any (ps : List Nat) (G : Gr) (vis : Nat → Int) (v : Nat → D) (ds : List D) (x p : Nat) (w : World) (hG : Good G) (hv : Can G v) (hlen : G.length ≤ 1000000) (hgs : Gs w ps G vis) (hx : ps[x]? = some p) (hd : v x = chainD ds D.o) :
    Calls Tryd.prog 59 #[pv p] w (ArgsPost ps G vis v ds x w) := by
  obtain ⟨i0, hi0, hz0, hz1, hz2⟩ := info_parts pguess_info
  have hxl : x < G.length := by have := hgs.len; have := (List.getElem?_eq_some_iff.1 hx).1; omega
  have hdl : ds.length ≤ 1000000 := Nat.le_trans (chain_le hG hv hxl hd) hlen
  have hold : ∀ b ∈ ps, b < w.heap.size := fun b hb => hgs.lt hb
  obtain ⟨r, k, he⟩ := hG.ends x hxl
  have HC := Lib.hid (last_any ps G vis x p r k w hG hgs hx he)
  have HE := Lib.hid he
  have HV := Lib.hid hv
  have HG := Lib.hid hG
  have HD := Lib.hid hd
  have HL := Lib.hid hdl
  have HZ1 := Lib.hid hz1
  have HZ2 := Lib.hid hz2
  clear hG hv hlen hgs hx hd he hdl hz1 hz2
  go_enter Tryd.func59, Tryd.ntmps59
  go_wp2_with fail
  refine HC.out.mono ?_
  rintro e w1 ⟨G1, p1, hp1, rfl, ha1, hg1, ht1⟩
  have H0 : Hid (ArgsAt ps G vis v ds x w ds.length (pv p1) (.slice none 0 0) w1) := by
    obtain ⟨d, h1, h2⟩ := HE.out.at_
    exact Lib.hid ⟨G1, r, p1, [], [], ds, d, rfl, hp1, ha1.stays r d h1 h2, h2, ha1, hg1, ht1, .nil, Ps.nil _ _, rfl, rfl, (HV.out.sol.ends HE.out).symm.trans HD.out, fun u hu => hu.ends HE.out⟩
  clear hp1 ha1 hg1 ht1
  go_wp2_with fail
  go_loopg [0, 3] ds.length (fun j g lv wr => ArgsAt ps G vis v ds x w j g lv wr)
  case atStart => exact H0.out
  case round =>
    obtain ⟨G', y, p', qs, us, rest, d, rfl, hy, hd, hr, ha, hg, ht, hn, hps, hsum, hrest, hvy, hu⟩ := hrel
    have hzr := ht.sav.size
    obtain ⟨sm, kd, fr, to_, hb, hl⟩ := hg.at_ _ _ _ hy hd
    have hv' := HV.out.alike ha
    cases rest with
    | nil =>
      have hdd := hv'.root_o hd hr hvy
      have hk : ¬ kd = 2 := by
        rcases hdd with rfl | rfl
        · rw [hl.2]; decide
        · rw [hl.2]; decide
      have hc1 := hb.cell 1
      simp at hc1
      have HF : Hid (ArgsPost ps G vis v ds x w (.returned u3) wr) := Lib.hid ⟨G', qs, us, u3, rfl, ha, hg, ht, hn, hps, by simpa using hsum, fun u h => ⟨_, hu u h⟩⟩
      clear hy hd hr ha hg ht hn hps hsum hrest hvy hu hb hl hv' hdd
      go_wp2_with fail
      go_ret
      exact HF.out
    | cons a t =>
      obtain ⟨a', b', rfl, hva, hvb⟩ := hv'.root_arr hd hr hvy
      obtain ⟨rfl, rfl, ⟨pa, hpa, rfl⟩, pb, hpb, rfl⟩ := hl
      have hc1 := hb.cell 1
      have hc2 := hb.cell 2
      simp at hc1 hc2
      have hbl := (ha.good.arrow y a' b' hd).2
      obtain ⟨s, l, hs⟩ := ha.good.ends b' hbl
      have hus : us.length + t.length + 1 = ds.length := by
        rw [← hsum, hn.1]
        simp
        omega
      have hcap : us.length + 1 ≤ 1000000 := by have := HL.out; omega
      have hvl : ∀ b, u3.ownBlock = some b → w.heap.size ≤ b ∧ b < wr.heap.size := fun b hb => hps.lt hb
      have hown1 : wr.ownsRow w.heap.size 76 1 u3 us.length (us.map pv) := hps
      have HR : Hid ((∀ u, Sol G u → u x = chainD ((qs ++ [a']).map u) (u b')) ∧ (qs ++ [a']).map v ++ t = ds ∧ Nodes ps (qs ++ [a']) (us ++ [pa]) ∧ t.length + 1 = gk ∧ v b' = chainD t D.o ∧ Alike G G' ∧ Ends G' b' s l ∧ ps[b']? = some pb ∧ Turns ps w wr) := by
        refine Lib.hid ⟨fun u h => ?_, by rw [← hsum, ← hva]; simp, hn.snoc hpa, hrest, hvb, ha, hs, hpb, ht⟩
        have h2 : u y = D.arr (u a') (u b') := ((ha.sol u).2 h) y _ hd
        rw [hu u h, h2, List.map_append, chainD_append]
        rfl
      have HN := Lib.hid hus
      have HY := Lib.hid hy
      clear hy hd hr ha ht hn hps hsum hrest hvy hu hv' hpa hpb hs hva hvb hus hbl
      have HGS := Lib.hid hg
      have HB := Lib.hid hb
      clear hg hb
      have hB2 : Below w.heap.size wr (wr.alloc (.cells #[pv pa] 76)) := (Below.refl _ _).alloc hzr _
      have HB2 := Lib.hid hB2
      clear hB2
      have HPP := Lib.hid (List.mem_of_getElem? HY.out)
      go_wp2_with
        (at_builtin
         refine wpList_append_lies _ rfl _ _ _ rfl w.heap.size 76 i0 _ 1 8 Tryd.underlying73 hi0 hz0 HZ1.out HZ2.out rfl (by omega) u3 _ (us.map pv) (by rfl) (hown1.alloc _)
           ⟨wr.heap.size, 0, none⟩ 1 1 [pv pa] (by rfl) (by rfl) (World.news_of_block (cs := #[pv pa]) (t := 76) (fr := (0, 0)) (heap_alloc_new wr _)) (fun u hu => by rw [List.mem_singleton.1 hu]; rfl) (by omega) (by simp only [maxLen]; omega) (by omega) (by simp; omega) (wr.heap.size + 1) (by simp) ?_
         intro gg cap2 w3 hown3 hgrow hat3 hlt3
         have HB3 := Lib.hid (HB2.out.grown hgrow (by simp; omega) (fun b hb => (hvl b hb).1))
         have hbk3 : Blk w3 p' 116 (gcells none 2 (some (at0 pa)) (some (at0 pb)) (vis y)) := (HB3.out.block p' (hold p' HPP.out)).trans HB.out
         have hc3 := hbk3.cell 3
         simp at hc3
         clear hbk3 hgrow hat3 hlt3
         have hown4 := Lib.hid hown3
         clear hown3)
      refine (last_any ps G' vis b' pb s l w3 (HR.out.2.2.2.2.2.1.good) (HGS.out.bel HB3.out hold) HR.out.2.2.2.2.2.2.2.1 HR.out.2.2.2.2.2.2.1).mono ?_
      rintro e w4 ⟨G4, p4, hp4, rfl, ha4, hg4, ht4⟩
      have HT : Hid (ArgsAt ps G vis v ds x w t.length (pv p4) (.slice (some ⟨gg, 0, none⟩) (us.length + 1) cap2) w4) := by
        obtain ⟨h1, h2, h3, h4, h5, h6, h7, h8, h9⟩ := HR.out
        obtain ⟨d, e1, e2⟩ := h7.at_
        have o4 : Ps w.heap.size w4 (us ++ [pa]) (.slice (some ⟨gg, 0, none⟩) (us.length + 1) cap2) := by
          have o3 : Ps w.heap.size w3 (us ++ [pa]) (.slice (some ⟨gg, 0, none⟩) (us.length + 1) cap2) := by
            unfold Ps
            rw [List.map_append, List.length_append]
            exact hown4.out
          exact o3.keep fun b hb1 hb2 => ht4.sav.block b hb2 (fun hm => by have := hold b hm; omega)
        exact Lib.hid ⟨G4, s, p4, qs ++ [a'], us ++ [pa], t, d, rfl, hp4, ha4.stays s d e1 e2, e2, h6.trans ha4, hg4, (h9.bel HB3.out hold).trans ht4, h3, o4, h2, rfl, ((HV.out.alike h6).sol.ends h7).symm.trans h5,
          fun u hu => (h1 u hu).trans (by rw [((h6.sol u).2 hu).ends h7])⟩
      have HK : Hid (t.length < gk) := Lib.hid (by have := HR.out.2.2.2.1; omega)
      clear hp4 ha4 hg4 ht4
      go_wp2_with fail
      go_roundg t.length
      case measure => exact HK.out
      case rel => exact HT.out
end Go.Proofs.YtkkfdiidneoelaaDoor
