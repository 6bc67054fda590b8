/-
  infer.Sorts: a contract.
-/
import Derived.Test.YtkkfdiidneoelaaDoorISettle
import Derived.Test.YtkkfdiidneoelaaDoorISolveB
namespace Go.Proofs.YtkkfdiidneoelaaDoor
open Go.RowKit

/-- What is answered of the smallest assignment, or where there is none. -/
def ansE : Option (List S) → Int
  | none => 6
  | some a => if a.all S.ok = true then 0 else 3
/-- The error and the sorts that are asked for. -/
def Ans (syms : List Sy) (l : List Lz) (E : Int) (lst : List S) : Prop :=
  (checkI syms l ≠ 0 ∧ E = checkI syms l ∧ lst = []) ∨
    (checkI syms l = 0 ∧ ∃ o, Solves (l.map Lz.lo) (ranksOf syms) o ∧ E = ansE o ∧ lst = if ansE o = 0 then o.getD [] else [])
theorem Ans.one {syms : List Sy} {l : List Lz} {E E' : Int} {a b : List S} (h : Ans syms l E a) (k : Ans syms l E' b) : E = E' ∧ a = b := by
  rcases h with ⟨h0, h1, h2⟩ | ⟨h0, o, h1, h2, h3⟩ <;> rcases k with ⟨k0, k1, k2⟩ | ⟨k0, p, k1, k2, k3⟩
  · exact ⟨h1.trans k1.symm, h2.trans k2.symm⟩
  · exact (h0 k0).elim
  · exact (k0 h0).elim
  · obtain rfl := h1.one k1
    exact ⟨h2.trans k2.symm, h3.trans k3.symm⟩
/-- What Sorts answers: sorts in blocks of their own. -/
def SortsPost (syms : List Sy) (l : List Lz) (w : World) (e : Ending) (w' : World) : Prop :=
  ∃ (E : Int) (lst : List S) (v : Value) (fp : List Nat), e = .returned (.tuple #[v, .int .i64 E]) ∧ Ans syms l E lst ∧ (S.mk lst).Sep w' v fp ∧ fp.Nodup ∧ (∀ b ∈ fp, w.heap.size ≤ b ∧ b < w'.heap.size) ∧ Below w.heap.size w w'

/-- What the loop of Sorts holds behind k rounds. -/
structure RoundS (l : List S) (ps : List Nat) (w0 : World) (k : Nat) (cv : Value) (us : List Value) (fp : List Nat) (w : World) : Prop where
  own : w.ownsRow w0.heap.size 41 1 cv k us
  sep : S.SepL w (l.take k) us fp
  nod : (cv.ownBlock.toList ++ fp).Nodup
  rng : ∀ b ∈ fp, w0.heap.size ≤ b ∧ b < w.heap.size
  sav : Saves (· ∈ ps) w0 w
theorem RoundS.next {l : List S} {ps : List Nat} {w0 wr w1 w2 : World} {k : Nat} {cv : Value} {us : List Value} {fp fp1 : List Nat} {x : S} {v1 : Value} {gg cap : Nat} {o o1 : Obj}
    (hr : RoundS l ps w0 k cv us fp wr) (hps : ∀ b ∈ ps, b < w0.heap.size) (hx : l[k]? = some x) (hsep1 : x.Sep w1 v1 fp1) (hnod1 : fp1.Nodup) (hrng1 : ∀ b ∈ fp1, wr.heap.size ≤ b ∧ b < w1.heap.size)
    (hbb1 : Saves (· ∈ ps) wr w1)
    (hown2 : w2.ownsRow w0.heap.size 41 1 (.slice (some ⟨gg, 0, none⟩) (k + 1) cap) (k + 1) (us ++ [v1])) (hgrow : ((w1.alloc o).alloc o1).grownBy w2 cv.ownBlock)
    (hat : cv.ownBlock = some gg ∨ gg = w1.heap.size + 1 + 1) :
    RoundS l ps w0 (k + 1) (.slice (some ⟨gg, 0, none⟩) (k + 1) cap) (us ++ [v1]) (fp ++ fp1) w2 := by
  have hwz := hbb1.size
  have hw0 := hr.sav.size
  have hsz2 : w1.heap.size + 2 ≤ w2.heap.size := by have := hgrow.size; simp at this; omega
  have hcvlt : ∀ b, cv.ownBlock = some b → w0.heap.size ≤ b ∧ b < wr.heap.size := fun b hb => hr.own.lt b hb
  have hnp : ∀ b, w0.heap.size ≤ b → b ∉ ps := fun b hb hm => by have := hps b hm; omega
  have hal : ∀ b, b < w1.heap.size → ((w1.alloc o).alloc o1).heap[b]? = w1.heap[b]? := fun b hb => (Below.heap_alloc _ _ _ (by simp; omega)).trans (Below.heap_alloc _ _ _ hb)
  have hfar : ∀ b, b < w1.heap.size → cv.ownBlock ≠ some b → w2.heap[b]? = w1.heap[b]? := by
    intro b hb hc
    rw [hgrow.block b (by simp; omega) (fun e => hc e.symm), hal b hb]
  have hfar0 : ∀ b, w0.heap.size ≤ b → b < wr.heap.size → cv.ownBlock ≠ some b → w2.heap[b]? = wr.heap[b]? := by
    intro b h0 hb hc
    rw [hfar b (by omega) hc, hbb1.block b hb (hnp b h0)]
  have hnod := List.nodup_append.1 hr.nod
  have hnf : ∀ b ∈ fp, cv.ownBlock ≠ some b := fun b hb he => hnod.2.2 b (by simp [he]) b hb rfl
  refine ⟨hown2, ?_, ?_, ?_, ?_⟩
  · rw [List.take_add_one, hx]
    refine S.SepL.snoc (hsep1.keep _ (fun b hb => hfar b (hrng1 b hb).2 (fun he => by have := hcvlt b he; have := hrng1 b hb; omega))) _ (hr.sep.keep _ (fun b hb => hfar0 b (by have := hr.rng b hb; omega) (hr.rng b hb).2 (hnf b hb)))
  · have hdis : ∀ a ∈ fp, ∀ b ∈ fp1, a ≠ b := fun a ha b hb => by have := hr.rng a ha; have := hrng1 b hb; omega
    have h2 : (fp ++ fp1).Nodup := List.nodup_append.2 ⟨hnod.2.1, hnod1, hdis⟩
    simp only [Value.ownBlock, Option.toList, List.cons_append, List.nil_append]
    refine List.nodup_cons.2 ⟨fun hm => ?_, h2⟩
    rcases List.mem_append.1 hm with hm | hm
    · rcases hat with he | he
      · exact hnf gg hm he
      · have := hr.rng gg hm; omega
    · rcases hat with he | he
      · have := hcvlt gg he; have := hrng1 gg hm; omega
      · have := hrng1 gg hm; omega
  · intro b hb
    rcases List.mem_append.1 hb with hb | hb
    · have := hr.rng b hb; omega
    · have := hrng1 b hb; omega
  · have h1 := ((hr.sav.trans hbb1).alloc o).alloc o1
    refine ⟨hgrow.os.trans h1.os, hgrow.tape.trans h1.tape, hgrow.output.trans h1.output, Nat.le_trans h1.size hgrow.size, fun b hb hn => ?_⟩
    exact (hgrow.block b (by simp; omega) (fun e => by have := hcvlt b e.symm; omega)).trans (h1.block b hb hn)
theorem RoundS.done {l : List S} {ps : List Nat} {w0 wr : World} {cv : Value} {us : List Value} {fp : List Nat} (hr : RoundS l ps w0 l.length cv us fp wr) :
    (S.mk l).Sep wr cv (cv.ownBlock.toList ++ fp) ∧ (cv.ownBlock.toList ++ fp).Nodup ∧ (∀ b ∈ cv.ownBlock.toList ++ fp, w0.heap.size ≤ b ∧ b < wr.heap.size) := by
  have hcvlt : ∀ b, cv.ownBlock = some b → w0.heap.size ≤ b ∧ b < wr.heap.size := fun b hb => hr.own.lt b hb
  refine ⟨?_, hr.nod, fun b hb => ?_⟩
  · simp only [S.Sep]
    refine ⟨us, fp, ⟨hr.own.1, ?_⟩, by have := hr.sep; rwa [List.take_length] at this, rfl⟩
    rcases hr.own.2 with h | ⟨g, cap, cur, h1, h2, h3⟩
    · exact .inl h
    · exact .inr ⟨g, cap, cur, h1, Nat.zero_le _, h3⟩
  · rcases List.mem_append.1 hb with hb | hb
    · exact hcvlt b (by simpa using hb)
    · exact hr.rng b hb
theorem sep_nil {w : World} : (S.mk []).Sep w (.slice none 0 0) [] := by
  simp only [S.Sep]
  exact ⟨[], [], ⟨by simp, .inl ⟨rfl, rfl⟩⟩, by simp [S.SepL], by simp [Value.ownBlock]⟩

/-- So many functions' sorts are made. -/
def StAt (a : List S) (ps : List Nat) (G : Gr) (us0 : List Nat) (B : Nat) (qv : Value) (w0 : World) (lv i : Value) (wr : World) : Prop :=
  ∃ (k : Nat) (us : List Value) (fp : List Nat) (G' : Gr) (vis : Nat → Int), k ≤ a.length ∧ i = .int .i64 (k : Int) ∧ RoundS a ps w0 k lv us fp wr ∧ (a.take k).all S.ok = true ∧ Alike G G' ∧ Gs wr ps G' vis ∧ Ps B wr us0 qv

set_option maxRecDepth 100000 in
set_option maxHeartbeats 3200000 in
theorem sortsI_any (syms : List Sy) (l : List Lz) (v0 v1 : Value) (w : World) (hi : Nat) (hsy : SyIn w (fun b => b < hi) syms v0) (hl : LzIn w hi l v1) (hhi : hi ≤ w.heap.size) (hfit : ∀ f ∈ l, f.body.fit ∧ fit64 f.params) :
    Calls Tryd.prog 12 #[v0, v1] w (SortsPost syms l w) := by
  obtain ⟨i0, hi0, hz0, hz1, hz2⟩ := info_parts sort_info
  have HC := Lib.hid (checkI_any syms l v0 v1 w hi hsy hl hhi hfit)
  have HS := Lib.hid hsy
  have HL := Lib.hid hl
  obtain ⟨A0, n0, c0, rfl⟩ := hsy.form
  obtain ⟨A1, n1, c1, rfl⟩ := hl.form
  have HCS : Hid (checkI syms l = 0 ∨ checkI syms l = 2 ∨ checkI syms l = 4) := Lib.hid (by unfold checkI; split <;> (try split) <;> simp)
  have HEQ : Hid (∃ z, checkI syms l = z) := Lib.hid ⟨_, rfl⟩
  obtain ⟨z, hz⟩ := HEQ.out
  rw [hz] at HC HCS
  have HZ := Lib.hid hz
  clear hsy hl hz hfit
  by_cases h0 : z = 0
  case neg =>
    go_enter Tryd.func12, Tryd.ntmps12
    go_wp2_with fail
    refine HC.out.mono ?_
    rintro e w1 ⟨rfl, hb1⟩
    have HF : Hid (SortsPost syms l w (.returned (.tuple #[.slice none 0 0, .int .i64 z])) w1) := Lib.hid ⟨z, [], _, [], rfl, .inl ⟨by rw [HZ.out]; exact h0, HZ.out.symm, rfl⟩, sep_nil, .nil, fun b hb => by simp at hb, hb1⟩
    clear hb1
    go_wp2_with fail
    go_ret2
    exact HF.out
  subst h0
  go_enter Tryd.func12, Tryd.ntmps12
  go_wp2_with fail
  refine HC.out.mono ?_
  rintro e w1 ⟨rfl, hb1⟩
  have hsv := solve_any syms l (.slice A0 n0 c0) (.slice A1 n1 c1) w1 hi (HS.out.below hb1 hhi) (LzIn.below HL.out hb1 hhi) (by have := hb1.size; omega) HZ.out
  have HSV := Lib.hid hsv
  have HB1 := Lib.hid hb1
  clear hsv hb1
  go_wp2_with fail
  refine HSV.out.mono ?_
  rintro e w2 ⟨hb2, hres⟩
  rcases hres with ⟨hno, val, rfl⟩ | ⟨G, ps, fs, us0, qv, v, a, vis, rfl, hG, hg, hbase, hn, hp, hv, hlen, hfl, hal, hav, hsol⟩
  · have HF : Hid (SortsPost syms l w (.returned (.tuple #[.slice none 0 0, .int .i64 6])) w2) := Lib.hid ⟨6, [], _, [], rfl, .inr ⟨HZ.out, none, hno, rfl, by simp [ansE]⟩, sep_nil, .nil, fun b hb => by simp at hb, HB1.out.trans (hb2.mono HB1.out.size)⟩
    clear hb2 hno
    go_wp2_with fail
    go_ret2
    exact HF.out
  · obtain ⟨Aq, cq, rfl⟩ := hp.form
    have HB2 := Lib.hid (HB1.out.trans (hb2.mono HB1.out.size))
    have H0 : Hid (StAt a ps G us0 (w1.heap.size + 1) (.slice Aq us0.length cq) w2 (.slice none 0 0) (.int .i64 0) w2) :=
      Lib.hid ⟨0, [], [], G, vis, Nat.zero_le _, rfl, ⟨⟨by simp, .inl ⟨rfl, rfl⟩⟩, by simp [S.SepL], by simp [Value.ownBlock], by simp, Saves.refl _ _⟩, by simp, .refl hG, hg, hp⟩
    have HPS : Hid (∀ b ∈ ps, b < w2.heap.size) := Lib.hid fun b hb => hg.lt hb
    have HPW : Hid (∀ b ∈ ps, w.heap.size ≤ b) := Lib.hid fun b hb => by have := hbase b hb; have := HB1.out.size; omega
    have HN := Lib.hid hn
    have HV := Lib.hid hv
    have HLN := Lib.hid hlen
    have HAL : Hid (us0.length = a.length ∧ fs.length = a.length) := Lib.hid ⟨by have := hn.1; omega, hal.symm⟩
    have HAV := Lib.hid hav
    have HSO := Lib.hid hsol
    have ha64 : a.length ≤ 1000000 := by
      have : checkI syms l = 0 := HZ.out
      unfold checkI at this
      split at this
      · split at this
        · rename_i h2
          simp only [lzOk, Bool.and_eq_true, decide_eq_true_eq] at h2
          simp at hfl; omega
        · cases this
      · cases this
    clear hb2 hG hg hbase hn hp hv hlen hfl hal hav hsol
    go_wp2_with fail
    go_loopw [9, 30] (fun lv i wr => StAt a ps G us0 (w1.heap.size + 1) (.slice Aq us0.length cq) w2 lv i wr) (fun _ i _ => a.length - (intOf i).toNat)
    case atStart => exact H0.out
    case round =>
      clear H0
      obtain ⟨k, us, fp, G', vis', hk, rfl, hr, hall, ha, hg, hpq⟩ := hrel
      by_cases hlt : k < a.length
      · have hs : a[k]? = some a[k] := List.getElem?_eq_getElem hlt
        obtain ⟨f, hf⟩ : ∃ f, fs[k]? = some f := ⟨fs[k]'(by have := HAL.out.2; omega), List.getElem?_eq_getElem _⟩
        obtain ⟨p, hu, hpx⟩ := HN.out.2 k f hf
        obtain ⟨ad, rfl, hB, hbl, hcell⟩ := hpq.cell hu
        have hvf := HAV.out k f _ hf hs
        have hst := settle_any ps G' vis' v ha.good (HV.out.alike ha) (by have := ha.len; have := HLN.out; omega) a[k] f p wr hg hpx hvf
        have hsucc := @all_succ _ S.ok a k _ hs hall
        have hno := @all_no _ S.ok a k _ hs
        generalize a[k] = s at *
        have HST := Lib.hid hst
        have HR := Lib.hid hr
        have HA := Lib.hid ha
        have HG := Lib.hid hg
        have HPQ := Lib.hid hpq
        have HK : Hid (a[k]? = some s) := Lib.hid hs
        have hk0 : (0 : Int) ≤ (k : Int) := by omega
        have hkl : (k : Int) < (us0.length : Int) := by have := HAL.out.1; omega
        have HBW : Hid (∀ w', Saves (· ∈ ps) wr w' → Below w.heap.size w w') := Lib.hid fun w' h => HB2.out.trans ((hr.sav.trans h).below HB2.out.size (fun b hb hm => by have := HPW.out b hm; omega))
        cases hok : s.ok with
        | false =>
          have HN2 : Hid (a.all S.ok = false) := Lib.hid (hno hok)
          have HOK := Lib.hid hok
          clear hs hf hu hpx hB hbl hvf hst hsucc hno hr hall ha hg hpq hok
          go_wp2_with fail
          refine HST.out.mono ?_
          rintro e w3 ⟨v3, rfl, _, ⟨A3, n3, c3, rfl⟩, hs3, _⟩
          rw [HOK.out]
          have HF : Hid (∀ o, SortsPost syms l w (.returned (.tuple #[.slice none 0 0, .int .i64 3])) (w3.alloc o)) := by
            have hb := HBW.out w3 hs3
            exact Lib.hid fun o => ⟨3, [], _, [], rfl, .inr ⟨HZ.out, some a, HSO.out, by simp [ansE, HN2.out], by simp [ansE, HN2.out]⟩, sep_nil, .nil, fun b hb => by simp at hb, hb.alloc hb.size o⟩
          clear hs3
          go_wp2_with fail
          go_ret2
          exact HF.out _
        | true =>
          have HSU := Lib.hid (hsucc hok)
          have HOK := Lib.hid hok
          have hus : us.length = k := by have := hr.own.1; omega
          have HUS := Lib.hid hus
          clear hs hf hu hpx hB hbl hvf hst hsucc hno hr hall ha hg hpq hok hus
          go_wp2_with fail
          refine HST.out.mono ?_
          rintro e w3 ⟨v3, rfl, hsep, ⟨A3, n3, c3, rfl⟩, hs3, G3, ha3, hg3⟩
          rw [HOK.out]
          obtain ⟨fp1, hsep1, hnod1, hrng1⟩ := hsep HOK.out
          have hnp : ∀ b, w2.heap.size ≤ b → b ∉ ps := fun b hb hm => by have := HPS.out b hm; omega
          have hown1 : w3.ownsRow w2.heap.size 41 1 u9 k us := owns_kept HR.out.own (fun b hb => hs3.block b (HR.out.own.lt b hb).2 (hnp b (HR.out.own.lt b hb).1))
          have HW := Lib.hid (⟨hsep1, hnod1, hrng1, hs3, ha3, hg3⟩ : s.Sep w3 (.slice A3 n3 c3) fp1 ∧ fp1.Nodup ∧ (∀ b ∈ fp1, wr.heap.size ≤ b ∧ b < w3.heap.size) ∧ Saves (· ∈ ps) wr w3 ∧ Alike G' G3 ∧ Gs w3 ps G3 vis')
          have hz3 : w2.heap.size ≤ w3.heap.size := Nat.le_trans HR.out.sav.size hs3.size
          clear hsep hsep1 hnod1 hrng1 hs3 ha3 hg3
          go_wp2_with
            (at_builtin
             refine wpList_append_lies _ rfl _ _ _ rfl w2.heap.size 41 i0 _ 1 24 Tryd.underlying31 hi0 hz0 hz1 hz2 rfl (by omega) u9 k us (by rfl) ((hown1.alloc _).alloc _)
               ⟨w3.heap.size + 1, 0, none⟩ 1 1 [.slice A3 n3 c3] (by rfl) (by rfl) (World.news_of_block (cs := #[.slice A3 n3 c3]) (t := 41) (fr := (0, 0)) (by have := heap_alloc_new (w3.alloc (.cells #[.slice A3 n3 c3] 41)) (.cells #[.slice A3 n3 c3] 41); simpa using this)) (fun u hu => by rw [List.mem_singleton.1 hu]; rfl) (by omega) (by simp only [maxLen]; omega) (by omega) (by simp; omega) (w3.heap.size + 1 + 1) (by simp) ?_
             intro gg cap w4 hown2 hgrow hat hlt2)
          have HF : Hid (StAt a ps G us0 (w1.heap.size + 1) (.slice (some ad) us0.length cq) w2 (.slice (some ⟨gg, 0, none⟩) (k + 1) cap) (.int .i64 ((k + 1 : Nat) : Int)) w4) := by
            obtain ⟨g1, g2, g3, g4, g5, g6⟩ := HW.out
            have hfar : ∀ b, b < w3.heap.size → u9.ownBlock ≠ some b → w4.heap[b]? = w3.heap[b]? := by
              intro b hb hc
              rw [hgrow.block b (by simp; omega) (fun e => hc e.symm), Below.heap_alloc _ _ _ (by simp; omega), Below.heap_alloc _ _ _ hb]
            refine Lib.hid ⟨k + 1, _, _, G3, vis', by omega, rfl, HR.out.next HPS.out HK.out g1 g2 g3 g4 hown2 hgrow hat, HSU.out, HA.out.trans g5, g6.keep fun b hb => ?_, owns_kept3 HPQ.out fun b hb => ?_⟩
            · have h1 := HPS.out b hb
              exact hfar b (by omega) (fun e => by have := HR.out.own.lt b e; omega)
            · have h1 := HPQ.out.lt hb
              have h2 := g4.size
              exact (hfar b (by omega) (own_own_ne HPQ.out HR.out.own (by decide) b hb)).trans (g4.block b h1.2 (HPQ.out.not_in HG.out b hb))
          clear hown2 hgrow hat hlt2
          go_wp2_with fail
          go_roundw
          case rel => simpa using HF.out
          case measure => simp [intOf]; omega
      · have hka : k = a.length := by omega
        have htk : a.take k = a := List.take_of_length_le (by omega)
        rw [htk] at hall
        have hge : ¬ (k : Int) < (us0.length : Int) := by have := HAL.out.1; omega
        have HF : Hid (SortsPost syms l w (.returned (.tuple #[u9, .int .i64 0])) wr) := by
          subst hka
          obtain ⟨g1, g2, g3⟩ := hr.done
          have hb := HB2.out.trans (hr.sav.below HB2.out.size (fun b hb hm => by have := HPW.out b hm; omega))
          exact Lib.hid ⟨0, a, _, _, rfl, .inr ⟨HZ.out, some a, HSO.out, by simp [ansE, hall], by simp [ansE, hall]⟩, g1, g2, fun b hb' => by have := g3 b hb'; have := HB2.out.size; omega, hb⟩
        clear hka htk hr hall ha hg hpq
        go_wp2_with fail
        go_ret2
        exact HF.out
end Go.Proofs.YtkkfdiidneoelaaDoor
