/-
  infer.Scheme: a contract.
-/
import Derived.Test.YtkkfdiidneoelaaGreatDoorGU
namespace Go.Proofs.YtkkfdiidneoelaaGreatDoor
open Go.RowKit

theorem schI_results {tmps : Array Value} {w : World} {a : Nat} {x y u : Value} (h2 : tmps.getD 4 undef = .pointer (some ⟨a, 0, none⟩)) (h3 : tmps.getD 5 undef = u)
    (ha : Blk w a 25 #[x, y]) : (results Tryz.f10 tmps).run Tryz.prog w = .ok (.tuple #[.agg #[x, y], u]) w := by
  have h4 := ha.cell 0
  have h5 := ha.cell 1
  simp at h4 h5
  have h2' : tmps[4]?.getD undef = .pointer (some ⟨a, 0, none⟩) := by simpa using h2
  have h3' : tmps[5]?.getD undef = u := by simpa using h3
  simp [results, Tryz.results10, go_sem, h2', h3', h4, h5]

theorem own_formN {w : World} {B : Nat} {t : TypeId} {k n : Nat} {v : Value} {xs : List Value} (h : w.ownsRow B t k v n xs) : ∃ A m c, m = n ∧ v = .slice A n c := by
  rcases h.2 with ⟨rfl, h0⟩ | ⟨g, cap, cur, rfl, _⟩
  · exact ⟨none, n, 0, rfl, by rw [h0]⟩
  · exact ⟨_, n, cap, rfl, rfl⟩
theorem nilTerms (w : World) (Q : Nat → Prop) : T.InL w Q [] (.slice none 0 0) := T.In.mk_ rfl (Nat.le_refl _) (by omega) (.inl rfl) (by simp [T.Row])
/-- So many functions are made. -/
def SchAt (syms : List Sy) (l : List Lz) (lst : List S) (B B1 b8 : Nat) (v0 : Value) (w2 : World) (i : Value) (wr : World) : Prop :=
  ∃ (k : Nat) (v1 : Value) (us : List Value), k ≤ l.length ∧ i = .int .i64 (k : Int) ∧ RdI B B1 b8 syms (fnsOf (l.take k) (lst.take k)) v0 v1 us wr ∧ Below B1 w2 wr
theorem fnsOf_snoc {l : List Lz} {a : List S} {k : Nat} {f : Lz} {s : S} (h : a.length = l.length) (hf : l[k]? = some f) (hs : a[k]? = some s) : fnsOf (l.take (k + 1)) (a.take (k + 1)) = fnsOf (l.take k) (a.take k) ++ [lzFn f s] := by
  induction l generalizing a k with
  | nil => simp at hf
  | cons g r ih =>
    cases a with
    | nil => simp at hs
    | cons t q =>
      cases k with
      | zero => simp at hf hs; subst hf hs; simp [fnsOf]
      | succ k =>
        have := ih (a := q) (k := k) (by simpa using h) (by simpa using hf) (by simpa using hs)
        simp only [List.take_succ_cons, fnsOf, this, List.cons_append]

set_option maxRecDepth 100000 in
set_option maxHeartbeats 3200000 in
theorem schemeI_any (syms : List Sy) (l : List Lz) (v0 v1 : Value) (w : World) (hi : Nat) (hsy : SyIn w (fun b => b < hi) syms v0) (hl : LzIn w hi l v1) (hhi : hi ≤ w.heap.size) (hfit : ∀ f ∈ l, f.body.fit ∧ fit64 f.params) :
    Calls Tryz.prog 10 #[v0, v1] w (SchIPost syms l w) := by
  obtain ⟨i0, hi0, hz0, hz1, hz2⟩ := info_parts fn_info
  have HZ1 := Lib.hid hz1
  have HZ2 := Lib.hid hz2
  clear hz1 hz2
  have hw1 : Below w.heap.size w (w.alloc (.cells #[.slice none 0 0, .slice none 0 0] 25)) := (Below.refl _ _).alloc (Nat.le_refl _) _
  have hB := Blk.new w 25 #[.slice none 0 0, .slice none 0 0]
  have hz : (w.alloc (.cells #[.slice none 0 0, .slice none 0 0] 25)).heap.size = w.heap.size + 1 := by simp
  have HC := Lib.hid (sortsI_any syms l v0 v1 _ hi (hsy.below hw1 hhi) (hl.below hw1 hhi) (by omega) hfit)
  unfold SortsPost at HC
  rw [hz] at HC
  have HW1 := Lib.hid hw1
  have HSY := Lib.hid hsy
  have HBX := Lib.hid hB
  obtain ⟨A0, n0, c0, rfl⟩ := hsy.form
  obtain ⟨A, _, c, us0, rfl, rfl, hnc, hc, hrd, hrow⟩ := hl
  clear hsy hw1 hB hfit
  go_enter Tryz.func10, Tryz.ntmps10
  go_wp2_with fail
  refine HC.out.mono ?_
  rintro e w1 ⟨E, lst, vl, fp, rfl, han, hsep, hnod, hrng, hb1⟩
  have hbx1 := HBX.out.below hb1 (by omega)
  have hb01 := HW1.out.trans (hb1.mono (by omega))
  have hz1 := hb1.size
  by_cases hE : E = 0
  case neg =>
    have HF : Hid (∀ u, SchIPost syms l w (.returned (.tuple #[.agg #[.slice none 0 0, .slice none 0 0], .int .i64 E])) ((w1.setCell ⟨w.heap.size, 0, none⟩ u).setCell ⟨w.heap.size, 1, none⟩ u)) :=
      Lib.hid fun u => ⟨E, lst, _, _, [], rfl, han, (hb01.setCell (Nat.le_refl _) _).setCell (Nat.le_refl _) _, fun _ => ⟨rfl, rfl⟩, fun h => absurd h hE⟩
    have g : ((E : Int) != 0) = true := by simpa using hE
    have f0 := hbx1.frozen 0
    have f1 := hbx1.frozen 1
    have c0 := hbx1.cell 0
    have c1 := hbx1.cell 1
    simp at c0 c1
    have HBX1 := Lib.hid hbx1
    clear han hsep hnod hrng hb1 hbx1 hb01 hE
    go_wp2_with fail
    refine bodyPost_ret (schI_results rfl rfl (((HBX1.out.set_ 0 (.slice none 0 0)).set_ 1 (.slice none 0 0)).eq_ (cs' := #[.slice none 0 0, .slice none 0 0]) (by simp))) rfl ?_
    exact HF.out (.slice none 0 0)
  subst hE
  obtain ⟨hlen, h64, h24, h400, hck, hsol, hall⟩ := han.zero
  obtain ⟨Al, nl, cl, rfl⟩ := hsep.form
  have HCL := Lib.hid (cloneSy_any syms (.slice A0 n0 c0) w1 hi (HSY.out.below hb01 hhi) (by omega))
  have HA := Lib.hid han
  have HL := Lib.hid hlen
  have H400 := Lib.hid h400
  have HSEP := Lib.hid (⟨hsep, hnod, hrng⟩ : (S.mk lst).Sep w1 (.slice Al nl cl) fp ∧ fp.Nodup ∧ ∀ b ∈ fp, w.heap.size + 1 ≤ b ∧ b < w1.heap.size)
  have HB01 := Lib.hid hb01
  have HBX1 := Lib.hid hbx1
  clear han hlen h400 hck hsol hall hsep hnod hrng hb1 hbx1 hb01
  go_wp2_with fail
  refine HCL.out.mono ?_
  rintro e w2 ⟨v2, rfl, hown2, hb2⟩
  obtain ⟨A2, _, c2, _, rfl⟩ := own_formN hown2
  have hz2 := hb2.size
  have H0 : Hid (SchAt syms l lst (w.heap.size + 1) w1.heap.size w2.heap.size (.slice A2 syms.length c2) (w2.alloc (.cells #[.slice A2 syms.length c2, .slice none 0 0] 25)) (.int .i64 0) (w2.alloc (.cells #[.slice A2 syms.length c2, .slice none 0 0] 25))) :=
    Lib.hid ⟨0, _, [], Nat.zero_le _, rfl, ⟨owns_kept3 hown2 fun b hb => Below.heap_alloc _ _ b (hown2.lt b hb).2, by simpa [fnsOf] using World.ownsRow_nil _ _ _ _, by simp [fnsOf, FnMk], Blk.new _ _ _, ⟨by omega, hz2⟩⟩, Below.refl _ _⟩
  have HB02 := Lib.hid ((HB01.out.trans (hb2.mono (by omega))).alloc (by omega) (.cells #[.slice A2 syms.length c2, .slice none 0 0] 25))
  have HBX2 := Lib.hid ((HBX1.out.below hb2 (by omega)).alloc (.cells #[.slice A2 syms.length c2, .slice none 0 0] 25))
  have hbw : Below w1.heap.size w1 (w2.alloc (.cells #[.slice A2 syms.length c2, .slice none 0 0] 25)) := hb2.alloc (by omega) _
  have HSEP2 : Hid ((S.mk lst).Sep (w2.alloc (.cells #[.slice A2 syms.length c2, .slice none 0 0] 25)) (.slice Al nl cl) fp ∧ fp.Nodup ∧ ∀ b ∈ fp, w.heap.size + 1 ≤ b ∧ b < w1.heap.size) :=
    Lib.hid ⟨HSEP.out.1.keep _ fun b hb => hbw.block b (HSEP.out.2.2 b hb).2, HSEP.out.2⟩
  have hzz : (w2.alloc (.cells #[.slice A2 syms.length c2, .slice none 0 0] 25)).heap.size = w2.heap.size + 1 := by simp
  clear hown2 hb2 hbw
  go_wp2_with fail
  generalize hW3 : w2.alloc (.cells #[.slice A2 syms.length c2, .slice none 0 0] 25) = W3 at *
  clear hW3
  go_loopw [28] (fun i wr => SchAt syms l lst (w.heap.size + 1) w1.heap.size w2.heap.size (.slice A2 syms.length c2) W3 i wr) (fun i _ => l.length - (intOf i).toNat)
  case atStart => exact H0.out
  case round =>
    clear H0
    obtain ⟨k, v1, us, hk, rfl, hr, hbl⟩ := hrel
    obtain ⟨A1, _, c1, _, rfl⟩ := own_formN hr.ofn
    have hzb := hbl.size
    by_cases hlt : k < l.length
    · have hx : l[k]? = some l[k] := List.getElem?_eq_getElem hlt
      have hs : lst[k]? = some (lst[k]'(by have := HL.out; omega)) := List.getElem?_eq_getElem _
      have hbe : Below w.heap.size w wr := HB02.out.trans (hbl.mono (by omega))
      have hzw := hbe.size
      have hzw8 := hr.box.lt
      have hz81 := hr.hb.2
      obtain ⟨ad, bv, rfl, hPa, hel, hbv, hnm⟩ := lz_el hrd hrow hx
      obtain ⟨r0, r1, r2, r3, r4⟩ := hel.keep (hbe.block _ (by omega))
      have hsn := fnsOf_snoc HL.out hx hs
      have hfl : (fnsOf (l.take k) (lst.take k)).length = k := by rw [fnsOf_len (by simp [HL.out]), List.length_take]; omega
      have h400 := H400.out _ (List.getElem_mem hlt)
      obtain ⟨hsep, hnod, hrng⟩ := HSEP2.out
      have hsepr := hsep.keep (w' := wr) _ fun b hb => hbl.block b (by have := hrng b hb; omega)
      simp only [S.Sep] at hsepr
      obtain ⟨usl, rest, hol, hsl, rfl⟩ := hsepr
      obtain ⟨u, f1, hu, hsu, hnd1, hf1⟩ := hsl.at_ (List.nodup_append.1 hnod).2.1 hs
      have hfr : ∀ b ∈ f1, w.heap.size + 1 ≤ b ∧ b < w1.heap.size := fun b hb => hrng b (by simp [hf1 b hb])
      obtain ⟨gl, hAl, hgl, hcl, hnl⟩ : ∃ gl, Al = some ⟨gl, 0, none⟩ ∧ gl < wr.heap.size ∧ wr.cell? ⟨gl, k, none⟩ = some u ∧ k < nl := by
        rcases hol.2 with ⟨_, h0⟩ | ⟨gl, cap, cur, he, _⟩
        · have := HL.out; omega
        · injection he with e1 e2 e3
          subst e1 e2
          have := hol.cells (g := gl) rfl k u hu
          rw [Addr.add_lit] at this
          exact ⟨gl, rfl, (hol.lt gl rfl).2, by simpa using this, by have := HL.out; omega⟩
      subst hAl
      generalize hxl : l[k] = x at *
      generalize lst[k]'(by have := HL.out; omega) = s at *
      clear hxl
      obtain ⟨As, ns, cs, rfl⟩ := hsu.form
      obtain ⟨Ab, nb, cb, rfl⟩ := hbv.form
      generalize hfs : fnsOf (l.take k) (lst.take k) = fs at *
      have hbw1 : Below wr.heap.size wr (wr.alloc (.cells #[.string x.name, .int .i64 x.params, .int .i64 x.body.kind, .int .i64 x.body.num, .slice Ab nb cb] 70)) := (Below.refl _ _).alloc (Nat.le_refl _) _
      have hap := apply_any x.body (.slice Ab nb cb) (.slice none 0 0) [] (wr.alloc (.cells #[.string x.name, .int .i64 x.params, .int .i64 x.body.kind, .int .i64 x.body.num, .slice Ab nb cb] 70)) (fun b => b < hi) (fun _ => False)
        ((hbv.below hbe (fun b hb => by omega)).below hbw1 (fun b hb => by omega)) (fun b hb => by simp; omega) (nilTerms _ _) (fun _ h => h.elim) (by have := T.length_le x.body.args; have : x.body.count = 1 + T.countL x.body.args := by cases x.body; rfl
                                                                                                                                                       omega) (by simp)
      rw [(applyT_nil (t := x.body) (by omega)).1, (applyT_nil (t := x.body) (by omega)).2] at hap
      have HAP := Lib.hid hap
      have HR := Lib.hid hr
      have HSN := Lib.hid hsn
      have HFL := Lib.hid hfl
      have HFS := Lib.hid hfs
      have HSU := Lib.hid (⟨hsu, hnd1, hfr⟩ : s.Sep wr (.slice As ns cs) f1 ∧ f1.Nodup ∧ ∀ b ∈ f1, w.heap.size + 1 ≤ b ∧ b < w1.heap.size)
      have HBL := Lib.hid hbl
      have HNM := Lib.hid hnm
      have hxb := Blk.new wr 70 #[.string x.name, .int .i64 x.params, .int .i64 x.body.kind, .int .i64 x.body.num, .slice Ab nb cb]
      have HXB := Lib.hid hxb
      clear hx hs hbe hel hbv hnm hsn hfl hsep hnod hrng hol hsl hu hsu hnd1 hf1 hfr hfs hap hr hbl h400 hxb hbw1
      go_wp2_with fail
      refine HAP.out.mono ?_
      rintro e w3 ⟨vb, usb, rfl, hmb, hb3⟩
      obtain ⟨Ab2, cb2, rfl⟩ := hmb.form
      generalize hnb : x.body.args.length = nb2 at *
      have hz3 : wr.heap.size + 1 ≤ w3.heap.size := by have h : (wr.alloc (.cells #[.string x.name, .int .i64 x.params, .int .i64 x.body.kind, .int .i64 x.body.num, .slice Ab nb cb] 70)).heap.size ≤ w3.heap.size := hb3.size; simpa using h
      have hbW : Below wr.heap.size wr (w3.alloc (.cells #[.int .i64 x.body.kind, .int .i64 x.body.num, .slice Ab2 nb2 cb2] 53)) := (((Below.refl _ _).alloc (Nat.le_refl _) _).trans (hb3.mono (by simp))).alloc (by omega) _
      have hbo := Blk.new w3 53 #[.int .i64 x.body.kind, .int .i64 x.body.num, .slice Ab2 nb2 cb2]
      have hbx := (HXB.out.below hb3 (by simp)).alloc (.cells #[.int .i64 x.body.kind, .int .i64 x.body.num, .slice Ab2 nb2 cb2] 53)
      have hb8 := HR.out.box.below hbW HR.out.box.lt
      have hcW := (hbW.cell (p := ⟨gl, k, none⟩) hgl).trans hcl
      have hownW := owns_kept3 HR.out.ofn fun b hb => hbW.block b (HR.out.ofn.lt b hb).2
      have hmW : x.body.NIn (w3.alloc (.cells #[.int .i64 x.body.kind, .int .i64 x.body.num, .slice Ab2 nb2 cb2] 53)) (fun b => wr.heap.size ≤ b ∧ b < (w3.alloc (.cells #[.int .i64 x.body.kind, .int .i64 x.body.num, .slice Ab2 nb2 cb2] 53)).heap.size) (.slice Ab2 nb2 cb2) :=
        (hmb.nterm.keep (fun b hb => Below.heap_alloc _ _ b hb.2) _).more (fun b hb => ⟨by have := hb.1; simp at this; omega, by have := hb.2; simp; omega⟩) _
      have hzW : (w3.alloc (.cells #[.int .i64 x.body.kind, .int .i64 x.body.num, .slice Ab2 nb2 cb2] 53)).heap.size = w3.heap.size + 1 := by simp
      clear hmb hb3 hcl
      go_wp2_with fail
      generalize hWW : w3.alloc (.cells #[.int .i64 x.body.kind, .int .i64 x.body.num, .slice Ab2 nb2 cb2] 53) = W at *
      have q0 := hb8.cell 1
      have q1 := hbx.cell 0
      have q2 := hbo.cell 0
      have q3 := hbo.cell 1
      have q4 := hbo.cell 2
      have q5 : (W.alloc (.cells #[.string x.name, .slice As ns cs, .int .i64 x.body.kind, .int .i64 x.body.num, .slice Ab2 nb2 cb2] 55)).cell? ⟨w2.heap.size, 1, none⟩ = some (.slice A1 fs.length c1) := (hb8.alloc _).cell 1
      simp at q0 q1 q2 q3 q4
      have HBW := Lib.hid hbW
      have HMW := Lib.hid hmW
      have HB8 := Lib.hid hb8
      have HBX := Lib.hid hbx
      have HBO := Lib.hid hbo
      have HZW := Lib.hid hzW
      clear hzW hWW hbW hmW hb8 hbx hbo
      have hfl64 : fs.length ≤ 1000 := by have := HFL.out; omega
      go_region_law
        (first
          | (refine step_append_lies _ (by rfl) _ _ _ (by rfl) w1.heap.size 55 i0 _ 5 80 Tryz.underlying23 hi0 hz0 HZ1.out HZ2.out rfl (by omega) (.slice A1 fs.length c1) _ us (by rfl) (by exact (hownW.alloc _).drew)
              ⟨W.heap.size, 0, none⟩ 1 1 [.string x.name, .slice As ns cs, .int .i64 x.body.kind, .int .i64 x.body.num, .slice Ab2 nb2 cb2] (by rfl) (by rfl) (by exact World.news_of_block (cs := #[.string x.name, .slice As ns cs, .int .i64 x.body.kind, .int .i64 x.body.num, .slice Ab2 nb2 cb2]) (t := 55) (fr := (0, 0)) (heap_alloc_new W _)) (by simp [Value.oneCell']) (by omega) (by simp only [maxLen]; omega) (by omega) (by show w1.heap.size ≤ (W.alloc _).heap.size; rw [World.size_alloc]; have := HZW.out; omega) (W.heap.size + 1) (by exact World.size_alloc _ _) ?_
             intro gg cap w4 hown4 hgrow' hat hlt4
             have hgrow : (W.drew.alloc (.cells #[.string x.name, .slice As ns cs, .int .i64 x.body.kind, .int .i64 x.body.num, .slice Ab2 nb2 cb2] 55)).grownBy w4 (Value.slice A1 fs.length c1).ownBlock := hgrow'
             have hk4 : ∀ b, b < W.heap.size → (Value.slice A1 fs.length c1).ownBlock ≠ some b → w4.heap[b]? = W.heap[b]? := fun b hb hne => (hgrow.block b (by rw [World.size_alloc]; exact Nat.lt_succ_of_lt hb) (fun e => hne e.symm)).trans (Below.heap_alloc W.drew _ b hb)
             have g8 : Blk w4 w2.heap.size 25 #[.slice A2 syms.length c2, .slice A1 fs.length c1] := (hk4 _ HB8.out.lt (own_ne hownW HB8.out (by decide))).trans HB8.out
             have s1 := g8.cell 1
             have s2 := g8.frozen 1
             simp at s1
             have HF : Hid (SchAt syms l lst (w.heap.size + 1) w1.heap.size w2.heap.size (.slice A2 syms.length c2) W3 (.int .i64 ((k + 1 : Nat) : Int)) (w4.setCell ⟨w2.heap.size, 1, none⟩ (.slice (some ⟨gg, 0, none⟩) (fs.length + 1) cap))) := by
               have hnx := HR.out.next (x := lzFn x s) HBW.out (HSU.out.1.keep _ fun b hb => HBW.out.block b (by have := HSU.out.2.2 b hb; omega)) HSU.out.2.1 HSU.out.2.2 HMW.out HNM.out hown4 hgrow hat
               refine Lib.hid ⟨k + 1, _, _, by omega, rfl, by rw [HSN.out]; exact hnx, ?_⟩
               have hz4 : W.heap.size + 1 ≤ w4.heap.size := by have h1 := hgrow.size; rw [World.size_alloc] at h1; exact h1
               exact (((HBL.out.trans (HBW.out.mono (by omega))).drew.alloc (by have := HBW.out.size; show _ ≤ W.heap.size; omega) _).grown hgrow (by rw [World.size_alloc]; show _ ≤ W.heap.size + 1; have := HBW.out.size; omega) (fun b hb => (hownW.lt b hb).1)).setCell (by show w1.heap.size ≤ w2.heap.size; omega) _
             clear hown4 hgrow hgrow' hat hlt4 g8 hk4))
      all_goals
        go_wp2_with fail
        go_roundw
        case rel => exact HF.out
        case measure => simp [intOf]; omega
    · have hka : k = l.length := by omega
      subst hka
      have hll : l.take l.length = l := List.take_length
      have hal : lst.take l.length = lst := by rw [← HL.out]; exact List.take_length
      rw [hll, hal] at hr
      have hbe : Below w.heap.size w wr := HB02.out.trans (hbl.mono (by omega))
      have hbx := HBX2.out.below hbl (by omega)
      have h80 := hr.box.cell 0
      have h81 := hr.box.cell 1
      have f0 := hbx.frozen 0
      have f1 := hbx.frozen 1
      have c0' := hbx.cell 0
      have c1' := hbx.cell 1
      simp at h80 h81 c0' c1'
      have HBX3 := Lib.hid hbx
      generalize hfl : (fnsOf l lst).length = nf at *
      have HF : Hid (SchIPost syms l w (.returned (.tuple #[.agg #[.slice A2 syms.length c2, .slice A1 nf c1], .int .i64 0])) ((wr.setCell ⟨w.heap.size, 0, none⟩ (.slice A2 syms.length c2)).setCell ⟨w.heap.size, 1, none⟩ (.slice A1 nf c1))) := by
        have hk : ∀ b, w.heap.size + 1 ≤ b → ((wr.setCell ⟨w.heap.size, 0, none⟩ (.slice A2 syms.length c2)).setCell ⟨w.heap.size, 1, none⟩ (.slice A1 nf c1)).heap[b]? = wr.heap[b]? := fun b hb => by
          rw [Below.heap_setCell _ _ _ _ (by show b ≠ w.heap.size; omega), Below.heap_setCell _ _ _ _ (by show b ≠ w.heap.size; omega)]
        have l0 := hr.osy.lt
        have l1 := hr.ofn.lt
        refine Lib.hid ⟨0, lst, _, _, us, rfl, HA.out, (hbe.setCell (Nat.le_refl _) _).setCell (Nat.le_refl _) _, fun h => absurd rfl h, fun _ => ⟨?_, ?_, ?_⟩⟩
        · exact owns_less (owns_kept3 hr.osy fun b hb => hk b (by have := l0 b hb; omega)) (by omega)
        · exact owns_less (owns_kept3 hr.ofn fun b hb => hk b (by have := l1 b hb; omega)) (by omega)
        · exact (hr.row.keep (fun b hb => hk b hb.1) _).more (fun b hb => ⟨by have := hb.1; omega, by have := hb.2.1; simpa [World.setCell] using this, hb.2.2.2⟩) _
      clear hll hal hr hbl hbe hbx hfl
      go_wp2_with fail
      refine bodyPost_ret (schI_results rfl rfl (((HBX3.out.set_ 0 (.slice A2 syms.length c2)).set_ 1 (.slice A1 nf c1)).eq_ (cs' := #[.slice A2 syms.length c2, .slice A1 nf c1]) (by simp))) rfl ?_
      exact HF.out
end Go.Proofs.YtkkfdiidneoelaaGreatDoor
