/-
  The reference's begins, Parse and Get, by the plain parser.
-/
import Derived.Test.YtbifnkjfjndjjaaSortR
namespace Go.Proofs.Ytbifnkjfjndjjaa
open Go.RowKit

theorem strip_take (p t : List UInt8) : (strip p t).isSome = decide (t.take p.length = p) := by
  cases h : strip p t with
  | some r => rw [strip_eq h]; simp
  | none =>
    simp only [Option.isSome_none]
    symm
    rw [decide_eq_false_iff_not]
    intro he
    have h2 : t = p ++ t.drop p.length := by
      have := List.take_append_drop p.length t
      rw [he] at this
      exact this.symm
    rw [h2, strip_append] at h
    cases h
theorem strip_short {p t : List UInt8} (h : t.length < p.length) : strip p t = none := by
  cases h2 : strip p t with
  | none => rfl
  | some r => have := strip_len h2; omega

theorem begins_eq (t p : List UInt8) (a : Nat) : (((⟨t.toArray⟩ : ByteArray).extract a (a + p.length)).toList == p) = decide ((t.drop a).take p.length = p) := by
  rw [ByteArray.toList_eq]
  simp only [ByteArray.data_extract, List.extract_toArray, List.extract_eq_take_drop, Nat.add_sub_cancel_left]
  rw [Bool.eq_iff_iff, beq_iff_eq, decide_eq_true_iff]
set_option maxHeartbeats 400000 in
theorem begins_any (t p : List UInt8) (a : Nat) (w : World) (ha : a ≤ t.length) (ht : t.length ≤ 65536) (hp : p.length ≤ 10) :
    Calls Try.prog 61 #[.string ⟨t.toArray⟩, .int .i64 (a : Int), .string ⟨p.toArray⟩] w fun e w' => e = .returned (.bool (strip p (t.drop a)).isSome) ∧ w = w' := by
  by_cases h : p.length ≤ t.length - a
  · have HF := Lib.hid (strip_take p (t.drop a))
    go_enter Try.func61, Try.ntmps61
    go_wp2_with fail
    go_ret
    refine ⟨ret_bool ?_, rfl⟩
    rw [HF.out]
    exact begins_eq t p a
  · have hF := strip_short (p := p) (t := t.drop a) (by rw [List.length_drop]; omega)
    have HF : Hid (false = (strip p (t.drop a)).isSome) := Lib.hid (by rw [hF]; rfl)
    clear hF
    go_enter Try.func61, Try.ntmps61
    go_wp2_with fail
    go_ret
    exact ⟨ret_bool HF.out, rfl⟩

/-- What the reference's Parse leaves. -/
def ParsePost (t : List UInt8) (a : Nat) (w : World) (e : Ending) (w' : World) : Prop :=
  match parse [] (t.drop a) with
  | some (s, r) => ∃ v fp, ∃ nx : Nat, e = .returned (.tuple #[.agg #[v], .int .i64 (nx : Int), .bool true]) ∧ t.drop nx = r ∧ nx ≤ t.length ∧ s.Sep w' v fp ∧ fp.Nodup ∧ (∀ k ∈ fp, w.heap.size ≤ k ∧ k < w'.heap.size) ∧ Below w.heap.size w w'
  | none => ∃ A n c, ∃ i : Int, e = .returned (.tuple #[.agg #[.slice A n c], .int .i64 i, .bool false]) ∧ Below w.heap.size w w'
theorem ParsePost.none_ {t : List UInt8} {a : Nat} {w w' : World} {A : Option Addr} {n c : Nat} {i : Int} (h : parse [] (t.drop a) = none) (hb : Below w.heap.size w w') : ParsePost t a w (.returned (.tuple #[.agg #[.slice A n c], .int .i64 i, .bool false])) w' := by
  rw [ParsePost, h]; exact ⟨A, n, c, i, rfl, hb⟩
theorem ParsePost.some_ {t r : List UInt8} {a nx : Nat} {s : S} {w w' : World} {v : Value} {fp : List Nat} (h : parse [] (t.drop a) = some (s, r)) (h0 : t.drop nx = r) (h5 : nx ≤ t.length) (h1 : s.Sep w' v fp) (h2 : fp.Nodup) (h3 : ∀ k ∈ fp, w.heap.size ≤ k ∧ k < w'.heap.size)
    (hb : Below w.heap.size w w') : ParsePost t a w (.returned (.tuple #[.agg #[v], .int .i64 (nx : Int), .bool true])) w' := by
  rw [ParsePost, h]; exact ⟨v, fp, nx, rfl, h0, h5, h1, h2, h3, hb⟩

theorem parse_results {tmps : Array Value} {w : World} {a : Nat} {x y z : Value} (h2 : tmps.getD 4 undef = .pointer (some ⟨a, 0, none⟩)) (h3 : tmps.getD 5 undef = y) (h6 : tmps.getD 6 undef = z)
    (ha : Blk w a 24 #[x]) : (results Try.f49 tmps).run Try.prog w = .ok (.tuple #[.agg #[x], y, z]) w := by
  have h4 := ha.cell 0
  simp at h4
  have h2' : tmps[4]?.getD undef = .pointer (some ⟨a, 0, none⟩) := by simpa using h2
  have h3' : tmps[5]?.getD undef = y := by simpa using h3
  have h6' : tmps[6]?.getD undef = z := by simpa using h6
  simp [results, Try.results49, go_sem, h2', h3', h6', h4]

/-- The loop's relation: acc has been read, what is left begins at a'. -/
structure Going (t : List UInt8) (a : Nat) (w : World) (acc : List S) (a' : Nat) (cv : Value) (us : List Value) (fp : List Nat) (wr : World) : Prop where
  built : Built acc (w.heap.size + 1 + 1) (w.heap.size + 1) w.heap.size cv us fp wr
  same : parse [] (t.drop a) = parse acc (t.drop a')
  le : a' ≤ t.length
  len : acc.length ≤ a'
  ge : a ≤ a'
  bel : Below w.heap.size w wr
theorem Going.start {t : List UInt8} {a : Nat} (ha : a ≤ t.length) (w : World) : Going t a w [] a (.slice none 0 0) [] [] ((w.alloc (.cells #[.slice none 0 0] 24)).alloc (.cells #[.slice none 0 0] 24)) where
  built := ⟨⟨by simp, .inl ⟨rfl, rfl⟩⟩, by simp [S.SepL], by simp [Value.ownBlock], by simp, by simpa using Blk.new (w.alloc (.cells #[.slice none 0 0] 24)) 24 #[.slice none 0 0], (Blk.new _ _ _).alloc _, by omega, by omega, by omega, by simp⟩
  same := rfl
  le := ha
  len := by simp
  ge := Nat.le_refl _
  bel := ((Below.refl _ _).alloc (Nat.le_refl _) _).alloc (by simp) _
/-- What one more argument does to the relation. -/
theorem Going.next {t : List UInt8} {a : Nat} {w : World} {acc : List S} {a' a2 : Nat} {cv : Value} {us : List Value} {fp fp1 : List Nat} {wr w1 w2 : World} {x : S} {v1 v' : Value} {o1 : Obj}
    (h : Going t a w acc a' cv us fp wr) (hb : Below wr.heap.size wr w1) (hsep1 : x.Sep w1 v1 fp1) (hnod1 : fp1.Nodup) (hrng1 : ∀ k ∈ fp1, wr.heap.size ≤ k ∧ k < w1.heap.size)
    (hown2 : w2.ownsRow (w.heap.size + 1 + 1) 24 1 v' (acc.length + 1) (us ++ [v1])) (hgrow : (w1.alloc o1).grownBy w2 cv.ownBlock) (hat : v'.ownBlock = cv.ownBlock ∨ v'.ownBlock = some (w1.heap.size + 1))
    (hs : parse [] (t.drop a) = parse (acc ++ [x]) (t.drop a2)) (ha2 : a' < a2) (ha3 : a2 ≤ t.length) :
    Going t a w (acc ++ [x]) a2 v' (us ++ [v1]) (fp ++ fp1) (w2.setCell ⟨w.heap.size + 1, 0, none⟩ v') where
  built := h.built.next (fun k hk _ => hb.block k hk) hb.size hsep1 hnod1 hrng1 hown2 hgrow hat
  same := hs
  le := ha3
  len := by have := h.len; simp; omega
  ge := by have := h.ge; omega
  bel := by
    have hz := h.bel.size
    have hz1 := hb.size
    refine ((h.bel.trans (hb.mono hz)).trans ?_).setCell (p := ⟨w.heap.size + 1, 0, none⟩) (Nat.le_succ _) _
    exact ((Below.refl _ _).alloc (by omega) o1).grown hgrow (by simp; omega) (fun k hk => by have := h.built.own_lt k hk; omega)
theorem begins_at (t p : List UInt8) (i : Int) (a : Nat) (h : i = (a : Int)) (w : World) (ha : a ≤ t.length) (ht : t.length ≤ 65536) (hp : p.length ≤ 10) :
    Calls Try.prog 61 #[.string ⟨t.toArray⟩, .int .i64 i, .string ⟨p.toArray⟩] w fun e w' => e = .returned (.bool (strip p (t.drop a)).isSome) ∧ w = w' := by
  subst h; exact begins_any t p a w ha ht hp
theorem below_new' (w : World) (o : Obj) : Below w.heap.size w (w.alloc o) := (Below.refl _ _).alloc (Nat.le_refl _) _
theorem Built.below {acc : List S} {lo gc gr : Nat} {cv : Value} {us : List Value} {fp : List Nat} {w w' : World} (h : Built acc lo gc gr cv us fp w) (hb : Below w.heap.size w w') : Built acc lo gc gr cv us fp w' :=
  ⟨owns_kept h.own (fun x hx => hb.block x (h.own_lt x hx).2), h.sep.keep _ (fun x hx => hb.block x (h.rng x hx).2), h.nod,
    fun x hx => by have := h.rng x hx; have := hb.size; omega, h.blk.below hb h.blk.lt, h.res.below hb h.res.lt, h.gcl, h.grl, h.ne_, by have := hb.size; have := h.lol; omega⟩
theorem sep_empty {x : S} {w : World} {v : Value} {fp : List Nat} (hx : x.args = []) (h : x.Sep w v fp) : ∃ A c, v = .slice A 0 c := by
  obtain ⟨l⟩ := x
  have hl : l = [] := hx
  subst hl
  simp only [S.Sep] at h
  obtain ⟨us, rest, ho, _⟩ := h
  rcases ho.2 with ⟨rfl, _⟩ | ⟨g, cap, cur, rfl, _⟩
  · exact ⟨_, _, rfl⟩
  · exact ⟨_, _, rfl⟩
theorem sep_pos {x : S} {w : World} {A : Option Addr} {n c : Nat} {fp : List Nat} (hx : x.args ≠ []) (h : x.Sep w (.slice A n c) fp) : 0 < n := by
  obtain ⟨l⟩ := x
  simp only [S.Sep] at h
  obtain ⟨us, rest, ho, _⟩ := h
  have hl : 0 < l.length := List.length_pos_iff.2 hx
  rcases ho.2 with ⟨_, h0⟩ | ⟨g, cap, cur, hv, _⟩
  · omega
  · injection hv with _ h2 _; omega
theorem drop_strip {t p r : List UInt8} {a : Nat} (h : strip p (t.drop a) = some r) (ha : a ≤ t.length) : t.drop (a + p.length) = r ∧ a + p.length ≤ t.length := by
  have h1 := strip_eq h
  have h2 := strip_len h
  rw [List.length_drop] at h2
  refine ⟨?_, by omega⟩
  rw [← List.drop_drop, h1]
  simp

set_option maxHeartbeats 6400000 in
theorem refParse_any (K : Nat) : ∀ (t : List UInt8) (i : Int) (a : Nat) (w : World), i = (a : Int) → t.length - a < K → a ≤ t.length → t.length ≤ 65536 →
    Calls Try.prog 49 #[.string ⟨t.toArray⟩, .int .i64 i] w (ParsePost t a w) := by
  induction K with
  | zero => intro t i a w _ h; omega
  | succ K ih =>
    intro t i a w hia hK ha hL
    subst hia
    obtain ⟨i0, hi0, hz0, hz1, hz2⟩ := info_parts sort_info
    have HS := Lib.hid (Going.start ha w)
    have HB := Lib.hid (fun p i a h W ha hp => begins_at t p i a h W ha hL hp)
    have HIH := Lib.hid ih
    clear ih
    go_enter Try.func49, Try.ntmps49
    go_wp2_with fail
    go_loopw [1] (fun i wr => ∃ acc cv us fp, ∃ a' : Nat, i = .int .i64 (a' : Int) ∧ Going t a w acc a' cv us fp wr) (fun i _ => t.length - (intOf i).toNat)
    case atStart => exact ⟨_, _, _, _, a, rfl, HS.out⟩
    case round =>
      obtain ⟨acc, cv, us, fp, a', rfl, hg⟩ := hrel
      have hle := hg.le
      have hal := hg.len
      have hge := hg.ge
      have hpe := parse_eq acc (t.drop a')
      rw [← hg.same] at hpe
      have hszr := hg.bel.size
      have hbl := hg.built.blk.lt
      have hc1 := hg.built.blk.cell 0
      have hc0 := hg.built.res.cell 0
      have hf0 := hg.built.res.frozen 0
      have hown := hg.built.own
      obtain ⟨A3, n3, c3, hcv⟩ := own_form hown
      have H1 := Lib.hid (fun i h W => HB.out [111] i a' h W hle (by simp))
      cases h1 : strip [111] (t.drop a') with
      | some r =>
        obtain ⟨e1, e2⟩ := drop_strip h1 hle
        simp only [List.length_cons, List.length_nil] at e1 e2
        rw [h1] at H1
        have H2 := Lib.hid (fun i h W => HB.out arrow i (a' + 1) h W (by omega) (by decide))
        rw [e1] at H2
        cases h2 : strip arrow r with
        | some q =>
          rw [h2] at H2
          have h2' := h2
          rw [← e1] at h2'
          obtain ⟨e3, e4⟩ := drop_strip h2' (by omega)
          have har : arrow.length = 3 := rfl
          rw [har] at e3 e4
          have HN : Hid (parse [] (t.drop a) = parse (acc ++ [.mk []]) (t.drop (a' + 1 + 3))) := Lib.hid (by rw [hpe, h1]; simp only [h2]; rw [e3])
          have BT := Lib.hid hg.built
          have HG := Lib.hid hg
          clear hpe h1 h2 h2' e1 e3 har hg hcv
          go_wp2_with fail
          refine (H1.out _ rfl _).mono ?_
          rintro e w1 ⟨rfl, rfl⟩
          go_wp2_with fail
          refine (H2.out _ (by omega) _).mono ?_
          rintro e w1 ⟨rfl, rfl⟩
          go_wp2_with (at_builtin; refine wpList_append_own_at _ rfl (.tmp 23) (.tmp 25) 22 rfl (w.heap.size + 1 + 1) 24 i0 _ 1 24 Try.underlying22 hi0 hz0 hz1 hz2 rfl (by decide) cv acc.length us rfl (hown.alloc _) ⟨wr.heap.size, 0, none⟩ 1 1 [.slice none 0 0] rfl rfl ?c1 ?c2 ?c3 ?c4 ?c5 ?_)
          case c1 => exact World.news_of_block (cs := #[.slice none 0 0]) (t := 24) (fr := (0, 0)) (heap_alloc_new wr _)
          case c2 => intro u hu; rw [List.mem_singleton.1 hu]; rfl
          case c3 => simp only [maxLen]; omega
          case c4 => omega
          case c5 => simp; omega
          intro v' w4 hown4 hgrow _ hat
          obtain ⟨A5, n5, c5, rfl⟩ := own_form hown4
          have bt := BT.out
          have hgw2 := bt.blk.lt
          have hb4 : Blk w4 (w.heap.size + 1) 24 #[cv] := (hgrow.block _ (by simp; omega) (fun e => by have := bt.own_lt _ e.symm; omega)).trans (bt.blk.alloc _)
          have hc4 := hb4.cell 0
          have hf4 := hb4.frozen 0
          have HNX := Lib.hid (HG.out.next (w1 := wr) (x := .mk []) (v1 := .slice none 0 0) (fp1 := []) (Below.refl _ _) (sep_nil' _) (by simp) (by simp) hown4 hgrow hat HN.out (by omega) (by omega))
          clear hown4 hgrow hat
          go_wp2_with fail
          go_roundw
          case rel => exact ⟨_, _, _, _, a' + 1 + 3, by go_num, HNX.out⟩
          case measure => simp [intOf]; omega
        | none =>
          rw [h2] at H2
          have HN : Hid (parse [] (t.drop a) = some (.mk acc, r)) := Lib.hid (by rw [hpe, h1]; simp only [h2])
          have E1 := Lib.hid e1
          have HG := Lib.hid hg
          clear hpe h1 h2 e1 hg
          subst hcv
          go_wp2_with fail
          refine (H1.out _ rfl _).mono ?_
          rintro e w1 ⟨rfl, rfl⟩
          go_wp2_with fail
          refine (H2.out _ (by omega) _).mono ?_
          rintro e w1 ⟨rfl, rfl⟩
          go_wp2_with fail
          have bt := HG.out.built
          refine bodyPost_ret (parse_results (y := .int .i64 ((a' + 1 : Nat) : Int)) (z := .bool true) rfl (by show Value.int .i64 _ = _; congr 1) rfl (bt.res.set_ 0 _)) rfl ?_
          obtain ⟨d1, d2, d3⟩ := bt.done (.slice A3 n3 c3)
          exact ParsePost.some_ HN.out E1.out (by omega) d1 d2 (fun k hk => by have := d3 k hk; omega) (HG.out.bel.setCell (p := ⟨w.heap.size, 0, none⟩) (Nat.le_refl _) _)
      | none =>
        rw [h1] at H1
        have H3 := Lib.hid (fun i h W => HB.out [40] i a' h W hle (by simp))
        cases h3 : strip [40] (t.drop a') with
        | none =>
          rw [h3] at H3
          have HN : Hid (parse [] (t.drop a) = none) := Lib.hid (by rw [hpe, h1, h3])
          have HG := Lib.hid hg
          clear hpe h1 h3 hg
          subst hcv
          go_wp2_with fail
          refine (H1.out _ rfl _).mono ?_
          rintro e w1 ⟨rfl, rfl⟩
          go_wp2_with fail
          refine (H3.out _ rfl _).mono ?_
          rintro e w1 ⟨rfl, rfl⟩
          go_wp2_with fail
          refine bodyPost_ret (parse_results (y := .int .i64 (a' : Int)) (z := .bool false) rfl rfl rfl (HG.out.built.res.set_ 0 _)) rfl ?_
          exact ParsePost.none_ HN.out (HG.out.bel.setCell (p := ⟨w.heap.size, 0, none⟩) (Nat.le_refl _) _)
        | some r =>
          obtain ⟨e1, e2⟩ := drop_strip h3 hle
          simp only [List.length_cons, List.length_nil] at e1 e2
          rw [h3] at H3
          have HC := Lib.hid (fun i h W => HIH.out t i (a' + 1) W h (by omega) (by omega) hL)
          cases h4 : parse [] r with
          | none =>
            have HQ : Hid (∀ W e w', ParsePost t (a' + 1) W e w' → ∃ A n c, ∃ i : Int, e = .returned (.tuple #[.agg #[.slice A n c], .int .i64 i, .bool false]) ∧ Below W.heap.size W w') := Lib.hid (fun W e w' h => by rw [ParsePost, e1, h4] at h; exact h)
            have HN : Hid (parse [] (t.drop a) = none) := Lib.hid (by rw [hpe, h1, h3]; simp only [h4])
            have HG := Lib.hid hg
            clear hpe h1 h3 h4 e1 hg
            subst hcv
            go_wp2_with fail
            refine (H1.out _ rfl _).mono ?_
            rintro e w1 ⟨rfl, rfl⟩
            go_wp2_with fail
            refine (H3.out _ rfl _).mono ?_
            rintro e w1 ⟨rfl, rfl⟩
            go_wp2_with fail
            refine (HC.out _ (by omega) _).mono ?_
            intro e w1 hp1
            obtain ⟨A, n, c, ii, rfl, b1⟩ := HQ.out _ _ _ hp1
            have z1 := b1.size
            have bt2 := (HG.out.built.below b1).below (below_new' w1 (.cells #[.slice A n c] 24))
            have hc4 := bt2.blk.cell 0
            have hc5 := bt2.res.cell 0
            have hf5 := bt2.res.frozen 0
            have BT2 := Lib.hid bt2
            clear bt2
            go_wp2_with fail
            refine bodyPost_ret (parse_results (y := .int .i64 (a' : Int)) (z := .bool false) rfl rfl rfl (BT2.out.res.set_ 0 _)) rfl ?_
            exact ParsePost.none_ HN.out (((HG.out.bel.trans (b1.mono hszr)).alloc (by omega) _).setCell (p := ⟨w.heap.size, 0, none⟩) (Nat.le_refl _) _)
          | some y =>
            obtain ⟨x, r2⟩ := y
            have l4 := parse_le h4
            have HQ : Hid (∀ W e w', ParsePost t (a' + 1) W e w' → ∃ v fp, ∃ nx : Nat, e = .returned (.tuple #[.agg #[v], .int .i64 (nx : Int), .bool true]) ∧ t.drop nx = r2 ∧ nx ≤ t.length ∧ x.Sep w' v fp ∧ fp.Nodup ∧ (∀ k ∈ fp, W.heap.size ≤ k ∧ k < w'.heap.size) ∧ Below W.heap.size W w') := Lib.hid (fun W e w' h => by rw [ParsePost, e1, h4] at h; exact h)
            have l5 := congrArg List.length e1
            rw [List.length_drop] at l5
            by_cases hx : x.args = []
            · have HN : Hid (parse [] (t.drop a) = none) := Lib.hid (by rw [hpe, h1, h3]; simp [h4, hx])
              have HX := Lib.hid hx
              have HG := Lib.hid hg
              clear hpe h1 h3 h4 e1 hg hx l5
              subst hcv
              go_wp2_with fail
              refine (H1.out _ rfl _).mono ?_
              rintro e w1 ⟨rfl, rfl⟩
              go_wp2_with fail
              refine (H3.out _ rfl _).mono ?_
              rintro e w1 ⟨rfl, rfl⟩
              go_wp2_with fail
              refine (HC.out _ (by omega) _).mono ?_
              intro e w1 hp1
              obtain ⟨v, f1, nx, rfl, q1, q2, g1, g2, g3, b1⟩ := HQ.out _ _ _ hp1
              obtain ⟨A, c, rfl⟩ := sep_empty HX.out g1
              have z1 := b1.size
              have bt2 := (HG.out.built.below b1).below (below_new' w1 (.cells #[.slice A 0 c] 24))
              have hc4 := bt2.blk.cell 0
              have hc5 := bt2.res.cell 0
              have hf5 := bt2.res.frozen 0
              have BT2 := Lib.hid bt2
              clear bt2 q1
              go_wp2_with fail
              refine bodyPost_ret (parse_results (y := .int .i64 (a' : Int)) (z := .bool false) rfl rfl rfl (BT2.out.res.set_ 0 _)) rfl ?_
              exact ParsePost.none_ HN.out (((HG.out.bel.trans (b1.mono hszr)).alloc (by omega) _).setCell (p := ⟨w.heap.size, 0, none⟩) (Nat.le_refl _) _)
            · have HX := Lib.hid hx
              cases h6 : strip (41 :: arrow) r2 with
              | none =>
                have HN : Hid (parse [] (t.drop a) = none) := Lib.hid (by rw [hpe, h1, h3]; simp [h4, hx, h6])
                have H6 := Lib.hid h6
                have HG := Lib.hid hg
                clear hpe h1 h3 h4 e1 hg hx h6 l5
                subst hcv
                go_wp2_with fail
                refine (H1.out _ rfl _).mono ?_
                rintro e w1 ⟨rfl, rfl⟩
                go_wp2_with fail
                refine (H3.out _ rfl _).mono ?_
                rintro e w1 ⟨rfl, rfl⟩
                go_wp2_with fail
                refine (HC.out _ (by omega) _).mono ?_
                intro e w1 hp1
                obtain ⟨v, f1, nx, rfl, q1, q2, g1, g2, g3, b1⟩ := HQ.out _ _ _ hp1
                obtain ⟨A, n, c, rfl⟩ := g1.form
                have hn0 := sep_pos HX.out g1
                have hnb : ((n : Int) == 0) = false := by rw [beq_eq_false_iff_ne]; omega
                have z1 := b1.size
                have bt2 := (HG.out.built.below b1).below (below_new' w1 (.cells #[.slice A n c] 24))
                have hc4 := bt2.blk.cell 0
                have hc5 := bt2.res.cell 0
                have hf5 := bt2.res.frozen 0
                have BT2 := Lib.hid bt2
                have hbg := HB.out (41 :: arrow) (nx : Int) nx rfl (w1.alloc (.cells #[.slice A n c] 24)) q2 (by decide)
                rw [q1, H6.out] at hbg
                have HBG := Lib.hid hbg
                clear bt2 q1 hbg
                go_wp2_with fail
                refine HBG.out.mono ?_
                rintro e w2 ⟨rfl, rfl⟩
                go_wp2_with fail
                refine bodyPost_ret (parse_results (y := .int .i64 (a' : Int)) (z := .bool false) rfl rfl rfl (BT2.out.res.set_ 0 _)) rfl ?_
                exact ParsePost.none_ HN.out (((HG.out.bel.trans (b1.mono hszr)).alloc (by omega) _).setCell (p := ⟨w.heap.size, 0, none⟩) (Nat.le_refl _) _)
              | some q =>
                have HN : Hid (parse [] (t.drop a) = parse (acc ++ [x]) q) := Lib.hid (by rw [hpe, h1, h3]; simp [h4, hx, h6])
                have H6 := Lib.hid h6
                have HG := Lib.hid hg
                have L5 := Lib.hid l5
                have hl5 : r.length + a' + 1 = t.length := by omega
                clear hpe h1 h3 h4 e1 hg hx h6 l5 hcv
                go_wp2_with fail
                refine (H1.out _ rfl _).mono ?_
                rintro e w1 ⟨rfl, rfl⟩
                go_wp2_with fail
                refine (H3.out _ rfl _).mono ?_
                rintro e w1 ⟨rfl, rfl⟩
                go_wp2_with fail
                refine (HC.out _ (by omega) _).mono ?_
                intro e w1 hp1
                obtain ⟨v, f1, nx, rfl, q1, q2, g1, g2, g3, b1⟩ := HQ.out _ _ _ hp1
                obtain ⟨A, n, c, rfl⟩ := g1.form
                have hn0 := sep_pos HX.out g1
                have hnb : ((n : Int) == 0) = false := by rw [beq_eq_false_iff_ne]; omega
                have z1 := b1.size
                have hwx := below_new' w1 (.cells #[.slice A n c] 24)
                have bt2 := (HG.out.built.below b1).below hwx
                have hc4 := bt2.blk.cell 0
                have hown := bt2.own
                have BT := Lib.hid bt2
                have hxc := (Blk.new w1 24 #[.slice A n c]).cell 0
                have hbg := HB.out (41 :: arrow) (nx : Int) nx rfl (w1.alloc (.cells #[.slice A n c] 24)) q2 (by decide)
                rw [q1, H6.out] at hbg
                have HBG := Lib.hid hbg
                have hq6 := H6.out
                rw [← q1] at hq6
                obtain ⟨e5, e6⟩ := drop_strip hq6 q2
                have har : (41 :: arrow : List UInt8).length = 4 := rfl
                rw [har] at e5 e6
                have hnx : r2.length + nx = t.length := by have := congrArg List.length q1; rw [List.length_drop] at this; omega
                have HE5 := Lib.hid e5
                have hlt6 : nx + 4 > a' := by omega
                have hacc : acc.length ≤ 65536 := by omega
                clear bt2 q1 hbg hq6 e5 har hnx hl5
                go_wp2_with fail
                refine HBG.out.mono ?_
                rintro e w2 ⟨rfl, rfl⟩
                generalize hW2 : w1.alloc (.cells #[.slice A n c] 24) = w2 at *
                have hb12 : Below wr.heap.size wr w2 := b1.trans (by rw [← hW2]; exact (Below.refl _ _).alloc (by omega) _)
                have g1' := g1.keep (w' := w2) _ (fun k hk => by rw [← hW2]; exact Below.heap_alloc _ _ _ (g3 k hk).2)
                have g3' : ∀ k ∈ f1, wr.heap.size ≤ k ∧ k < w2.heap.size := fun k hk => by have := g3 k hk; rw [← hW2]; simp; omega
                have hzz : w1.heap.size + 1 = w2.heap.size := by rw [← hW2]; simp
                clear hW2
                go_wp2_with (at_builtin; refine wpList_append_own_at _ rfl (.tmp 61) (.tmp 63) 22 rfl (w.heap.size + 1 + 1) 24 i0 _ 1 24 Try.underlying22 hi0 hz0 hz1 hz2 rfl (by decide) cv acc.length us rfl (hown.alloc _) ⟨w2.heap.size, 0, none⟩ 1 1 [.slice A n c] rfl rfl ?c1 ?c2 ?c3 ?c4 ?c5 ?_)
                case c1 => exact World.news_of_block (cs := #[.slice A n c]) (t := 24) (fr := (0, 0)) (heap_alloc_new w2 _)
                case c2 => intro u hu; rw [List.mem_singleton.1 hu]; rfl
                case c3 => simp only [maxLen]; omega
                case c4 => omega
                case c5 => simp; omega
                intro v' w4 hown4 hgrow _ hat
                obtain ⟨A5, n5, c5, rfl⟩ := own_form hown4
                have bt := BT.out
                have hgw2 := bt.blk.lt
                have hb4 : Blk w4 (w.heap.size + 1) 24 #[cv] := (hgrow.block _ (by simp; omega) (fun e => by have := bt.own_lt _ e.symm; omega)).trans (bt.blk.alloc _)
                have hc4 := hb4.cell 0
                have hf4 := hb4.frozen 0
                have HNX := Lib.hid (HG.out.next (w1 := w2) (x := x) (v1 := .slice A n c) (fp1 := f1) (a2 := nx + 4) hb12 g1' g2 g3' hown4 hgrow hat (by rw [HN.out, HE5.out]) (by omega) (by omega))
                clear hown4 hgrow hat
                go_wp2_with fail
                go_roundw
                case rel => exact ⟨_, _, _, _, nx + 4, by go_num, HNX.out⟩
                case measure => simp [intOf]; omega
end Go.Proofs.Ytbifnkjfjndjjaa
