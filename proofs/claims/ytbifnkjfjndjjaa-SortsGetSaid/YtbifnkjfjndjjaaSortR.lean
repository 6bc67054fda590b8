/-
  sorts' reader: sort.
-/
import Derived.Test.YtbifnkjfjndjjaaReads
namespace Go.Proofs.Ytbifnkjfjndjjaa
open Go.RowKit

theorem Built.done {acc : List S} {lo gc gr : Nat} {cv : Value} {us : List Value} {fp : List Nat} {w : World} (h : Built acc lo gc gr cv us fp w) (u : Value) :
    (S.mk acc).Sep (w.setCell ⟨gr, 0, none⟩ u) cv (cv.ownBlock.toList ++ fp) ∧ (cv.ownBlock.toList ++ fp).Nodup ∧ ∀ k ∈ cv.ownBlock.toList ++ fp, lo ≤ k ∧ k < (w.setCell ⟨gr, 0, none⟩ u).heap.size := by
  have hall : ∀ k ∈ cv.ownBlock.toList ++ fp, lo ≤ k ∧ k < w.heap.size := by
    intro k hk
    rcases List.mem_append.1 hk with hk | hk
    · exact h.own_lt k (by simpa using hk)
    · exact h.rng k hk
  have hs : (S.mk acc).Sep w cv (cv.ownBlock.toList ++ fp) := by
    simp only [S.Sep]
    refine ⟨us, fp, ⟨h.own.1, ?_⟩, h.sep, rfl⟩
    rcases h.own.2 with h1 | ⟨g, cap, cur, h1, h2, h3⟩
    · exact .inl h1
    · exact .inr ⟨g, cap, cur, h1, Nat.zero_le _, h3⟩
  have hg := h.grl
  refine ⟨hs.keep _ (fun k hk => Below.heap_setCell _ _ _ _ (by have := hall k hk; show k ≠ gr; omega)), h.nod, fun k hk => by have := hall k hk; simpa [World.setCell] using this⟩

/-- How long the text in a cell is. -/
def leftIn (o : Option Value) : Nat := match o with | some (.string s) => s.size | _ => 0

theorem sort_results {tmps : Array Value} {w : World} {a : Nat} {x : Value} (h2 : tmps.getD 2 undef = .pointer (some ⟨a, 0, none⟩))
    (ha : Blk w a 24 #[x]) : (results Try.f48 tmps).run Try.prog w = .ok (.agg #[x]) w := by
  have h4 := ha.cell 0
  simp at h4
  have h2' : tmps[2]?.getD undef = .pointer (some ⟨a, 0, none⟩) := by simpa using h2
  simp [results, Try.results48, go_sem, h2', h4]

/-- The loop's relation: the reader has t' left, acc has been read. -/
structure Reading (t : List UInt8) (b : Nat) (w : World) (acc : List S) (t' : List UInt8) (cv : Value) (us : List Value) (fp : List Nat) (wr : World) : Prop where
  built : Built acc (w.heap.size + 1 + 1) (w.heap.size + 1) w.heap.size cv us fp wr
  text : Blk wr b 80 #[.string ⟨t'.toArray⟩]
  same : parse [] t = parse acc t'
  len : acc.length + t'.length ≤ t.length
  sav : Saves (fun k => k = b) w wr

theorem Reading.start {t : List UInt8} {b : Nat} {w : World} (hb : Blk w b 80 #[.string ⟨t.toArray⟩]) :
    Reading t b w [] t (.slice none 0 0) [] [] ((w.alloc (.cells #[.slice none 0 0] 24)).alloc (.cells #[.slice none 0 0] 24)) where
  built := ⟨⟨by simp, .inl ⟨rfl, rfl⟩⟩, by simp [S.SepL], by simp [Value.ownBlock], by simp, by simpa using Blk.new (w.alloc (.cells #[.slice none 0 0] 24)) 24 #[.slice none 0 0], (Blk.new _ _ _).alloc _, by omega, by omega, by omega, by simp⟩
  text := (hb.alloc _).alloc _
  same := rfl
  len := by simp
  sav := ((Saves.refl _ _).alloc _).alloc _

set_option maxHeartbeats 3200000 in
theorem sort_any (K : Nat) : ∀ (t : List UInt8) (b : Nat) (w : World), t.length < K → t.length ≤ 65536 → Blk w b 80 #[.string ⟨t.toArray⟩] →
    Calls Try.prog 48 #[.pointer (some ⟨b, 0, none⟩)] w (SortPost t b w) := by
  induction K with
  | zero => intro t b w h; omega
  | succ K ih =>
    intro t b w hK hL hb
    have hbw := hb.lt
    obtain ⟨i0, hi0, hz0, hz1, hz2⟩ := info_parts sort_info
    have hIP := fun t' W h1 h2 => part_any ih t' b W h1 h2
    have HP := Lib.hid hIP
    have HS := Lib.hid (Reading.start hb)
    clear hIP ih hb
    go_enter Try.func48, Try.ntmps48
    go_wp2_with fail
    go_loopw [] (fun wr => ∃ acc t' cv us fp, Reading t b w acc t' cv us fp wr) (fun wr => leftIn (wr.cell? ⟨b, 0, none⟩))
    case atStart => exact ⟨_, _, _, _, _, HS.out⟩
    case round =>
      obtain ⟨acc, t', cv, us, fp, hr⟩ := hrel
      have hlen := hr.len
      have hcb0 := hr.text.cell 0
      have HC := Lib.hid (HP.out t' wr (by omega) (by omega) hr.text)
      have hpp := parse_part acc t'
      rw [← hr.same] at hpp
      have hszr := hr.sav.size
      have hbl := hr.built.blk.lt
      cases hpt : part t' with
      | none =>
        have hN : parse [] t = none := by rw [hpp, hpt]
        have HQ : Hid (∀ e w', PartPost t' b wr e w' → e = pan ∧ Saves (fun k => k = b) wr w') := Lib.hid (fun e w' h => by rw [PartPost, hpt] at h; exact h)
        have HN := Lib.hid hN
        have HR := Lib.hid hr
        clear hpp hpt hN hr
        go_wp2_with fail
        refine HC.out.mono ?_
        intro e w1 h1
        obtain ⟨rfl, s1⟩ := HQ.out _ _ h1
        exact ⟨rfl, SortPost.none_ HN.out (HR.out.sav.trans s1)⟩
      | some y =>
        obtain ⟨x, fl, r⟩ := y
        have hle := part_le hpt
        have HQ : Hid (∀ e w', PartPost t' b wr e w' → ∃ v fp, e = .returned (.tuple #[.agg #[v], .bool fl]) ∧ x.Sep w' v fp ∧ fp.Nodup ∧ (∀ k ∈ fp, wr.heap.size ≤ k ∧ k < w'.heap.size) ∧ Blk w' b 80 #[.string ⟨r.toArray⟩] ∧ Saves (fun k => k = b) wr w') :=
          Lib.hid (fun e w' h => by rw [PartPost, hpt] at h; exact h)
        cases hst : strip arrow r with
        | none =>
          have H3 := Lib.hid (fun W => skip_no hst b W)
          cases fl with
          | true =>
            have HN : Hid (parse [] t = none) := Lib.hid (by rw [hpp, hpt]; simp [hst])
            have HR := Lib.hid hr
            clear hpp hpt hr hst
            go_wp2_with fail
            refine HC.out.mono ?_
            intro e w1 h1
            obtain ⟨v, f1, rfl, g1, g2, g3, g4, g5⟩ := HQ.out _ _ h1
            obtain ⟨A, n, c, rfl⟩ := g1.form
            have b2 := g4.alloc (.cells #[.slice A n c] 24)
            have H4 := Lib.hid (H3.out _ b2)
            go_wp2_with fail
            refine H4.out.mono ?_
            rintro e w2 ⟨rfl, b3, s3⟩
            go_wp2_with fail
            refine (must_no b _).mono ?_
            rintro e w4 ⟨rfl, rfl⟩
            exact ⟨rfl, SortPost.none_ HN.out (((HR.out.sav.trans g5).alloc _).trans s3)⟩
          | false =>
            have HN : Hid (parse [] t = some (.mk acc, r)) := Lib.hid (by rw [hpp, hpt]; simp [hst])
            have HR := Lib.hid hr
            clear hpp hpt hr hst
            go_wp2_with fail
            refine HC.out.mono ?_
            intro e w1 h1
            obtain ⟨v, f1, rfl, g1, g2, g3, g4, g5⟩ := HQ.out _ _ h1
            obtain ⟨A, n, c, rfl⟩ := g1.form
            have b2 := g4.alloc (.cells #[.slice A n c] 24)
            have H4 := Lib.hid (H3.out _ b2)
            go_wp2_with fail
            refine H4.out.mono ?_
            rintro e w2 ⟨rfl, b3, s3⟩
            have bt3 := (HR.out.built.saves (((g5).alloc (.cells #[.slice A n c] 24)).trans s3) (by omega) (by omega) (by omega))
            obtain ⟨A3, n3, c3, rfl⟩ := own_form bt3.own
            have hc3 := bt3.blk.cell 0
            have hr3 := bt3.res.cell 0
            have hf3 := bt3.res.frozen 0
            have BT := Lib.hid bt3
            clear bt3
            go_wp2_with fail
            refine (must_yes b _).mono ?_
            rintro e w4 ⟨rfl, rfl⟩
            go_wp2_with fail
            have bt := BT.out
            refine bodyPost_ret (sort_results rfl (bt.res.set_ 0 _)) rfl ?_
            obtain ⟨d1, d2, d3⟩ := bt.done (.slice A3 n3 c3)
            exact SortPost.some_ HN.out d1 d2 (fun k hk => by have := d3 k hk; omega) (b3.far (by show b ≠ w.heap.size; omega) _) ((((HR.out.sav.trans g5).alloc _).trans s3).setCell (.inr (Nat.le_refl _)) _)
        | some q =>
          have hlq := strip_len hst
          have HN : Hid (parse [] t = parse (acc ++ [x]) q) := Lib.hid (by rw [hpp, hpt]; simp [hst])
          have H3 := Lib.hid (fun W => skip_yes hst b W)
          have HR := Lib.hid hr
          have har : arrow.length = 3 := rfl
          rw [har] at hlq
          clear hpp hpt hr hst har
          go_wp2_with fail
          refine HC.out.mono ?_
          intro e w1 h1
          obtain ⟨v, f1, rfl, g1, g2, g3, g4, g5⟩ := HQ.out _ _ h1
          obtain ⟨A, n, c, rfl⟩ := g1.form
          have b2 := g4.alloc (.cells #[.slice A n c] 24)
          have H4 := Lib.hid (H3.out _ b2)
          have hzw1 := g5.size
          go_wp2_with fail
          refine H4.out.mono ?_
          rintro e w2 ⟨rfl, b3, s3⟩
          have hz3 := s3.size
          simp only [World.size_alloc] at hz3
          have sv := ((g5).alloc (.cells #[.slice A n c] 24)).trans s3
          have bt3 := (HR.out.built.saves sv (by omega) (by omega) (by omega))
          have hc3 := bt3.blk.cell 0
          have hx3 : Blk w2 w1.heap.size 24 #[.slice A n c] := (Blk.new w1 _ _).saves s3 (by omega)
          have hxc := hx3.cell 0
          have hown := bt3.own
          have BT := Lib.hid bt3
          clear bt3
          have hacc : acc.length ≤ 65536 := by omega
          go_wp2_with (at_builtin; go_loud (refine wpList_append_own_at _ rfl (.tmp 20) (.tmp 22) 22 rfl (w.heap.size + 1 + 1) 24 i0 _ 1 24 Try.underlying22 hi0 hz0 hz1 hz2 rfl (by decide) cv acc.length us rfl (hown.alloc _) ⟨w2.heap.size, 0, none⟩ 1 1 [.slice A n c] rfl rfl ?c1 ?c2 ?c3 ?c4 ?c5 ?_))
          case c1 => exact World.news_of_block (cs := #[.slice A n c]) (t := 24) (fr := (0, 0)) (heap_alloc_new w2 _)
          case c2 => intro u hu; rw [List.mem_singleton.1 hu]; rfl
          case c3 => simp only [maxLen]; omega
          case c4 => omega
          case c5 => simp; omega
          intro v' w4 hown4 hgrow _ hat
          obtain ⟨A5, n5, c5, rfl⟩ := own_form hown4
          have bt := BT.out
          have hgw2 := bt.blk.lt
          have hb4 : Blk w4 (w.heap.size + 1) 24 #[cv] := (hgrow.block _ (by simp; omega) (fun e => by have := bt.own_lt _ e.symm; omega)).trans (bt.blk.alloc _)
          have hbt4 : Blk w4 b 80 #[.string ⟨q.toArray⟩] := (hgrow.block _ (by have := b3.lt; simp; omega) (fun e => by have := bt.own_lt _ e.symm; omega)).trans (b3.alloc _)
          have hc4 := hb4.cell 0
          have hf4 := hb4.frozen 0
          have hq1 : ∀ k ∈ f1, w1.heap.size > k := fun k hk => (g3 k hk).2
          have hnx := HR.out.built.next (x := x) (w1 := w2) (v1 := .slice A n c) (fp1 := f1) (v' := .slice A5 n5 c5) (o1 := .cells #[.slice A n c] 24) (w2 := w4)
            (fun k hk hor => sv.block k hk (by omega)) (by omega)
            (g1.keep _ (fun k hk => by
              have h1 := g3 k hk
              rw [s3.block k (by simp; omega) (by omega)]
              exact Below.heap_alloc _ _ _ h1.2)) g2 (fun k hk => by have := g3 k hk; omega) hown4 hgrow hat
          have HNX := Lib.hid hnx
          have hsv2 : Saves (fun k => k = b) w w2 := HR.out.sav.trans sv
          have hz2w := hsv2.size
          have hsv4 : Saves (fun k => k = b) w w4 := ⟨hgrow.os.trans hsv2.os, hgrow.tape.trans hsv2.tape, hgrow.output.trans hsv2.output, by have := hgrow.size; simp at this; omega,
            fun k hk hne => (hgrow.block k (by simp; omega) (fun e => by have := bt.own_lt _ e.symm; omega)).trans ((Below.heap_alloc _ _ _ (by omega)).trans (hsv2.block k hk hne))⟩
          have HSV := Lib.hid hsv4
          clear hnx hsv4 hsv2
          go_wp2_with fail
          go_roundw
          case rel =>
            refine ⟨_, q, _, _, _, ⟨HNX.out, ?_, HN.out, ?_, ?_⟩⟩
            · exact hbt4.far (p := ⟨w.heap.size + 1, 0, none⟩) (by show b ≠ w.heap.size + 1; omega) _
            · simp only [List.length_append, List.length_cons, List.length_nil]; omega
            · exact HSV.out.setCell (p := ⟨w.heap.size + 1, 0, none⟩) (.inr (Nat.le_succ _)) _
          case measure =>
            have hq : (w4.setCell ⟨w.heap.size + 1, 0, none⟩ (.slice A5 n5 c5)).cell? ⟨b, 0, none⟩ = some (.string ⟨q.toArray⟩) := (hbt4.far (p := ⟨w.heap.size + 1, 0, none⟩) (by show b ≠ w.heap.size + 1; omega) _).cell 0
            have ht : wr.cell? ⟨b, 0, none⟩ = some (.string ⟨t'.toArray⟩) := HR.out.text.cell 0
            rw [hq, ht]
            show q.toArray.size < t'.toArray.size
            simp
            omega
end Go.Proofs.Ytbifnkjfjndjjaa
