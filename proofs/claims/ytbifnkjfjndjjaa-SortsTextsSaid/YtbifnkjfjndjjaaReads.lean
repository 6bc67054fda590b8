/-
  sorts' reader: part and sort, by the plain parser.
-/
import Derived.Test.YtbifnkjfjndjjaaReader
namespace Go.Proofs.Ytbifnkjfjndjjaa
open Go.RowKit

/-- What sort leaves. -/
def SortPost (t : List UInt8) (b : Nat) (w : World) (e : Ending) (w' : World) : Prop :=
  match parse [] t with
  | some (s, r) => ∃ v fp, e = .returned (.agg #[v]) ∧ s.Sep w' v fp ∧ fp.Nodup ∧ (∀ k ∈ fp, w.heap.size ≤ k ∧ k < w'.heap.size) ∧ Blk w' b 80 #[.string ⟨r.toArray⟩] ∧ Saves (fun k => k = b) w w'
  | none => e = pan ∧ Saves (fun k => k = b) w w'
/-- What part leaves. -/
def PartPost (t : List UInt8) (b : Nat) (w : World) (e : Ending) (w' : World) : Prop :=
  match part t with
  | some (s, fl, r) => ∃ v fp, e = .returned (.tuple #[.agg #[v], .bool fl]) ∧ s.Sep w' v fp ∧ fp.Nodup ∧ (∀ k ∈ fp, w.heap.size ≤ k ∧ k < w'.heap.size) ∧ Blk w' b 80 #[.string ⟨r.toArray⟩] ∧ Saves (fun k => k = b) w w'
  | none => e = pan ∧ Saves (fun k => k = b) w w'
theorem SortPost.none_ {t : List UInt8} {b : Nat} {w w' : World} (h : parse [] t = none) (hs : Saves (fun k => k = b) w w') : SortPost t b w pan w' := by
  rw [SortPost, h]; exact ⟨rfl, hs⟩
theorem SortPost.some_ {t r : List UInt8} {s : S} {b : Nat} {w w' : World} {v : Value} {fp : List Nat} (h : parse [] t = some (s, r)) (h1 : s.Sep w' v fp) (h2 : fp.Nodup) (h3 : ∀ k ∈ fp, w.heap.size ≤ k ∧ k < w'.heap.size)
    (h4 : Blk w' b 80 #[.string ⟨r.toArray⟩]) (hs : Saves (fun k => k = b) w w') : SortPost t b w (.returned (.agg #[v])) w' := by
  rw [SortPost, h]; exact ⟨v, fp, rfl, h1, h2, h3, h4, hs⟩
theorem PartPost.none_ {t : List UInt8} {b : Nat} {w w' : World} (h : part t = none) (hs : Saves (fun k => k = b) w w') : PartPost t b w pan w' := by
  rw [PartPost, h]; exact ⟨rfl, hs⟩
theorem PartPost.some_ {t r : List UInt8} {s : S} {fl : Bool} {b : Nat} {w w' : World} {v : Value} {fp : List Nat} (h : part t = some (s, fl, r)) (h1 : s.Sep w' v fp) (h2 : fp.Nodup) (h3 : ∀ k ∈ fp, w.heap.size ≤ k ∧ k < w'.heap.size)
    (h4 : Blk w' b 80 #[.string ⟨r.toArray⟩]) (hs : Saves (fun k => k = b) w w') : PartPost t b w (.returned (.tuple #[.agg #[v], .bool fl])) w' := by
  rw [PartPost, h]; exact ⟨v, fp, rfl, h1, h2, h3, h4, hs⟩

theorem part_results {tmps : Array Value} {w : World} {a : Nat} {x y : Value} (h2 : tmps.getD 2 undef = .pointer (some ⟨a, 0, none⟩)) (h3 : tmps.getD 3 undef = y)
    (ha : Blk w a 24 #[x]) : (results Try.f58 tmps).run Try.prog w = .ok (.tuple #[.agg #[x], y]) w := by
  have h4 := ha.cell 0
  simp at h4
  have h2' : tmps[2]?.getD undef = .pointer (some ⟨a, 0, none⟩) := by simpa using h2
  have h3' : tmps[3]?.getD undef = y := by simpa using h3
  simp [results, Try.results58, go_sem, h2', h3', h4]
theorem sep_nil' (w : World) : (S.mk []).Sep w (.slice none 0 0) [] := by
  simp only [S.Sep]
  exact ⟨[], [], ⟨by simp, .inl ⟨rfl, rfl⟩⟩, by simp [S.SepL], by simp [Value.ownBlock]⟩

theorem skip_yes {p t r : List UInt8} (h : strip p t = some r) (b : Nat) (w : World) (hb : Blk w b 80 #[.string ⟨t.toArray⟩]) :
    Calls Try.prog 59 #[.pointer (some ⟨b, 0, none⟩), .string ⟨p.toArray⟩] w fun e w' => e = .returned (.bool true) ∧ Blk w' b 80 #[.string ⟨r.toArray⟩] ∧ Saves (fun k => k = b) w w' := by
  refine (skip_any b p t w hb).mono fun e w' ⟨he, hw⟩ => ?_
  rw [h] at he hw
  subst hw
  exact ⟨he, hb.set_ 0 _, (Saves.refl (fun k => k = b) w).setCell (p := ⟨b, 0, none⟩) (.inl rfl) _⟩
theorem skip_no {p t : List UInt8} (h : strip p t = none) (b : Nat) (w : World) (hb : Blk w b 80 #[.string ⟨t.toArray⟩]) :
    Calls Try.prog 59 #[.pointer (some ⟨b, 0, none⟩), .string ⟨p.toArray⟩] w fun e w' => e = .returned (.bool false) ∧ Blk w' b 80 #[.string ⟨t.toArray⟩] ∧ Saves (fun k => k = b) w w' := by
  refine (skip_any b p t w hb).mono fun e w' ⟨he, hw⟩ => ?_
  rw [h] at he hw
  subst hw
  exact ⟨he, hb.set_ 0 _, (Saves.refl (fun k => k = b) w).setCell (p := ⟨b, 0, none⟩) (.inl rfl) _⟩

set_option maxHeartbeats 400000 in
theorem word_yes {p t r : List UInt8} (h : strip p t = some r) (b : Nat) (w : World) (hb : Blk w b 80 #[.string ⟨t.toArray⟩]) :
    Calls Try.prog 66 #[.pointer (some ⟨b, 0, none⟩), .string ⟨p.toArray⟩] w fun e w' => e = .returned (.tuple #[]) ∧ Blk w' b 80 #[.string ⟨r.toArray⟩] ∧ Saves (fun k => k = b) w w' := by
  have H1 := Lib.hid (skip_yes h b w hb)
  go_enter Try.func66, Try.ntmps66
  go_wp2_with fail
  refine H1.out.mono ?_
  rintro e w1 ⟨rfl, b1, s1⟩
  go_wp2_with fail
  refine (must_yes b w1).mono ?_
  rintro e w2 ⟨rfl, rfl⟩
  go_wp2_with fail
  go_end0
  exact ⟨rfl, b1, s1⟩
set_option maxHeartbeats 400000 in
theorem word_no {p t : List UInt8} (h : strip p t = none) (b : Nat) (w : World) (hb : Blk w b 80 #[.string ⟨t.toArray⟩]) :
    Calls Try.prog 66 #[.pointer (some ⟨b, 0, none⟩), .string ⟨p.toArray⟩] w fun e w' => e = pan ∧ Saves (fun k => k = b) w w' := by
  have H1 := Lib.hid (skip_no h b w hb)
  go_enter Try.func66, Try.ntmps66
  go_wp2_with fail
  refine H1.out.mono ?_
  rintro e w1 ⟨rfl, b1, s1⟩
  go_wp2_with fail
  refine (must_no b w1).mono ?_
  rintro e w2 ⟨rfl, rfl⟩
  exact ⟨rfl, rfl, s1⟩

set_option maxHeartbeats 1600000 in
theorem part_any {K : Nat} (ih : ∀ (t : List UInt8) (b : Nat) (w : World), t.length < K → t.length ≤ 65536 → Blk w b 80 #[.string ⟨t.toArray⟩] → Calls Try.prog 48 #[.pointer (some ⟨b, 0, none⟩)] w (SortPost t b w))
    (t : List UInt8) (b : Nat) (w : World) (hK : t.length ≤ K) (hL : t.length ≤ 65536) (hb : Blk w b 80 #[.string ⟨t.toArray⟩]) :
    Calls Try.prog 58 #[.pointer (some ⟨b, 0, none⟩)] w (PartPost t b w) := by
  have hbw := hb.lt
  have b0 : Blk (w.alloc (.cells #[.slice none 0 0] 24)) b 80 #[.string ⟨t.toArray⟩] := hb.alloc _
  have r0 := Blk.new w 24 #[.slice none 0 0]
  have s0 : Saves (fun k => k = b) w (w.alloc (.cells #[.slice none 0 0] 24)) := (Saves.refl _ _).alloc _
  have hgr : ¬ w.heap.size = b := by omega
  cases h1 : strip [40] t with
  | none =>
    have hpart : part t = match strip [111] t with | some r => some (.mk [], false, r) | none => none := by simp only [part, h1]; cases strip [111] t <;> rfl
    have H1 := Lib.hid (skip_no h1 b _ b0)
    cases h2 : strip [111] t with
    | none =>
      have HP : Hid (part t = none) := Lib.hid (by rw [hpart, h2])
      have H2 := Lib.hid (fun W => word_no h2 b W)
      clear h1 h2 hpart ih
      go_enter Try.func58, Try.ntmps58
      go_wp2_with fail
      refine H1.out.mono ?_
      rintro e w1 ⟨rfl, b1, s1⟩
      go_wp2_with fail
      refine (H2.out _ b1).mono ?_
      rintro e w2 ⟨rfl, s2⟩
      exact ⟨rfl, PartPost.none_ HP.out ((s0.trans s1).trans s2)⟩
    | some r =>
      have HP : Hid (part t = some (.mk [], false, r)) := Lib.hid (by rw [hpart, h2])
      have H2 := Lib.hid (fun W => word_yes h2 b W)
      clear h1 h2 hpart ih
      go_enter Try.func58, Try.ntmps58
      go_wp2_with fail
      refine H1.out.mono ?_
      rintro e w1 ⟨rfl, b1, s1⟩
      go_wp2_with fail
      refine (H2.out _ b1).mono ?_
      rintro e w2 ⟨rfl, b2, s2⟩
      have r2 := (r0.saves s1 hgr).saves s2 hgr
      have hc2 := r2.cell 0
      have hf2 := r2.frozen 0
      go_wp2_with fail
      refine bodyPost_ret (part_results (y := .bool false) rfl rfl (r2.set_ 0 _)) rfl ?_
      exact PartPost.some_ (fp := []) HP.out (sep_nil' _) (by simp) (by simp) (b2.far (by show b ≠ w.heap.size; omega) _) (((s0.trans s1).trans s2).setCell (.inr (Nat.le_refl _)) _)
  | some r =>
    have l1 := strip_len h1
    simp at l1
    have H1 := Lib.hid (skip_yes h1 b _ b0)
    have HS := Lib.hid (fun W => ih r b W (by omega) (by omega))
    clear ih
    cases h2 : parse [] r with
    | none =>
      have HP : Hid (part t = none) := Lib.hid (by simp only [part, h1, h2])
      have HN : Hid (∀ W e w', SortPost r b W e w' → e = pan ∧ Saves (fun k => k = b) W w') := Lib.hid (fun W e w' h => by rw [SortPost, h2] at h; exact h)
      clear h1 h2
      go_enter Try.func58, Try.ntmps58
      go_wp2_with fail
      refine H1.out.mono ?_
      rintro e w1 ⟨rfl, b1, s1⟩
      go_wp2_with fail
      refine (HS.out _ b1).mono ?_
      intro e w2 h3
      obtain ⟨rfl, s2⟩ := HN.out _ _ _ h3
      exact ⟨rfl, PartPost.none_ HP.out ((s0.trans s1).trans s2)⟩
    | some y =>
      obtain ⟨x, r2⟩ := y
      have l2 := parse_le h2
      have HY : Hid (∀ W e w', SortPost r b W e w' → ∃ v fp, e = .returned (.agg #[v]) ∧ x.Sep w' v fp ∧ fp.Nodup ∧ (∀ k ∈ fp, W.heap.size ≤ k ∧ k < w'.heap.size) ∧ Blk w' b 80 #[.string ⟨r2.toArray⟩] ∧ Saves (fun k => k = b) W w') :=
        Lib.hid (fun W e w' h => by rw [SortPost, h2] at h; exact h)
      have hpart : part t = if x.args.isEmpty then none else (match strip [41] r2 with | some q => some (x, true, q) | none => none) := by simp only [part, h1, h2]; cases strip [41] r2 <;> rfl
      by_cases hx : x.args = []
      · have HP : Hid (part t = none) := Lib.hid (by rw [hpart, hx]; rfl)
        have HX := Lib.hid hx
        clear h1 h2 hpart hx
        go_enter Try.func58, Try.ntmps58
        go_wp2_with fail
        refine H1.out.mono ?_
        rintro e w1 ⟨rfl, b1, s1⟩
        go_wp2_with fail
        refine (HS.out _ b1).mono ?_
        intro e w2 h3
        obtain ⟨v, fp, rfl, g1, g2, g3, g4, g5⟩ := HY.out _ _ _ h3
        obtain ⟨A, c, rfl⟩ : ∃ A c, v = .slice A 0 c := by
          have := g1
          obtain ⟨l⟩ := x
          have hl : l = [] := HX.out
          subst hl
          simp only [S.Sep] at this
          obtain ⟨us, rest, ho, _⟩ := this
          rcases ho.2 with ⟨rfl, _⟩ | ⟨g, cap, cur, rfl, _⟩
          · exact ⟨_, _, rfl⟩
          · exact ⟨_, _, rfl⟩
        have r2 := (r0.saves s1 hgr).saves g5 hgr
        have hc2 := r2.cell 0
        have hf2 := r2.frozen 0
        go_wp2_with fail
        refine (must_no b _).mono ?_
        rintro e w3 ⟨rfl, rfl⟩
        exact ⟨rfl, PartPost.none_ HP.out (((s0.trans s1).trans g5).setCell (.inr (Nat.le_refl _)) _)⟩
      · have hx' : x.args.isEmpty = false := by simpa using hx
        have hlen : ∀ (w : World) (A : Option Addr) (n c : Nat) (fp : List Nat), x.Sep w (.slice A n c) fp → 0 < n := by
          intro w A n c fp h
          obtain ⟨l⟩ := x
          simp only [S.Sep] at h
          obtain ⟨us, rest, ho, _⟩ := h
          have hl : 0 < l.length := List.length_pos_iff.2 hx
          rcases ho.2 with ⟨_, h0⟩ | ⟨g, cap, cur, hv, _⟩
          · omega
          · injection hv with _ h2 _; omega
        have HLen := Lib.hid hlen
        cases h3 : strip [41] r2 with
        | none =>
          have HP : Hid (part t = none) := Lib.hid (by simp [hpart, hx', h3])
          have H3 := Lib.hid (fun W => word_no h3 b W)
          clear h1 h2 h3 hpart hx hx' hlen
          go_enter Try.func58, Try.ntmps58
          go_wp2_with fail
          refine H1.out.mono ?_
          rintro e w1 ⟨rfl, b1, s1⟩
          go_wp2_with fail
          refine (HS.out _ b1).mono ?_
          intro e w2 h3
          obtain ⟨v, fp, rfl, g1, g2, g3, g4, g5⟩ := HY.out _ _ _ h3
          obtain ⟨A, n, c, rfl⟩ := g1.form
          have hn := HLen.out _ _ _ _ _ g1
          have q2 := (r0.saves s1 hgr).saves g5 hgr
          have hc2 := q2.cell 0
          have hf2 := q2.frozen 0
          have hgt : decide ((0 : Int) < (n : Int)) = true := by simpa using hn
          have b3 := g4.far (p := ⟨w.heap.size, 0, none⟩) (by show b ≠ w.heap.size; omega) (.slice A n c)
          have H4 := Lib.hid (H3.out _ b3)
          go_wp2_with fail
          refine (must_yes b _).mono ?_
          rintro e w3 ⟨rfl, rfl⟩
          go_wp2_with fail
          refine H4.out.mono ?_
          rintro e w3 ⟨rfl, s4⟩
          exact ⟨rfl, PartPost.none_ HP.out ((((s0.trans s1).trans g5).setCell (.inr (Nat.le_refl _)) _).trans s4)⟩
        | some q =>
          have HP : Hid (part t = some (x, true, q)) := Lib.hid (by simp [hpart, hx', h3])
          have H3 := Lib.hid (fun W => word_yes h3 b W)
          clear h1 h2 h3 hpart hx hx' hlen
          go_enter Try.func58, Try.ntmps58
          go_wp2_with fail
          refine H1.out.mono ?_
          rintro e w1 ⟨rfl, b1, s1⟩
          go_wp2_with fail
          refine (HS.out _ b1).mono ?_
          intro e w2 h3
          obtain ⟨v, fp, rfl, g1, g2, g3, g4, g5⟩ := HY.out _ _ _ h3
          obtain ⟨A, n, c, rfl⟩ := g1.form
          have hn := HLen.out _ _ _ _ _ g1
          have hz1 := s1.size
          simp only [World.size_alloc] at hz1
          have q2 := (r0.saves s1 hgr).saves g5 hgr
          have hc2 := q2.cell 0
          have hf2 := q2.frozen 0
          have hgt : decide ((0 : Int) < (n : Int)) = true := by simpa using hn
          have b3 := g4.far (p := ⟨w.heap.size, 0, none⟩) (by show b ≠ w.heap.size; omega) (.slice A n c)
          have q3 := q2.set_ 0 (.slice A n c)
          have g13 := g1.keep (w' := w2.setCell ⟨w.heap.size, 0, none⟩ (.slice A n c)) _ (fun k hk => Below.heap_setCell _ _ _ _ (by have := g3 k hk; show k ≠ w.heap.size; omega))
          have H4 := Lib.hid (H3.out _ b3)
          go_wp2_with fail
          refine (must_yes b _).mono ?_
          rintro e w4 ⟨rfl, rfl⟩
          go_wp2_with fail
          refine H4.out.mono ?_
          rintro e w3 ⟨rfl, b4, s4⟩
          have q4 := q3.saves s4 hgr
          have hz4 := s4.size
          have hc4 := q4.cell 0
          have hf4 := q4.frozen 0
          simp at hc4
          go_wp2_with fail
          refine bodyPost_ret (part_results (y := .bool true) rfl rfl (q4.set_ 0 _)) rfl ?_
          have hz5 : w2.heap.size ≤ w3.heap.size := by simpa [World.setCell] using hz4
          refine PartPost.some_ (fp := fp) HP.out ?_ g2 ?_ (b4.far (by show b ≠ w.heap.size; omega) _) (((((s0.trans s1).trans g5).setCell (.inr (Nat.le_refl _)) _).trans s4).setCell (.inr (Nat.le_refl _)) _)
          · refine g13.keep _ (fun k hk => ?_)
            have := g3 k hk
            rw [Below.heap_setCell _ _ _ _ (by show k ≠ w.heap.size; omega)]
            exact s4.block k (by simp [World.setCell]; omega) (by omega)
          · intro k hk
            have := g3 k hk
            simp [World.setCell]
            omega
end Go.Proofs.Ytbifnkjfjndjjaa
