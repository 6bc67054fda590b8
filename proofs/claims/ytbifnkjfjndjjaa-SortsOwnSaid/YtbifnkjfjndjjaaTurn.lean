/-
  The statements' turn: it writes in the blocks of the list that it is handed, and nowhere else.
-/
import Derived.Test.YtbifnkjfjndjjaaClone
namespace Go.Proofs.Ytbifnkjfjndjjaa
open Go.RowKit

/-- What turn's loop holds behind k rounds: of the list's block the cells from k on are as they were; what is still to come is as it was. -/
structure Turn (l : List S) (us : List Value) (g cap : Nat) (rest : List Nat) (w0 : World) (k : Nat) (w : World) : Prop where
  blk : ∃ cs, Blk w g 24 cs ∧ cs.size = cap ∧ ∀ j, k ≤ j → j < l.length → cs[j]? = us[j]?
  todo : ∃ done fp, rest = done ++ fp ∧ S.SepL w (l.drop k) (us.drop k) fp
  sav : Saves (fun b => b = g ∨ b ∈ rest) w0 w

theorem Turn.start {l : List S} {us : List Value} {g cap : Nat} {cur : Array Value} {rest : List Nat} {w : World} (hb : Blk w g 24 cur) (hc : cur.size = cap) (ht : cur.toList.take l.length = us)
    (hs : S.SepL w l us rest) : Turn l us g cap rest w 0 w where
  blk := ⟨cur, hb, hc, fun j _ hj => by rw [← ht, List.getElem?_take_of_lt hj]; simp⟩
  todo := ⟨[], rest, rfl, hs⟩
  sav := Saves.refl _ _

/-- One round: the part's own blocks have turned, then the list's cell is stored. -/
theorem Turn.next {l : List S} {us : List Value} {g cap : Nat} {rest : List Nat} {w0 wr w1 : World} {k : Nat} {f1 f2 done : List Nat} {v : Value}
    (ht : Turn l us g cap rest w0 k wr) (hnod : (g :: rest).Nodup) (hlt : ∀ b ∈ rest, b < wr.heap.size) (hrest : rest = done ++ (f1 ++ f2)) (hs2 : S.SepL wr (l.drop (k + 1)) (us.drop (k + 1)) f2)
    (hsv : Saves (fun b => b ∈ f1) wr w1) : Turn l us g cap rest w0 (k + 1) (w1.setCell ⟨g, k, none⟩ v) := by
  obtain ⟨cs, hb, hc, hcs⟩ := ht.blk
  have hn := List.nodup_cons.1 hnod
  have hgf : g ∉ f1 := fun h => hn.1 (by rw [hrest]; simp [h])
  have hb1 : Blk w1 g 24 cs := hb.saves hsv hgf
  have hn2 : (done ++ (f1 ++ f2)).Nodup := hrest ▸ hn.2
  refine ⟨⟨cs.setIfInBounds k v, hb1.set_ k v, by simpa using hc, fun j hj hjl => ?_⟩, ⟨done ++ f1, f2, by rw [hrest]; simp, hs2.keep _ fun b hb' => ?_⟩, ?_⟩
  · rw [Array.getElem?_setIfInBounds_ne (by omega)]
    exact hcs j (by omega) hjl
  · have hbf : b ∉ f1 := fun h => by
      have := (List.nodup_append.1 (List.nodup_append.1 hn2).2.1).2.2 b h b hb'
      exact this rfl
    have hbg : b ≠ g := fun e => hn.1 (by rw [hrest]; subst e; simp [hb'])
    rw [Below.heap_setCell _ _ _ _ hbg]
    exact hsv.block b (hlt b (by rw [hrest]; simp [hb'])) hbf
  · exact (ht.sav.trans (hsv.mono fun b _ h => .inr (by rw [hrest]; simp [h]))).setCell (.inl (.inl rfl)) _

theorem Turn.below {l : List S} {us : List Value} {g cap : Nat} {rest : List Nat} {w0 w w' : World} {k : Nat} (ht : Turn l us g cap rest w0 k w) (hlt : ∀ b ∈ rest, b < w.heap.size) (hb : Below w.heap.size w w') : Turn l us g cap rest w0 k w' := by
  obtain ⟨⟨cs, h1, h2, h3⟩, ⟨done, fp, h4, h5⟩, h6⟩ := ht
  exact ⟨⟨cs, h1.below hb h1.lt, h2, h3⟩, ⟨done, fp, h4, h5.keep _ fun b hb' => hb.block b (hlt b (by rw [h4]; simp [hb']))⟩, h6.trans (Saves.of_below hb)⟩

set_option maxHeartbeats 1600000 in
theorem turn_any (K : Nat) : ∀ (s : S) (v : Value) (fp : List Nat) (w : World), s.count ≤ K → s.Sep w v fp → fp.Nodup → (∀ b ∈ fp, b < w.heap.size) →
    Calls Try.prog 30 #[v] w fun e w' => e = .returned (.tuple #[]) ∧ Saves (fun b => b ∈ fp) w w' := by
  induction K with
  | zero => intro s; have := s.count_pos; omega
  | succ K ih =>
    intro s v fp w hK hsep hnod hlt
    obtain ⟨l⟩ := s
    simp only [S.Sep] at hsep
    obtain ⟨us, rest, hown, hs, rfl⟩ := hsep
    have hus := hown.1
    rcases hown.2 with ⟨rfl, hl⟩ | ⟨g, cap, cur, rfl, _, hblk, hnc, hcm, hcs, htake⟩
    · have hl0 := Lib.hid hl
      clear hl ih hown
      go_enter Try.func30, Try.ntmps30
      go_wp2_with fail
      go_loopw [5] (fun i wr => i = .int .i64 0 ∧ w = wr) (fun _ _ => 0)
      case atStart => exact ⟨rfl, rfl⟩
      case round =>
        obtain ⟨rfl, rfl⟩ := hrel
        go_wp2_with fail
        go_end0
        exact ⟨rfl, Saves.refl _ _⟩
    · simp only [Value.ownBlock, Option.toList, List.cons_append, List.nil_append] at hnod hlt ⊢
      rw [Nat.mul_one] at hcs htake hus
      have ht0 := Turn.start hblk hcs htake hs
      have hglt : g < w.heap.size := hlt g (by simp)
      simp only [maxLen] at hcm
      have Hih := Lib.hid ih
      have Hnod := Lib.hid hnod
      have Hus := Lib.hid hus
      have Hcs := Lib.hid hcs
      clear ih hown hblk hcs htake hs hus hnod
      go_enter Try.func30, Try.ntmps30
      go_wp2_with fail
      go_loopw [5] (fun i wr => ∃ k : Nat, k ≤ l.length ∧ i = .int .i64 k ∧ Turn l us g cap rest w k wr) (fun i _ => l.length - (intOf i).toNat)
      case atStart => exact ⟨0, Nat.zero_le _, rfl, ht0⟩
      case round =>
        obtain ⟨k, hk, rfl, ht⟩ := hrel
        have hsz := ht.sav.size
        by_cases hltk : k < l.length
        · have hx : l[k]? = some l[k] := List.getElem?_eq_getElem hltk
          have hcl := S.count_lt hx
          obtain ⟨cs, hb, hc, hcs⟩ := ht.blk
          obtain ⟨done, fp, hrest, hsl⟩ := ht.todo
          have hdl : l.drop k = l[k] :: l.drop (k + 1) := List.drop_eq_getElem_cons hltk
          rw [hdl] at hsl
          simp only [S.SepL] at hsl
          obtain ⟨u, ut, f1, f2, hu, hsx, hs2, rfl⟩ := hsl
          have huk : us[k]? = some u := by
            have := congrArg (fun z => z[0]?) hu
            simpa using this
          have hut : us.drop (k + 1) = ut := by
            have := congrArg List.tail hu
            simpa using this
          rw [← hut] at hs2
          have hck : cs[k]? = some u := (hcs k (Nat.le_refl _) hltk).trans huk
          obtain ⟨A', n', c', rfl⟩ := hsx.form
          have hck' : wr.cell? ⟨g, k, none⟩ = some (.slice A' n' c') := (hb.cell k).trans hck
          have hn := List.nodup_cons.1 Hnod.out
          have hn2 : (done ++ (f1 ++ f2)).Nodup := hrest ▸ hn.2
          have hnf1 := (List.nodup_append.1 (List.nodup_append.1 hn2).2.1).1
          have hgf : g ∉ f1 := fun h => hn.1 (by rw [hrest]; simp [h])
          have hltw : ∀ b ∈ rest, b < wr.heap.size := fun b hb' => by have := hlt b (by simp [hb']); omega
          have HC := Lib.hid (Hih.out l[k] _ f1 wr (by omega) hsx hnf1 (fun b hb' => hltw b (by rw [hrest]; simp [hb'])))
          have hnx := fun w1 v (h : Saves (fun b => b ∈ f1) wr w1) => ht.next (v := v) Hnod.out hltw hrest hs2 h
          have HN := Lib.hid hnx
          have HB := Lib.hid hb
          have HG := Lib.hid hgf
          have Hck := Lib.hid hck
          have hcap : k < cs.size := by omega
          clear hx hdl hsx hs2 hcs huk hut hu hck hn hn2 hnf1 hltw hnx hrest hb hgf ht
          go_wp2_with fail
          refine HC.out.mono ?_
          rintro e w1 ⟨rfl, hs1⟩
          have hb1 := HB.out.saves hs1 HG.out
          have hck1 : w1.cell? ⟨g, k, none⟩ = some (.slice A' n' c') := (hb1.cell k).trans Hck.out
          have hfk1 := hb1.frozen k
          have hgl1 := hb1.lt
          have hz1 := hs1.size
          by_cases h0 : n' = 0
          · have hn0 : ((n' : Int) == 0) = true := by rw [h0]; rfl
            clear h0
            go_wp2_with fail
            go_roundw
            case rel =>
              refine ⟨k + 1, by omega, by go_num, ?_⟩
              refine (HN.out w1 _ hs1).below (fun b hb' => ?_) ((Below.refl _ _).alloc (Nat.le_refl _) _)
              have := hlt b (by simp [hb'])
              simp [World.setCell]
              omega
            case measure => simp [intOf]; omega
          · have hn0 : ((n' : Int) == 0) = false := by rw [beq_eq_false_iff_ne]; omega
            clear h0
            go_wp2_with fail
            go_roundw
            case rel => exact ⟨k + 1, by omega, by go_num, HN.out w1 _ hs1⟩
            case measure => simp [intOf]; omega
        · go_wp2_with fail
          go_end0
          exact ⟨rfl, ht.sav.mono fun b _ h => by simpa using h⟩
end Go.Proofs.Ytbifnkjfjndjjaa
