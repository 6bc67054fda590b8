/-
  scheme.Get and the reference's Get: the same answers, for every string.
-/
import Derived.Test.YtbbejhhohppdhaaGreatDoorSLocal
import Derived.Test.YtbbejhhohppdhaaGreatDoorJPure
namespace Go.Proofs.YtbbejhhohppdhaaGreatDoor
open Go.RowKit Go.Shelf

/-- A function's line, as the program keeps it. -/
def phi (x : List UInt8 × S × List UInt8) : List UInt8 × List UInt8 × List UInt8 := (x.1, x.2.1.text, x.2.2.takeWhile (fun c => c != 10))
theorem funP_at {t r r2 s : List UInt8} (h : nameP t = some (s, r)) (h2 : strip [32, 58, 32] r = some r2) : funP t = (sortCut r2).map fun y => ((s, y.1), y.2) := by
  simp only [funP, h, h2, sortCut]
  cases cutP [32, 61, 32] r2 with
  | none => rfl
  | some y =>
    obtain ⟨p, r3⟩ := y
    simp only
    by_cases hg : getE p = 4
    · rw [if_pos hg, if_pos hg]; rfl
    · rw [if_neg hg, if_neg hg]; rfl
theorem fun_line (t : List UInt8) (hl : t.length ≤ 65536) : funLineP t = (funL3 t).map fun y => (phi y.1, y.2) := by
  unfold funLineP
  cases h : nameP t with
  | none =>
    rw [funL3_1 h, show funP t = none by rw [funP, h]]
    rfl
  | some y =>
    obtain ⟨s, r⟩ := y
    have l1 := (nameP_le h).1
    cases h2 : strip [32, 58, 32] r with
    | none =>
      rw [funL3_2 h h2, show funP t = none by simp only [funP, h, h2]]
      rfl
    | some r2 =>
      have l2 := strip_len h2
      rw [funP_at h h2, sort_part r2 (by omega)]
      cases h3 : parse [] r2 with
      | none =>
        rw [funL3_3 h h2 h3]
        rfl
      | some y =>
        obtain ⟨x, r'⟩ := y
        simp only
        cases h4 : strip [32, 61, 32] r' with
        | none =>
          rw [funL3_4 h h2 h3 h4]
          rfl
        | some b =>
          simp only [Option.map_some]
          rw [cut_nl b]
          have hd : r'.dropWhile (fun c => c != 10) = b.dropWhile (fun c => c != 10) := by
            rw [strip_eq h4]
            rfl
          cases h5 : b.dropWhile (fun c => c != 10) with
          | nil =>
            rw [funL3_5 h h2 h3 h4 (hd.trans h5)]
            rfl
          | cons c q =>
            rw [funL3_6 h h2 h3 h4 (hd.trans h5)]
            rfl
theorem linesF_map {α β : Type} {word : List UInt8} {p : List UInt8 → Option (α × List UInt8)} {p' : List UInt8 → Option (β × List UInt8)} {f : α → β} {N : Nat} (h : ∀ t, t.length ≤ N → p' t = (p t).map fun y => (f y.1, y.2)) (hp : ∀ t x r, p t = some (x, r) → r.length < t.length) :
    ∀ (n : Nat) (acc : List α) (t : List UInt8), t.length ≤ N → linesF word p' n (acc.map f) t = (linesF word p n acc t).map fun y => (y.1.map f, y.2) := by
  intro n
  induction n with
  | zero => intro acc t _; rfl
  | succ n ih =>
    intro acc t ht
    rw [linesF_succ, linesF_succ]
    cases hs : strip word t with
    | none => rfl
    | some r =>
      have l1 := strip_len hs
      simp only
      rw [h r (by omega)]
      cases hx : p r with
      | none => rfl
      | some y =>
        obtain ⟨x, q⟩ := y
        have l2 := hp _ _ _ hx
        simp only [Option.map_some]
        have := ih (acc ++ [x]) q (by omega)
        rw [List.map_append] at this
        exact this
theorem funL3_line {t r : List UInt8} {x : List UInt8 × S × List UInt8} (h : funL3 t = some (x, r)) : ∃ q, x.2.2 = x.2.2.takeWhile (fun c => c != 10) ++ 10 :: q := by
  have hc := cut_nl x.2.2
  have h0 : x.2.2 = x.2.2.takeWhile (fun c => c != 10) ++ x.2.2.dropWhile (fun c => c != 10) := (List.takeWhile_append_dropWhile).symm
  rw [funL3] at h
  split at h
  · split at h
    · split at h
      · rename_i y q3 h3
        split at h
        · rename_i b h4
          split at h
          · rename_i c q5 h5
            cases h
            simp only at hc h0 ⊢
            have hd : q3.dropWhile (fun c => c != 10) = b.dropWhile (fun c => c != 10) := by
              rw [strip_eq h4]
              rfl
            rw [hd] at h5
            have hh := List.head?_dropWhile_not (fun c : UInt8 => c != 10) b
            rw [h5] at hh h0
            have : c = 10 := by simpa using hh
            exact ⟨_, this ▸ h0⟩
          · cases h
        · cases h
      · cases h
    · cases h
  · cases h
def mkF (x : List UInt8 × S × List UInt8) (y : T) : Fn := ⟨⟨x.1.toArray⟩, x.2.1, y⟩
theorem bods_same {s : Sc} {f g : List UInt8 → Option Nat} (hs : Knows s f g) : ∀ (xs : List (List UInt8 × S × List UInt8)) (accF : List Fn) (accT : List T), (∀ x ∈ xs, ∃ q, x.2.2 = x.2.2.takeWhile (fun c => c != 10) ++ 10 :: q) →
    bodsA f g accF xs = (bodiesP f g accT (xs.map fun x => x.2.2.takeWhile (fun c => c != 10))).map fun ts => accF ++ List.zipWith mkF xs (ts.drop accT.length)
  | [], accF, accT, _ => by simp [bodsA, bodiesP]
  | x :: r, accF, accT, h => by
    obtain ⟨q, hq⟩ := h x (by simp)
    have hall := takeWhile_all (fun c : UInt8 => c != 10) x.2.2
    have hb := body_line hs (b := x.2.2.takeWhile (fun c => c != 10)) (q := q) (fun c hc => by
      rw [List.all_eq_true] at hall
      simpa using hall c hc)
    rw [← hq] at hb
    rw [List.map_cons, bodiesP, hb, bodsA]
    cases ht : termP f g x.2.2 with
    | none => rfl
    | some y =>
      obtain ⟨y, z⟩ := y
      simp only
      cases hz : strip [10] z with
      | none => rfl
      | some z2 =>
        simp only
        rw [bods_same hs r (accF ++ [(⟨⟨x.1.toArray⟩, x.2.1, y⟩ : Fn)]) (accT ++ [y]) (fun v hv => h v (by simp [hv]))]
        cases hbs : bodiesP f g (accT ++ [y]) (r.map fun x => x.2.2.takeWhile (fun c => c != 10)) with
        | none => rfl
        | some ts =>
          obtain ⟨l, hl, _⟩ := bodiesP_eq hs _ _ _ hbs
          simp only [Option.map_some, Option.some.injEq]
          rw [hl]
          have e1 : (accT ++ [y] ++ l).drop (accT ++ [y]).length = l := List.drop_left' rfl
          have e2 : (accT ++ [y] ++ l).drop accT.length = y :: l := by
            rw [List.append_assoc]
            exact List.drop_left' rfl
          rw [e1, e2, List.zipWith_cons_cons, List.append_assoc]
          rfl
theorem withB_zip : ∀ (xs : List (List UInt8 × S × List UInt8)) (ts : List T), ts.length = xs.length → withB ts (xs.map bare3) = List.zipWith mkF xs ts
  | [], [], _ => rfl
  | [], y :: ts, h => by simp at h
  | x :: r, [], h => by simp at h
  | x :: r, y :: ts, h => by
    rw [List.map_cons, withB, withB_zip r ts (by simpa using h), List.zipWith_cons_cons]
    rfl
theorem linesF_allN {α : Type} {word : List UInt8} {p : List UInt8 → Option (α × List UInt8)} {Q : α → Prop} {N : Nat} (hp : ∀ t x r, t.length ≤ N → p t = some (x, r) → Q x) (hl : ∀ t x r, p t = some (x, r) → r.length < t.length) : ∀ (n : Nat) (acc : List α) (t : List UInt8) (l : List α) (r : List UInt8), t.length ≤ N → (∀ x ∈ acc, Q x) → linesF word p n acc t = some (l, r) → ∀ x ∈ l, Q x := by
  intro n
  induction n with
  | zero => intro acc t l r _ _ h; simp [linesF] at h
  | succ n ih =>
    intro acc t l r ht ha h
    rw [linesF_succ] at h
    split at h
    · cases h; exact ha
    · rename_i r1 hs
      have l1 := strip_len hs
      split at h
      · rename_i x q hx
        have l2 := hl _ _ _ hx
        exact ih _ _ _ _ (by omega) (fun y hy => by
          rcases List.mem_append.1 hy with hy | hy
          · exact ha y hy
          · rw [List.mem_singleton.1 hy]; exact hp _ _ _ (by omega) hx) h
      · cases h
theorem funL3_text {t r : List UInt8} {x : List UInt8 × S × List UInt8} (h : funL3 t = some (x, r)) : x.2.1.text.length ≤ t.length := by
  rw [funL3] at h
  split at h
  · rename_i s q hn
    have l1 := (nameP_le hn).1
    split at h
    · rename_i q2 h2
      have l2 := strip_len h2
      split at h
      · rename_i y q3 h3
        have l3 := congrArg List.length (text_of_parse h3)
        rw [List.length_append] at l3
        split at h
        · split at h
          · cases h
            simp only
            omega
          · cases h
        · cases h
      · cases h
    · cases h
  · cases h
theorem names3_lines {t : List UInt8} {sy : List Sy} {xs : List (List UInt8 × S × List UInt8)} (h : names3 t = some (sy, xs)) : (∀ x ∈ xs, ∃ q, x.2.2 = x.2.2.takeWhile (fun c => c != 10) ++ 10 :: q) ∧ ∀ x ∈ xs, x.2.1.text.length ≤ t.length := by
  rw [names3] at h
  split at h
  · rename_i sy' r h1
    have l1 := linesF_len (fun _ _ _ => symP_le) _ _ _ _ _ h1
    simp at l1
    split at h
    · rename_i xs' q h2
      split at h
      · cases h
        refine ⟨linesF_all (Q := fun x : List UInt8 × S × List UInt8 => ∃ q, x.2.2 = x.2.2.takeWhile (fun c => c != 10) ++ 10 :: q) (fun _ _ _ => funL3_line) _ _ _ _ _ (by simp) h2, ?_⟩
        exact linesF_allN (N := t.length) (Q := fun x : List UInt8 × S × List UInt8 => x.2.1.text.length ≤ t.length) (fun t' _ _ ht hx => Nat.le_trans (funL3_text hx) ht) (fun _ _ _ => funL3_le) _ _ _ _ _ (by omega) (by simp) h2
      · cases h
    · cases h
  · cases h
theorem getS_of {x : S} (hl : x.text.length ≤ 65536) : (getE x.text = 0 ↔ x.ok = true) ∧ (x.ok = true → getS x.text = x) := by
  have h1 : getE x.text = errOf x.ok := by rw [getE, if_neg (by omega), whole_text']
  have h2 : getE x.text = 0 ↔ x.ok = true := by
    rw [h1]
    cases x.ok <;> simp [errOf]
  exact ⟨h2, fun h => by rw [getS, if_pos (h2.2 h), whole_text']; rfl⟩
theorem zip_sorts : ∀ (xs : List (List UInt8 × S × List UInt8)) (ts : List T), ts.length = xs.length → ∀ x ∈ xs, ∃ f ∈ List.zipWith mkF xs ts, f.sort = x.2.1
  | [], ts, _, x, hx => by simp at hx
  | x :: r, [], h, _, _ => by simp at h
  | x :: r, y :: ts, h, v, hv => by
    rw [List.zipWith_cons_cons]
    rcases List.mem_cons.1 hv with rfl | hv
    · exact ⟨mkF v y, by simp, rfl⟩
    · obtain ⟨f, hf, e⟩ := zip_sorts r ts (by simpa using h) v hv
      exact ⟨f, by simp [hf], e⟩
/-- The program's answer, by the reference's. -/
theorem wholeSc_same {t : List UInt8} (ht : t.length ≤ 65536) : (get3 t = none → wholeSc t = none) ∧ ∀ s, get3 t = some s → ∃ s' bad, wholeSc t = some (s', bad) ∧ ((bad = false ∧ s' = s) ∨ (bad = true ∧ s.ok = false)) := by
  have hmap : ∀ r : List UInt8, r.length ≤ 65536 → linesP funWord funLineP [] r = (linesP funWord funL3 [] r).map fun y => (y.1.map phi, y.2) := fun r hr => by
    have := linesF_map (word := funWord) (p := funL3) (p' := funLineP) (f := phi) (N := 65536) (fun t ht => fun_line t ht) (fun _ _ _ => funL3_le) (r.length + 1) [] r hr
    exact this
  unfold get3 wholeSc schemeP names3
  cases h1 : linesP symWord symP [] t with
  | none => exact ⟨fun _ => rfl, fun s h => by cases h⟩
  | some y =>
    obtain ⟨sy, r⟩ := y
    have l1 := linesF_len (fun _ _ _ => symP_le) _ _ _ _ _ h1
    simp at l1
    simp only
    rw [hmap r (by omega)]
    cases h2 : linesP funWord funL3 [] r with
    | none => exact ⟨fun _ => rfl, fun s h => by cases h⟩
    | some y =>
      obtain ⟨xs, q⟩ := y
      simp only [Option.map_some]
      have hk : Knows ⟨sy, xs.map bare3⟩ (Sc.fs ⟨sy, xs.map bare3⟩) (Sc.gs ⟨sy, xs.map bare3⟩) := ⟨fun k n h => by
        have := (firstAt_at h).2
        rw [List.getElem?_map] at this
        simpa using this, fun k n h => by
        have := (firstAt_at h).2
        rw [List.getElem?_map] at this
        simpa using this⟩
      have hgs : firstAt 0 ((xs.map phi).map fun x => x.1) = Sc.gs ⟨sy, xs.map bare3⟩ := by
        show firstAt 0 _ = firstAt 0 _
        rw [List.map_map, List.map_map]
        rfl
      have hbt : (xs.map phi).map (fun x => x.2.2) = xs.map fun x => x.2.2.takeWhile (fun c => c != 10) := by
        rw [List.map_map]
        rfl
      rw [hgs, hbt]
      by_cases hq : q = []
      · subst hq
        have hn : names3 t = some (sy, xs) := by
          unfold names3
          rw [h1]
          simp only [h2, if_true]
        obtain ⟨hlines, htexts⟩ := names3_lines hn
        simp only [if_true]
        rw [bods_same hk xs [] [] hlines]
        cases hb : bodiesP (Sc.fs ⟨sy, xs.map bare3⟩) (Sc.gs ⟨sy, xs.map bare3⟩) [] (xs.map fun x => x.2.2.takeWhile (fun c => c != 10)) with
        | none => exact ⟨fun _ => rfl, fun s h => by cases h⟩
        | some ts =>
          obtain ⟨l, hl1, hl2⟩ := bodiesP_eq hk _ _ _ hb
          rw [List.nil_append] at hl1
          subst hl1
          have hlen : ts.length = xs.length := by
            have := congrArg List.length hl2
            simpa using this
          simp only [Option.map_some, List.length_nil, List.drop_zero, List.nil_append]
          refine ⟨fun h => by simp at h, fun s h => ?_⟩
          obtain rfl : (⟨sy, List.zipWith mkF xs ts⟩ : Sc) = s := by simpa using h
          refine ⟨_, _, rfl, ?_⟩
          by_cases hall : ∀ x ∈ xs, x.2.1.ok = true
          · left
            constructor
            · unfold badOf
              rw [List.any_eq_false]
              intro v hv
              obtain ⟨x, hx, rfl⟩ := List.mem_map.1 hv
              have := (getS_of (x := x.2.1) (by have := htexts x hx; omega)).1.2 (hall x hx)
              simp [phi, this]
            · have hb3 : (xs.map phi).map bare = xs.map bare3 := by
                rw [List.map_map]
                refine List.map_congr_left fun x hx => ?_
                have := (getS_of (x := x.2.1) (by have := htexts x hx; omega)).2 (hall x hx)
                simp only [Function.comp, phi, bare, bare3, this]
              rw [hb3, withB_zip xs ts hlen]
          · right
            have hex : ∃ x ∈ xs, x.2.1.ok = false := by
              by_cases he : ∃ x ∈ xs, x.2.1.ok = false
              · exact he
              · refine absurd (fun x hx => ?_) hall
                cases ho : x.2.1.ok with
                | true => rfl
                | false => exact absurd ⟨x, hx, ho⟩ he
            obtain ⟨x, hx, hxo⟩ := hex
            constructor
            · unfold badOf
              rw [List.any_eq_true]
              refine ⟨phi x, List.mem_map_of_mem hx, ?_⟩
              have hne : getE x.2.1.text ≠ 0 := fun e => by
                have := (getS_of (x := x.2.1) (by have := htexts x hx; omega)).1.1 e
                rw [hxo] at this; cases this
              simp [phi, hne]
            · rw [Bool.eq_false_iff]
              intro hok
              obtain ⟨f, hf, e⟩ := zip_sorts xs ts hlen x hx
              have := (Sc.ok_fn hok hf).1
              rw [e, hxo] at this
              cases this
      · simp only [if_neg hq]
        refine ⟨fun _ => ?_, fun s h => by cases h⟩
        cases hb : bodiesP (firstAt 0 (sy.map nm)) (Sc.gs ⟨sy, xs.map bare3⟩) [] (xs.map fun x => x.2.2.takeWhile (fun c => c != 10)) with
        | none => rfl
        | some ts =>
          cases q with
          | nil => exact absurd rfl hq
          | cons c r => rfl
/-- Both answer alike. -/
theorem get_same (t : List UInt8) : getSE t = getE3 t ∧ getSS t = getS3 t := by
  by_cases ht : 65536 < t.length
  · have h1 : getSE t = 3 := by rw [getSE, if_pos ht]
    have h2 : getE3 t = 3 := by rw [getE3, if_pos ht]
    refine ⟨h1.trans h2.symm, ?_⟩
    rw [getSS, if_neg (by rw [h1]; decide), getS3, if_neg (by rw [h2]; decide)]
  · obtain ⟨hn, hs⟩ := wholeSc_same (t := t) (by omega)
    cases hg : get3 t with
    | none =>
      have h1 : getSE t = 4 := by rw [getSE, if_neg ht, hn hg]
      have h2 : getE3 t = 4 := by rw [getE3, if_neg ht, hg]
      refine ⟨h1.trans h2.symm, ?_⟩
      rw [getSS, if_neg (by rw [h1]; decide), getS3, if_neg (by rw [h2]; decide)]
    | some s =>
      obtain ⟨s', bad, hw, hc⟩ := hs s hg
      have h2 : getE3 t = if s.sayOk = true then 0 else 7 := by rw [getE3, if_neg ht, hg]
      have h1 : getSE t = schErr (!bad && s'.ok) := by rw [getSE, if_neg ht, hw]
      rw [sayOk_ok] at h2
      rcases hc with ⟨rfl, rfl⟩ | ⟨rfl, hok⟩
      · have h3 : getSE t = getE3 t := by
          rw [h1, h2]
          cases s'.ok <;> rfl
        refine ⟨h3, ?_⟩
        rw [getSS, getS3, h3, hw, hg]
        rfl
      · have h3 : getSE t = 7 := by rw [h1]; rfl
        have h4 : getE3 t = 7 := by rw [h2, hok]; rfl
        refine ⟨h3.trans h4.symm, ?_⟩
        rw [getSS, if_neg (by rw [h3]; decide), getS3, if_neg (by rw [h4]; decide)]
end Go.Proofs.YtbbejhhohppdhaaGreatDoor
