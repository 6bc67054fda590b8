/-
  What is read as a scheme is written as it stood.
  The string of a valid scheme is read back as the scheme.
-/
import Derived.Test.YtbbejhhohppdhaaGreatDoorGJ
import Derived.Test.YtbbejhhohppdhaaGreatDoorGG
import Derived.Test.YtbbejhhohppdhaaGreatDoorGB
import Derived.Lib.IndexLaws
namespace Go.Proofs.YtbbejhhohppdhaaGreatDoor
open Go.RowKit Go.Shelf

theorem cutP_eq {p t s r : List UInt8} (h : cutP p t = some (s, r)) : t = s ++ (p ++ r) := by
  rw [cutP] at h
  split at h
  · rename_i hc
    cases h
    unfold Lib.cut at hc ⊢
    split
    · rename_i h0
      rcases Lib.index_spec t p with ⟨h1, _⟩ | ⟨i, h1, h2, h3, _⟩
      · omega
      · have hi : (Lib.index t p).toNat = i := by omega
        simp only [hi]
        obtain ⟨u, hu⟩ := List.isPrefixOf_iff_prefix.1 h3
        have h5 : t.drop (i + p.length) = u := by
          rw [← List.drop_drop, ← hu, List.drop_left]
        rw [h5, hu, List.take_append_drop]
    · rename_i h0
      simp [h0] at hc
  · cases h
theorem nameP_eq {t s r : List UInt8} (h : nameP t = some (s, r)) : t = s ++ r ∧ nameB s = true := by
  rw [nameP] at h
  split at h
  · rename_i hn
    cases h
    exact ⟨List.takeWhile_append_dropWhile.symm, hn⟩
  · cases h
theorem decV_snoc (l : List UInt8) (c : UInt8) : decV (l ++ [c]) = decV l * 10 + (c.toNat - 48) := by simp [decV, foldV]
theorem decV_pos {c : UInt8} {r : List UInt8} (hc : digitB c = true) (h : c ≠ 48) : 1 ≤ decV (c :: r) := by
  have h1 : 48 < c.toNat := by
    simp only [digitB, Bool.and_eq_true, decide_eq_true_eq] at hc
    have h2 : c.toNat ≠ 48 := fun e => h (by apply UInt8.toNat_inj.1; rw [e] <;> rfl)
    omega
  have h2 := foldV_ge r (0 * 10 + (c.toNat - 48))
  have h3 : decV (c :: r) = foldV (0 * 10 + (c.toNat - 48)) r := rfl
  omega
theorem dec_back : ∀ (k : Nat) (c : UInt8) (r : List UInt8), r.length = k → (c :: r).all digitB = true → c ≠ 48 → Lib.decDigits (decV (c :: r)) = c :: r := by
  intro k
  induction k with
  | zero =>
    intro c r hr hd hc
    have : r = [] := List.eq_nil_of_length_eq_zero hr
    subst this
    simp only [List.all_cons, List.all_nil, Bool.and_true, digitB, Bool.and_eq_true, decide_eq_true_eq] at hd
    have h1 : decV [c] = c.toNat - 48 := by simp [decV, foldV]
    rw [h1, Lib.decDigits, dif_pos (by omega)]
    have h2 : 48 + (c.toNat - 48) = c.toNat := by omega
    rw [h2]
    simp
  | succ k ih =>
    intro c r hr hd hc
    rcases List.eq_nil_or_concat r with h0 | ⟨q, b, h0⟩
    · rw [h0] at hr; simp at hr
    · rw [List.concat_eq_append] at h0
      subst h0
      have hl : q.length = k := by simpa using hr
      have hd' : (c :: q).all digitB = true ∧ digitB b = true := by
        simp only [List.all_cons, List.all_append, List.all_nil, Bool.and_true, Bool.and_eq_true] at hd ⊢
        exact ⟨⟨hd.1, hd.2.1⟩, hd.2.2⟩
      have h1 := ih c q hl hd'.1 hc
      have hp : 1 ≤ decV (c :: q) := decV_pos (by have := hd'.1; simp only [List.all_cons, Bool.and_eq_true] at this; exact this.1) hc
      have hb := hd'.2
      simp only [digitB, Bool.and_eq_true, decide_eq_true_eq] at hb
      have h2 : decV (c :: (q ++ [b])) = decV (c :: q) * 10 + (b.toNat - 48) := decV_snoc (c :: q) b
      rw [h2, Lib.decDigits, dif_neg (by omega)]
      have h3 : (decV (c :: q) * 10 + (b.toNat - 48)) / 10 = decV (c :: q) := by omega
      have h4 : (decV (c :: q) * 10 + (b.toNat - 48)) % 10 = b.toNat - 48 := by omega
      rw [h3, h4, h1]
      have h5 : 48 + (b.toNat - 48) = b.toNat := by omega
      rw [h5]
      simp
theorem takeWhile_all {α : Type} (p : α → Bool) (l : List α) : (l.takeWhile p).all p = true := by
  induction l with
  | nil => rfl
  | cons a r ih =>
    rw [List.takeWhile_cons]
    split
    · simp_all
    · rfl
theorem numP_eq {t r : List UInt8} {n : Nat} (h : numP t = some (n, r)) : t = Lib.decDigits n ++ r := by
  rw [numP] at h
  split at h
  · rename_i hn
    cases h
    have h1 : t.takeWhile digitB ++ t.dropWhile digitB = t := List.takeWhile_append_dropWhile
    have h2 := takeWhile_all digitB t
    generalize t.takeWhile digitB = l at *
    cases l with
    | nil => simp [numOk] at hn
    | cons c r =>
      have h3 : Lib.decDigits (decV (c :: r)) = c :: r := by
        simp only [numOk, Bool.and_eq_true, Bool.or_eq_true] at hn
        rcases hn.2 with h0 | h0
        · have : c :: r = [48] := eq_of_beq h0
          rw [this]
          rw [Lib.decDigits, dif_pos (by decide)]
          decide
        · exact dec_back _ c r rfl h2 (by simpa using h0)
      rw [h3]
      exact h1.symm
  · cases h
theorem firstAt_at : ∀ {l : List (List UInt8)} {i : Nat} {k : List UInt8} {j : Nat}, firstAt i l k = some j → i ≤ j ∧ l[j - i]? = some k
  | [], i, k, j, h => by simp [firstAt] at h
  | n :: r, i, k, j, h => by
    rw [firstAt] at h
    split at h
    · rename_i he
      cases h
      exact ⟨Nat.le_refl _, by simp [he]⟩
    · obtain ⟨h1, h2⟩ := firstAt_at h
      have h3 : j - i = (j - (i + 1)) + 1 := by omega
      refine ⟨by omega, ?_⟩
      rw [h3, List.getElem?_cons_succ]
      exact h2
/-- The names that a reader knows are those of the scheme. -/
structure Knows (s : Sc) (f g : List UInt8 → Option Nat) : Prop where
  sy : ∀ k n, f k = some n → s.syms[n]?.map nm = some k
  fn : ∀ k n, g k = some n → s.funs[n]?.map fnm = some k
theorem numK_eq {f : List UInt8 → Option Nat} {t r : List UInt8} {n : Nat} (h : numK f t = some (n, r)) : ∃ k, f k = some n ∧ t = k ++ r := by
  rw [numK] at h
  split at h
  · rename_i k q hk
    split at h
    · rename_i m hm
      cases h
      exact ⟨k, hm, (nameP_eq hk).1⟩
    · cases h
  · cases h
theorem headP_eq {s : Sc} {f g : List UInt8 → Option Nat} (hs : Knows s f g) {t q : List UInt8} {h : Int × Int} (hh : headP f g t = some (h, q)) : t = headB s h.1 h.2 ++ q := by
  rw [headP] at hh
  split at hh
  · rename_i r hr
    split at hh
    · rename_i n q' hn
      cases hh
      rw [strip_eq hr, numP_eq hn]
      simp [headB]
    · cases hh
  · split at hh
    · rename_i r hr
      split at hh
      · rename_i n q' hn
        cases hh
        obtain ⟨k, h1, h2⟩ := numK_eq hn
        have h3 := hs.sy k n h1
        rw [strip_eq hr, h2]
        simp only [headB, Int.toNat_natCast, h3]
        simp
      · cases hh
    · split at hh
      · rename_i n q' hn
        cases hh
        obtain ⟨k, h1, h2⟩ := numK_eq hn
        have h3 := hs.fn k n h1
        rw [h2]
        simp only [headB, Int.toNat_natCast, h3]
        simp
      · cases hh
theorem termW_eq {s : Sc} {f g : List UInt8 → Option Nat} (hs : Knows s f g) {rec : List UInt8 → Option (List T × List UInt8)} (hr : ∀ t l q, rec t = some (l, q) → t = T.textL s l ++ q) {t q : List UInt8} {x : T} (h : termW f g rec t = some (x, q)) : t = x.text s ++ q := by
  rw [termW] at h
  split at h
  · rename_i y z hy
    split at h
    · rename_i l z2 hl
      cases h
      rw [headP_eq hs hy, hr _ _ _ hl, T.text]
      simp
    · cases h
  · cases h
theorem argW_eq {s : Sc} {f g : List UInt8 → Option Nat} (hs : Knows s f g) {rec : List UInt8 → Option (T × List UInt8)} (hr : ∀ t x q, rec t = some (x, q) → t = x.text s ++ q) {t q : List UInt8} {x : T} (h : argW f g rec t = some (x, q)) : t = x.argText s ++ q := by
  rw [argW] at h
  split at h
  · split at h
    · rename_i y z hy
      cases h
      rw [headP_eq hs hy]
      simp [T.argText, T.args, T.kind, T.num]
    · cases h
  · rename_i r hr1
    split at h
    · rename_i y z hy
      split at h
      · cases h
      · rename_i hne
        split at h
        · rename_i z2 hz
          cases h
          rw [strip_eq hr1, hr _ _ _ hy, strip_eq hz]
          simp [T.argText, hne]
        · cases h
    · cases h
theorem argsF_eq {s : Sc} {f g : List UInt8 → Option Nat} (hs : Knows s f g) : ∀ (n : Nat) (acc : List T) (t : List UInt8) (l : List T) (q : List UInt8), argsF f g n acc t = some (l, q) → ∃ l', l = acc ++ l' ∧ t = T.textL s l' ++ q := by
  intro n
  induction n with
  | zero => intro acc t l q h; simp [argsF] at h
  | succ n ih =>
    intro acc t l q h
    rw [argsF_succ] at h
    split at h
    · cases h
      exact ⟨[], by simp, by simp [T.textL]⟩
    · rename_i r hr
      split at h
      · rename_i x z hx
        have h1 := argW_eq hs (fun t x q h => termW_eq hs (fun t l q h => by
          obtain ⟨l', e1, e2⟩ := ih [] t l q h
          simp at e1
          rw [e1]; exact e2) h) hx
        obtain ⟨l', e1, e2⟩ := ih _ _ _ _ h
        refine ⟨x :: l', by rw [e1]; simp, ?_⟩
        rw [strip_eq hr, h1, e2]
        simp [T.textL, T.argText]
      · cases h
theorem termP_back {s : Sc} {f g : List UInt8 → Option Nat} (hs : Knows s f g) {t q : List UInt8} {x : T} (h : termP f g t = some (x, q)) : t = x.text s ++ q :=
  termW_eq hs (fun t l q h => by
    obtain ⟨l', e1, e2⟩ := argsF_eq hs _ _ _ _ _ h
    simp at e1
    rw [e1]; exact e2) h
theorem wholeT_eq {s : Sc} {f g : List UInt8 → Option Nat} (hs : Knows s f g) {t : List UInt8} {x : T} (h : wholeT f g t = some x) : x.text s = t := by
  rw [wholeT] at h
  split at h
  · rename_i y hy
    cases h
    have := termP_back hs hy
    rw [this]; simp
  · cases h
theorem bodiesP_eq {s : Sc} {f g : List UInt8 → Option Nat} (hs : Knows s f g) : ∀ (bs : List (List UInt8)) (acc ts : List T), bodiesP f g acc bs = some ts → ∃ l, ts = acc ++ l ∧ l.map (T.text s) = bs
  | [], acc, ts, h => by
    rw [bodiesP] at h
    cases h
    exact ⟨[], by simp, rfl⟩
  | b :: r, acc, ts, h => by
    rw [bodiesP] at h
    split at h
    · rename_i x hx
      obtain ⟨l, e1, e2⟩ := bodiesP_eq hs r _ _ h
      exact ⟨x :: l, by rw [e1]; simp, by simp [wholeT_eq hs hx, e2]⟩
    · cases h
theorem linesF_eq {α : Type} {word : List UInt8} {p : List UInt8 → Option (α × List UInt8)} (line : α → List UInt8) (hp : ∀ t x r, p t = some (x, r) → t = line x ++ r) : ∀ (n : Nat) (acc : List α) (t : List UInt8) (l : List α) (r : List UInt8), linesF word p n acc t = some (l, r) →
    ∃ l', l = acc ++ l' ∧ t = (l'.map fun x => word ++ line x).flatten ++ r := by
  intro n
  induction n with
  | zero => intro acc t l r h; simp [linesF] at h
  | succ n ih =>
    intro acc t l r h
    rw [linesF_succ] at h
    split at h
    · cases h
      exact ⟨[], by simp, by simp⟩
    · rename_i q hq
      split at h
      · rename_i x z hx
        obtain ⟨l', e1, e2⟩ := ih _ _ _ _ h
        refine ⟨x :: l', by rw [e1]; simp, ?_⟩
        rw [strip_eq hq, hp _ _ _ hx, e2]
        simp
      · cases h
theorem symP_eq {t r : List UInt8} {x : Sy} (h : symP t = some (x, r)) : t = (nm x ++ [32] ++ Lib.decDigits x.rank.toNat ++ [10]) ++ r := by
  rw [symP] at h
  split at h
  · rename_i k q hk
    split at h
    · rename_i q2 h2
      split at h
      · rename_i n q3 h3
        split at h
        · rename_i q4 h4
          cases h
          rw [(nameP_eq hk).1, strip_eq h2, numP_eq h3, strip_eq h4]
          simp [nm]
        · cases h
      · cases h
    · cases h
  · cases h
theorem funLineP_eq {t r : List UInt8} {x : List UInt8 × List UInt8 × List UInt8} (h : funLineP t = some (x, r)) : t = (x.1 ++ [32, 58, 32] ++ x.2.1 ++ [32, 61, 32] ++ x.2.2 ++ [10]) ++ r := by
  rw [funLineP] at h
  split at h
  · rename_i k p q hk
    split at h
    · rename_i bd q2 h2
      cases h
      rw [funP] at hk
      split at hk
      · rename_i k' q3 h3
        split at hk
        · rename_i q4 h4
          split at hk
          · rename_i p' q5 h5
            split at hk
            · cases hk
            · cases hk
              rw [(nameP_eq h3).1, strip_eq h4, cutP_eq h5, cutP_eq h2]
              simp
          · cases hk
        · cases hk
      · cases hk
    · cases h
  · cases h
theorem getS_text {p : List UInt8} (h : getE p = 0) : (getS p).text = p := by
  have h0 := h
  rw [getE] at h
  split at h
  · cases h
  · split at h
    · rename_i s hs
      rw [getS, if_pos h0, hs]
      simp only [Option.getD_some]
      rw [whole] at hs
      split at hs
      · rename_i y hy
        cases hs
        obtain ⟨l, e1, e2⟩ := parse_back _ _ _ _ _ (Nat.lt_succ_self _) hy
        rw [e1, e2]
        simp [S.text]
      · cases hs
    · cases h
theorem withB_names : ∀ (ts : List T) (l : List Fn), (withB ts l).map fnm = l.map fnm
  | x :: ts, f :: r => by simp [withB, withB_names ts r, Fn.withBody, fnm]
  | [], r => rfl
  | _ :: _, [] => rfl
theorem funLines_eq (s : Sc) : ∀ (xs : List (List UInt8 × List UInt8 × List UInt8)) (ts : List T), badOf xs = false → ts.map (T.text s) = xs.map (fun x => x.2.2) →
    funLines s (withB ts (xs.map bare)) = (xs.map fun x => funWord ++ (x.1 ++ [32, 58, 32] ++ x.2.1 ++ [32, 61, 32] ++ x.2.2 ++ [10])).flatten
  | [], [], _, _ => rfl
  | [], y :: ts, _, h => by simp at h
  | x :: xs, [], _, h => by simp at h
  | x :: xs, y :: ts, hb, h => by
    simp only [List.map_cons, List.cons.injEq] at h
    simp only [badOf, List.any_cons, Bool.or_eq_false_iff] at hb
    have ih := funLines_eq s xs ts hb.2 h.2
    have hg : getE x.2.1 = 0 := by simpa using hb.1
    simp only [funLines] at ih
    simp only [List.map_cons, withB, funLines, List.flatten_cons, ih]
    simp [funLine, bare, Fn.withBody, fnm, getS_text hg, h.1, funWord]
theorem symLines_eq (l : List Sy) : symLines l = (l.map fun x => symWord ++ (nm x ++ [32] ++ Lib.decDigits x.rank.toNat ++ [10])).flatten := by
  induction l with
  | nil => rfl
  | cons x r ih =>
    simp only [symLines] at ih
    simp only [symLines, List.map_cons, List.flatten_cons, ih]
    simp [symLine, symWord]
theorem wholeSc_text {t : List UInt8} {s : Sc} (h : wholeSc t = some (s, false)) : s.text = t := by
  rw [wholeSc] at h
  split at h
  · rename_i sy fs bad hp
    cases h
    rw [schemeP] at hp
    split at hp
    · rename_i sy' r h1
      split at hp
      · rename_i xs r2 h2
        split at hp
        · rename_i ts h3
          simp only [Option.some.injEq, Prod.mk.injEq] at hp
          obtain ⟨⟨rfl, rfl, hb⟩, rfl⟩ := hp
          obtain ⟨l1, e1, e2⟩ := linesF_eq _ (fun t x r h => symP_eq h) _ _ _ _ _ h1
          obtain ⟨l2, e3, e4⟩ := linesF_eq _ (fun t x r h => funLineP_eq h) _ _ _ _ _ h2
          simp only [List.nil_append] at e1 e3
          subst e1 e3
          have hk : Knows ⟨sy', withB ts (xs.map bare)⟩ (firstAt 0 (sy'.map nm)) (firstAt 0 (xs.map fun x => x.1)) := by
            refine ⟨fun k n h => ?_, fun k n h => ?_⟩
            · have := (firstAt_at h).2
              simpa using this
            · have h5 := (firstAt_at h).2
              have h6 : (withB ts (xs.map bare)).map fnm = xs.map fun x => x.1 := by
                rw [withB_names, List.map_map]
                apply List.map_congr_left
                intro x _
                simp [bare, fnm]
              rw [← List.getElem?_map, h6]
              simpa using h5
          obtain ⟨l3, e5, e6⟩ := bodiesP_eq hk _ _ _ h3
          simp only [List.nil_append] at e5
          subst e5
          rw [Sc.text, symLines_eq, funLines_eq _ _ _ hb e6, e2, e4]
          simp
        · cases hp
      · cases hp
    · cases hp
  · cases h
/-- What is read is written as it stood. -/
theorem getSS_puts {t : List UInt8} (h : getSE t = 0) : (getSS t).putE = 0 ∧ (getSS t).puts = t := by
  have h0 := h
  rw [getSE] at h
  split at h
  · cases h
  · rename_i hl
    split at h
    · rename_i s bad hw
      rw [getSS_yes h0 hw]
      have hb : bad = false ∧ s.ok = true := by
        cases bad <;> cases hk : s.ok <;> simp [schErr, hk] at h ⊢
      obtain ⟨rfl, hok⟩ := hb
      have ht := wholeSc_text hw
      have hE : s.putE = 0 := by
        rw [Sc.putE, if_pos hok, ht, if_neg hl]
      exact ⟨hE, by rw [Sc.puts, if_pos hE, ht]⟩
    · cases h
end Go.Proofs.YtbbejhhohppdhaaGreatDoor

namespace Go.Proofs.YtbbejhhohppdhaaGreatDoor
open Go.RowKit Go.Shelf

/-- The text goes on with no byte of that kind. -/
def Ends (p : UInt8 → Bool) (t : List UInt8) : Prop := ∀ c r, t = c :: r → p c = false
theorem Ends.nil (p : UInt8 → Bool) : Ends p [] := fun c r h => by cases h
theorem Ends.cons {p : UInt8 → Bool} {c : UInt8} (r : List UInt8) (h : p c = false) : Ends p (c :: r) := fun c' r' e => by cases e; exact h
theorem ends_split {p : UInt8 → Bool} : ∀ (l : List UInt8) {t : List UInt8}, l.all p = true → Ends p t → (l ++ t).takeWhile p = l ∧ (l ++ t).dropWhile p = t
  | [], t, _, h => by
    cases t with
    | nil => exact ⟨rfl, rfl⟩
    | cons c r => have := h c r rfl; simp [this]
  | a :: l, t, h, ht => by
    simp only [List.all_cons, Bool.and_eq_true] at h
    obtain ⟨h1, h2⟩ := ends_split l h.2 ht
    simp [h.1, h1, h2]
theorem nameP_fore {l t : List UInt8} (h : nameB l = true) (ht : Ends signB t) : nameP (l ++ t) = some (l, t) := by
  have h1 : l.all signB = true := by
    simp only [nameB, Bool.and_eq_true] at h
    exact h.2.2.2
  obtain ⟨e1, e2⟩ := ends_split l h1 ht
  rw [nameP, e1, e2, if_pos h]
theorem digit_sign {t : List UInt8} (h : Ends signB t) : Ends digitB t := fun c r e => by
  have := h c r e
  simp only [signB, Bool.or_eq_false_iff] at this
  exact this.2.1
theorem dec_fin : ∀ n : Fin 10, [UInt8.ofNat (48 + n.val)].all digitB = true ∧ numOk [UInt8.ofNat (48 + n.val)] = true ∧ decV [UInt8.ofNat (48 + n.val)] = n.val := by decide
theorem numP_fore {n : Nat} (h : n < 10) {t : List UInt8} (ht : Ends digitB t) : numP (Lib.decDigits n ++ t) = some (n, t) := by
  obtain ⟨h1, h2, h3⟩ := dec_fin ⟨n, h⟩
  simp only at h1 h2 h3
  obtain ⟨e1, e2⟩ := ends_split _ h1 ht
  rw [Lib.decDigits, dif_pos h, numP, e1, e2, if_pos h2, h3]
theorem firstAt_fore : ∀ {l : List (List UInt8)} {seen : List (List UInt8)} {i j : Nat} {k : List UInt8}, diffFrom seen l = true → l[j]? = some k → firstAt i l k = some (i + j)
  | [], _, i, j, k, _, h => by simp at h
  | n :: r, seen, i, j, k, hd, h => by
    simp only [diffFrom, Bool.and_eq_true] at hd
    rw [firstAt]
    cases j with
    | zero => simp at h; simp [h]
    | succ j =>
      rw [List.getElem?_cons_succ] at h
      have hne : k ≠ n := by
        rintro rfl
        exact absurd (List.mem_of_getElem? h) (diff_not r (seen ++ [k]) hd.2.2 k (by simp))
      rw [if_neg hne, firstAt_fore hd.2.2 h]
      congr 1; omega
where
  diff_not : ∀ (l : List (List UInt8)) (seen : List (List UInt8)), diffFrom seen l = true → ∀ k ∈ seen, k ∉ l
  | [], _, _, _, _ => by simp
  | x :: r, seen, h, k, hk => by
    simp only [diffFrom, Bool.and_eq_true] at h
    intro hm
    rcases List.mem_cons.1 hm with rfl | hm
    · have := h.2.1
      simp [hk] at this
    · exact diff_not r _ h.2.2 k (by simp [hk]) hm
/-- What the reader of a valid scheme's string asks of it. -/
structure Sc.Fine (s : Sc) : Prop where
  sy : ∀ x ∈ s.syms, nameB (nm x) = true ∧ 0 ≤ x.rank ∧ x.rank ≤ 4
  syD : diffFrom [] (s.syms.map nm) = true
  fn : ∀ f ∈ s.funs, nameB (fnm f) = true
  fnD : diffFrom [] (s.funs.map fnm) = true
  so : ∀ f ∈ s.funs, f.sort.ok = true
  bd : ∀ f ∈ s.funs, f.body.heads 8 s.funs.length s.syms.length = true
theorem letter_head {l : List UInt8} (h : nameB l = true) : ∃ c r, l = c :: r ∧ letterB c = true := by
  cases l with
  | nil => simp [nameB] at h
  | cons c r =>
    simp only [nameB, Bool.and_eq_true] at h
    exact ⟨c, r, rfl, h.2.2.1⟩
theorem letter_ne {c : UInt8} (h : letterB c = true) : c ≠ 36 ∧ c ≠ 35 ∧ c ≠ 40 ∧ c ≠ 32 := by
  simp only [letterB, Bool.and_eq_true, decide_eq_true_eq] at h
  refine ⟨?_, ?_, ?_, ?_⟩ <;> (rintro rfl; revert h; decide)
theorem head_fore {s : Sc} (hs : s.Fine) {k n : Int} (h : headOk 8 s.funs.length s.syms.length k n = true) {t : List UInt8} (ht : Ends signB t) :
    headP (firstAt 0 (s.syms.map nm)) (firstAt 0 (s.funs.map fnm)) (headB s k n ++ t) = some ((k, n), t) ∧ strip [40] (headB s k n ++ t) = none := by
  simp only [headOk, Bool.and_eq_true, Bool.or_eq_true, decide_eq_true_eq] at h
  obtain ⟨h0, h1⟩ := h
  obtain ⟨m, rfl⟩ : ∃ m : Nat, n = (m : Int) := ⟨n.toNat, by omega⟩
  rcases h1 with ⟨rfl, h2⟩ | ⟨rfl, h2⟩ | ⟨rfl, h2⟩
  · have e : headB s 0 (m : Int) ++ t = 36 :: (Lib.decDigits m ++ t) := by simp [headB]
    rw [e, headP]
    simp [strip, numP_fore (show m < 10 by omega) (digit_sign ht)]
  · have hm : m < s.funs.length := by omega
    have hx : s.funs[m]? = some s.funs[m] := List.getElem?_eq_getElem hm
    have e : headB s 1 (m : Int) ++ t = fnm s.funs[m] ++ t := by simp [headB, hx]
    have hn := hs.fn _ (List.getElem_mem hm)
    have hf : firstAt 0 (s.funs.map fnm) (fnm s.funs[m]) = some m := by
      have := firstAt_fore (i := 0) (j := m) (k := fnm s.funs[m]) hs.fnD (by simp [hm])
      simpa using this
    have hp := nameP_fore hn ht
    obtain ⟨c, r, hc, hl⟩ := letter_head hn
    obtain ⟨n1, n2, n3, _⟩ := letter_ne hl
    rw [e, headP, numK]
    have a1 : strip [36] (fnm s.funs[m] ++ t) = none := by rw [hc]; simp [strip, Ne.symm n1]
    have a2 : strip [35] (fnm s.funs[m] ++ t) = none := by rw [hc]; simp [strip, Ne.symm n2]
    have a3 : strip [40] (fnm s.funs[m] ++ t) = none := by rw [hc]; simp [strip, Ne.symm n3]
    simp [a1, a2, a3, hp, hf]
  · have hm : m < s.syms.length := by omega
    have hx : s.syms[m]? = some s.syms[m] := List.getElem?_eq_getElem hm
    have e : headB s 2 (m : Int) ++ t = 35 :: (nm s.syms[m] ++ t) := by simp [headB, hx]
    have hn := (hs.sy _ (List.getElem_mem hm)).1
    have hf : firstAt 0 (s.syms.map nm) (nm s.syms[m]) = some m := by
      have := firstAt_fore (i := 0) (j := m) (k := nm s.syms[m]) hs.syD (by simp [hm])
      simpa using this
    have hp := nameP_fore hn ht
    rw [e, headP]
    simp [strip, numK, hp, hf]
theorem ends_textL (s : Sc) (l : List T) {t : List UInt8} (ht : Ends signB t) : Ends signB (T.textL s l ++ t) := by
  cases l with
  | nil => simpa [T.textL] using ht
  | cons x r => rw [T.textL, List.cons_append]; exact Ends.cons _ (by decide)
mutual
theorem term_fore {s : Sc} (hs : s.Fine) : ∀ (x : T) (t : List UInt8), x.heads 8 s.funs.length s.syms.length = true → Ends signB t → strip [32] t = none →
    termP (firstAt 0 (s.syms.map nm)) (firstAt 0 (s.funs.map fnm)) (x.text s ++ t) = some (x, t)
  | .mk k n l, t, h, ht, h32 => by
    simp only [T.heads, Bool.and_eq_true] at h
    have h1 := (head_fore hs h.1 (ends_textL s l ht)).1
    have h2 := args_fore hs l [] t h.2 ht h32
    rw [termP_eq, T.text, List.append_assoc, h1]
    simp [h2]
theorem args_fore {s : Sc} (hs : s.Fine) : ∀ (l acc : List T) (t : List UInt8), T.headsL 8 s.funs.length s.syms.length l = true → Ends signB t → strip [32] t = none →
    argsP (firstAt 0 (s.syms.map nm)) (firstAt 0 (s.funs.map fnm)) acc (T.textL s l ++ t) = some (acc ++ l, t)
  | [], acc, t, _, ht, h32 => by
    rw [argsP_eq]
    simp [T.textL, h32]
  | x :: r, acc, t, h, ht, h32 => by
    simp only [T.headsL, Bool.and_eq_true] at h
    have ih := args_fore hs r (acc ++ [x]) t h.2 ht h32
    have e : T.textL s (x :: r) ++ t = 32 :: (x.argText s ++ (T.textL s r ++ t)) := by simp [T.textL, T.argText]
    have hx : argP (firstAt 0 (s.syms.map nm)) (firstAt 0 (s.funs.map fnm)) (x.argText s ++ (T.textL s r ++ t)) = some (x, T.textL s r ++ t) := by
      rw [argP_eq]
      by_cases hne : x.args.isEmpty = true
      · have h1 : headOk 8 s.funs.length s.syms.length x.kind x.num = true := by
          obtain ⟨k, n, l⟩ := x
          have := h.1
          simp only [T.heads, Bool.and_eq_true] at this
          exact this.1
        obtain ⟨h2, h3⟩ := head_fore hs h1 (ends_textL s r ht)
        have e2 : x.argText s = headB s x.kind x.num := by simp [T.argText, hne]
        rw [e2, h3]
        simp only [h2]
        obtain ⟨k, n, l⟩ := x
        have : l = [] := by simpa [T.args] using hne
        subst this
        rfl
      · have h2 := term_fore hs x (41 :: (T.textL s r ++ t)) h.1 (Ends.cons _ (by decide)) (by simp [strip])
        have e2 : x.argText s ++ (T.textL s r ++ t) = 40 :: (x.text s ++ 41 :: (T.textL s r ++ t)) := by simp [T.argText, hne]
        rw [e2]
        simp only [strip, if_true]
        rw [h2]
        simp [hne, strip]
    rw [e, argsP_eq]
    simp only [strip, if_true]
    rw [hx]
    simp only
    rw [ih]
    simp
end
theorem whole_fore {s : Sc} (hs : s.Fine) {x : T} (h : x.heads 8 s.funs.length s.syms.length = true) : wholeT (firstAt 0 (s.syms.map nm)) (firstAt 0 (s.funs.map fnm)) (x.text s) = some x := by
  have := term_fore hs x [] h (Ends.nil _) rfl
  rw [List.append_nil] at this
  rw [wholeT, this]
theorem bodies_fore {s : Sc} (hs : s.Fine) : ∀ (l acc : List T), (∀ x ∈ l, x.heads 8 s.funs.length s.syms.length = true) → bodiesP (firstAt 0 (s.syms.map nm)) (firstAt 0 (s.funs.map fnm)) acc (l.map (T.text s)) = some (acc ++ l)
  | [], acc, _ => by simp [bodiesP]
  | x :: r, acc, h => by
    rw [List.map_cons, bodiesP, whole_fore hs (h x (by simp))]
    simp only
    rw [bodies_fore hs r _ (fun y hy => h y (by simp [hy]))]
    simp
theorem cut_at {a p b : List UInt8} (h : ∀ j, j < a.length → Lib.occAt (a ++ (p ++ b)) p j = false) : cutP p (a ++ (p ++ b)) = some (a, b) := by
  have hi : Lib.index (a ++ (p ++ b)) p = (a.length : Int) := by
    refine Lib.index_first (by simp) ?_ h
    simp [Lib.occAt]
  have hc : Lib.cut (a ++ (p ++ b)) p = (a, b, true) := by
    have e1 : (a ++ (p ++ b)).take ((a.length : Int)).toNat = a := by simp
    have e2 : (a ++ (p ++ b)).drop ((a.length : Int).toNat + p.length) = b := by rw [Int.toNat_natCast, ← List.drop_drop]; simp
    rw [Lib.cut, hi, if_pos (by omega), e1, e2]
  rw [cutP, hc]
  simp
theorem cut_line {a b : List UInt8} (h : ∀ c ∈ a, c ≠ 10) : cutP [10] (a ++ ([10] ++ b)) = some (a, b) := by
  refine cut_at fun j hj => ?_
  cases ho : Lib.occAt (a ++ ([10] ++ b)) [10] j with
  | false => rfl
  | true =>
    have h1 := Lib.occAt_head rfl ho
    rw [List.getElem?_append_left hj] at h1
    exact absurd rfl (h 10 (List.mem_of_getElem? h1))
theorem cut_equals {a b : List UInt8} (h : ∀ c ∈ a, c ≠ 61) : cutP [32, 61, 32] (a ++ ([32, 61, 32] ++ b)) = some (a, b) := by
  refine cut_at fun j hj => ?_
  cases ho : Lib.occAt (a ++ ([32, 61, 32] ++ b)) [32, 61, 32] j with
  | false => rfl
  | true =>
    have h1 := Lib.occAt_second rfl ho
    rcases Nat.lt_or_ge (j + 1) a.length with hlt | hge
    · rw [List.getElem?_append_left hlt] at h1
      exact absurd rfl (h 61 (List.mem_of_getElem? h1))
    · have : j + 1 = a.length := by omega
      rw [this] at h1
      simp at h1
mutual
theorem S.text_ne : ∀ s : S, ∀ c ∈ s.text, c ≠ 61
  | .mk l, c, hc => by
    simp only [S.text, List.mem_append, List.mem_singleton] at hc
    rcases hc with hc | rfl
    · exact S.textL_ne l c hc
    · decide
theorem S.textL_ne : ∀ l : List S, ∀ c ∈ S.textL l, c ≠ 61
  | [], c, hc => by simp [S.textL] at hc
  | x :: r, c, hc => by
    have h1 := S.text_ne x
    have h2 := S.textL_ne r
    by_cases hx : x.args.isEmpty = true
    · simp only [S.textL, hx, if_true, List.mem_append, List.mem_cons] at hc
      simp at hc
      rcases hc with rfl | (rfl | rfl | rfl) | hc
      · decide
      · decide
      · decide
      · decide
      · exact h2 c hc
    · simp only [S.textL, hx] at hc
      simp at hc
      rcases hc with rfl | hc | rfl | rfl | rfl | rfl | hc
      · decide
      · exact h1 c hc
      · decide
      · decide
      · decide
      · decide
      · exact h2 c hc
end
theorem sign_ne {c : UInt8} (h : signB c = true) : c ≠ 10 := by rintro rfl; revert h; decide
theorem name_ne {l : List UInt8} (h : nameB l = true) : ∀ c ∈ l, c ≠ 10 := fun c hc => by
  simp only [nameB, Bool.and_eq_true, List.all_eq_true] at h
  exact sign_ne (h.2.2.2 c hc)
theorem dec_ne : ∀ n : Fin 10, UInt8.ofNat (48 + n.val) ≠ 10 := by decide
theorem headB_ne {s : Sc} (hs : s.Fine) {k n : Int} (h : headOk 8 s.funs.length s.syms.length k n = true) : ∀ c ∈ headB s k n, c ≠ 10 := by
  simp only [headOk, Bool.and_eq_true, Bool.or_eq_true, decide_eq_true_eq] at h
  obtain ⟨h0, h1⟩ := h
  obtain ⟨m, rfl⟩ : ∃ m : Nat, n = (m : Int) := ⟨n.toNat, by omega⟩
  intro c hc
  rcases h1 with ⟨rfl, h2⟩ | ⟨rfl, h2⟩ | ⟨rfl, h2⟩
  · have hm : m < 10 := by omega
    simp only [headB, if_true, Int.toNat_natCast] at hc
    rw [Lib.decDigits, dif_pos hm] at hc
    rcases List.mem_cons.1 hc with rfl | hc
    · decide
    · rw [List.mem_singleton.1 hc]; exact dec_ne ⟨m, hm⟩
  · have hm : m < s.funs.length := by omega
    have e : headB s 1 (m : Int) = fnm s.funs[m] := by simp [headB, List.getElem?_eq_getElem hm]
    rw [e] at hc
    exact name_ne (hs.fn _ (List.getElem_mem hm)) c hc
  · have hm : m < s.syms.length := by omega
    have e : headB s 2 (m : Int) = 35 :: nm s.syms[m] := by simp [headB, List.getElem?_eq_getElem hm]
    rw [e] at hc
    rcases List.mem_cons.1 hc with rfl | hc
    · decide
    · exact name_ne (hs.sy _ (List.getElem_mem hm)).1 c hc
mutual
theorem T.text_ne {s : Sc} (hs : s.Fine) : ∀ x : T, x.heads 8 s.funs.length s.syms.length = true → ∀ c ∈ x.text s, c ≠ 10
  | .mk k n l, h, c, hc => by
    simp only [T.heads, Bool.and_eq_true] at h
    simp only [T.text, List.mem_append] at hc
    rcases hc with hc | hc
    · exact headB_ne hs h.1 c hc
    · exact T.textL_ne hs l h.2 c hc
theorem T.textL_ne {s : Sc} (hs : s.Fine) : ∀ l : List T, T.headsL 8 s.funs.length s.syms.length l = true → ∀ c ∈ T.textL s l, c ≠ 10
  | [], _, c, hc => by simp [T.textL] at hc
  | x :: r, h, c, hc => by
    simp only [T.headsL, Bool.and_eq_true] at h
    have h1 := T.text_ne hs x h.1
    have h2 := T.textL_ne hs r h.2
    have h3 : headOk 8 s.funs.length s.syms.length x.kind x.num = true := by
      obtain ⟨k, n, l⟩ := x
      have := h.1
      simp only [T.heads, Bool.and_eq_true] at this
      exact this.1
    have h4 := headB_ne hs h3
    by_cases hx : x.args.isEmpty = true
    · simp only [T.textL, hx, if_true, List.mem_append, List.mem_cons] at hc
      rcases hc with rfl | hc | hc
      · decide
      · exact h4 c hc
      · exact h2 c hc
    · simp only [T.textL, hx] at hc
      simp at hc
      rcases hc with rfl | rfl | hc | rfl | hc
      · decide
      · decide
      · exact h1 c hc
      · decide
      · exact h2 c hc
end
theorem getS_fore {s : S} (h : s.ok = true) (hl : s.text.length ≤ 65536) : getE s.text = 0 ∧ getS s.text = s := by
  have h1 := parse_text s [] rfl
  rw [List.append_nil] at h1
  have h2 : whole s.text = some s := by rw [whole, h1]
  have h3 : getE s.text = 0 := by
    rw [getE, if_neg (by omega), h2]
    simp [errOf, h]
  exact ⟨h3, by rw [getS, if_pos h3, h2] <;> rfl⟩
theorem lines_fore {α : Type} {word : List UInt8} {p : List UInt8 → Option (α × List UInt8)} (hp : ∀ t x r, p t = some (x, r) → r.length < t.length) (line : α → List UInt8) :
    ∀ (l acc : List α) (t : List UInt8), (∀ x ∈ l, ∀ r, p (line x ++ r) = some (x, r)) → strip word t = none → linesP word p acc ((l.map fun x => word ++ line x).flatten ++ t) = some (acc ++ l, t)
  | [], acc, t, _, h => by
    rw [linesP_eq hp]
    simp [h]
  | x :: r, acc, t, hl, h => by
    have e : ((x :: r).map fun x => word ++ line x).flatten ++ t = word ++ (line x ++ ((r.map fun x => word ++ line x).flatten ++ t)) := by simp
    rw [e, linesP_eq hp, strip_append]
    simp only
    rw [hl x (by simp)]
    simp only
    rw [lines_fore hp line r _ t (fun y hy => hl y (by simp [hy])) h]
    simp
theorem sym_fore {x : Sy} (h : nameB (nm x) = true) (h0 : 0 ≤ x.rank) (h4 : x.rank ≤ 4) (t : List UInt8) : symP ((nm x ++ [32] ++ Lib.decDigits x.rank.toNat ++ [10]) ++ t) = some (x, t) := by
  have e : (nm x ++ [32] ++ Lib.decDigits x.rank.toNat ++ [10]) ++ t = nm x ++ (32 :: (Lib.decDigits x.rank.toNat ++ 10 :: t)) := by simp
  have h1 := nameP_fore (t := 32 :: (Lib.decDigits x.rank.toNat ++ 10 :: t)) h (Ends.cons _ (by decide))
  have h2 := numP_fore (n := x.rank.toNat) (by omega) (t := 10 :: t) (Ends.cons _ (by decide))
  rw [e, symP, h1]
  simp only [strip, if_true]
  rw [h2]
  obtain ⟨name, rank⟩ := x
  simp only at h0 h4
  have : ((rank.toNat : Nat) : Int) = rank := by omega
  simp [nm, this, strip]
/-- What stands in a function's line. -/
def lineOf (s : Sc) (f : Fn) : List UInt8 × List UInt8 × List UInt8 := (fnm f, f.sort.text, f.body.text s)
theorem fun_fore {s : Sc} (hs : s.Fine) {f : Fn} (hf : f ∈ s.funs) (hl : f.sort.text.length ≤ 65536) (t : List UInt8) :
    funLineP ((fnm f ++ [32, 58, 32] ++ f.sort.text ++ [32, 61, 32] ++ f.body.text s ++ [10]) ++ t) = some (lineOf s f, t) := by
  have e : (fnm f ++ [32, 58, 32] ++ f.sort.text ++ [32, 61, 32] ++ f.body.text s ++ [10]) ++ t = fnm f ++ (32 :: 58 :: 32 :: (f.sort.text ++ ([32, 61, 32] ++ (f.body.text s ++ ([10] ++ t))))) := by simp
  have h1 := nameP_fore (t := 32 :: 58 :: 32 :: (f.sort.text ++ ([32, 61, 32] ++ (f.body.text s ++ ([10] ++ t))))) (hs.fn f hf) (Ends.cons _ (by decide))
  have h2 := cut_equals (b := f.body.text s ++ ([10] ++ t)) (S.text_ne f.sort)
  have h3 := cut_line (b := t) (T.text_ne hs f.body (hs.bd f hf))
  have h4 := (getS_fore (hs.so f hf) hl).1
  rw [e, funLineP, funP, h1]
  simp only [strip, if_true]
  rw [h2]
  simp only [h4]
  rw [if_neg (by decide)]
  simp only
  rw [h3]
  rfl
theorem withB_fore (s : Sc) : ∀ l : List Fn, (∀ f ∈ l, getS f.sort.text = f.sort) → withB (l.map Fn.body) ((l.map (lineOf s)).map bare) = l
  | [], _ => rfl
  | f :: r, h => by
    have ih := withB_fore s r (fun g hg => h g (by simp [hg]))
    obtain ⟨name, sort, body⟩ := f
    have h1 := h ⟨name, sort, body⟩ (by simp)
    simp only at h1
    simp only [List.map_cons, withB, ih]
    simp [lineOf, bare, Fn.withBody, fnm, h1]
theorem whole_text {s : Sc} (hs : s.Fine) (hl : ∀ f ∈ s.funs, f.sort.text.length ≤ 65536) : wholeSc s.text = some (s, false) := by
  have h2 := lines_fore (word := funWord) (p := funLineP) (fun _ _ _ h => funLineP_le h) (fun x => x.1 ++ [32, 58, 32] ++ x.2.1 ++ [32, 61, 32] ++ x.2.2 ++ [10]) (s.funs.map (lineOf s)) [] []
    (fun x hx r => by
      obtain ⟨f, hf, rfl⟩ := List.mem_map.1 hx
      exact fun_fore hs hf (hl f hf) r) rfl
  have ef : funLines s s.funs = ((s.funs.map (lineOf s)).map fun x => funWord ++ (x.1 ++ [32, 58, 32] ++ x.2.1 ++ [32, 61, 32] ++ x.2.2 ++ [10])).flatten := by
    simp only [funLines, List.map_map]
    congr 1
  rw [List.append_nil, ← ef] at h2
  have h1 := lines_fore (word := symWord) (p := symP) (fun _ _ _ h => symP_le h) (fun x => nm x ++ [32] ++ Lib.decDigits x.rank.toNat ++ [10]) s.syms [] (funLines s s.funs)
    (fun x hx r => by obtain ⟨a, b, c⟩ := hs.sy x hx; exact sym_fore a b c r) (by
      cases s.funs with
      | nil => simp [funLines, strip, symWord]
      | cons f r => simp [funLines, funLine, strip, symWord])
  rw [← symLines_eq] at h1
  have h3 := bodies_fore hs (s.funs.map Fn.body) [] (fun x hx => by
    obtain ⟨f, hf, rfl⟩ := List.mem_map.1 hx
    exact hs.bd f hf)
  have h4 := withB_fore s s.funs (fun f hf => (getS_fore (hs.so f hf) (hl f hf)).2)
  have h5 : badOf (s.funs.map (lineOf s)) = false := by
    simp only [badOf, List.any_eq_false]
    intro x hx
    obtain ⟨f, hf, rfl⟩ := List.mem_map.1 hx
    simp [lineOf, (getS_fore (hs.so f hf) (hl f hf)).1]
  have e1 : (s.funs.map (lineOf s)).map (fun x => x.1) = s.funs.map fnm := by rw [List.map_map] <;> rfl
  have e2 : (s.funs.map (lineOf s)).map (fun x => x.2.2) = (s.funs.map Fn.body).map (T.text s) := by rw [List.map_map, List.map_map] <;> rfl
  simp only [List.nil_append] at h1 h2 h3
  rw [wholeSc, schemeP, Sc.text, h1]
  simp only
  rw [h2]
  simp only [e1, e2, h3, h4, h5]
theorem getSS_fore {s : Sc} (hs : s.Fine) (hok : s.ok = true) (hl : ∀ f ∈ s.funs, f.sort.text.length ≤ 65536) (hn : s.text.length ≤ 65536) : getSE s.text = 0 ∧ getSS s.text = s := by
  have h1 := whole_text hs hl
  have h2 : getSE s.text = 0 := by
    rw [getSE, if_neg (by omega), h1]
    simp [schErr, hok]
  exact ⟨h2, getSS_yes h2 h1⟩
theorem Sc.Good.fine {s : Sc} (h : s.Good) : s.Fine := by
  refine ⟨h.sy_all.2, ?_, fun f hf => diff_names _ _ h.df _ (List.mem_map.2 ⟨f, hf, rfl⟩), h.df, h.so, fun f hf => (h.body hf).2⟩
  have h1 := h.sy
  simp only [symsB, Bool.and_eq_true, decide_eq_true_eq] at h1
  rw [syOk_diff] at h1
  simp only [Bool.and_eq_true] at h1
  exact h1.2.1
theorem Sc.putE_cases (s : Sc) (h : s.ok = true) : s.putE = 3 ∧ s.puts = [] ∨ (s.putE = 0 ∧ s.puts = s.text ∧ s.text.length ≤ 65536 ∧ getSE s.text = 0 ∧ getSS s.text = s) := by
  by_cases hl : 65536 < s.text.length
  · have hE : s.putE = 3 := by rw [Sc.putE, if_pos h, if_pos hl]
    exact .inl ⟨hE, by rw [Sc.puts, if_neg (by rw [hE]; decide)]⟩
  · have hE : s.putE = 0 := by rw [Sc.putE, if_pos h, if_neg hl]
    have hg := Sc.good h
    have h1 := getSS_fore hg.fine h (fun f hf => by
      have h2 := f.sort.text_length
      have h3 := S.ok_count (hg.so f hf)
      omega) (by omega)
    exact .inr ⟨hE, by rw [Sc.puts, if_pos hE], by omega, h1.1, h1.2⟩
end Go.Proofs.YtbbejhhohppdhaaGreatDoor
