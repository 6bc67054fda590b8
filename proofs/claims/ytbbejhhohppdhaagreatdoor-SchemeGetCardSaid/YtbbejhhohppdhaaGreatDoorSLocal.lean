/-
  What the program reads of a scheme's string is what the reference reads: plain functions.
-/
import Derived.Test.YtbbejhhohppdhaaGreatDoorSRefGetP
import Derived.Test.YtbbejhhohppdhaaGreatDoorGJ
import Derived.Test.YtbbejhhohppdhaaGreatDoorGK
namespace Go.Proofs.YtbbejhhohppdhaaGreatDoor
open Go.RowKit Go.Shelf

/-- No reader goes on behind a newline. -/
theorem takeWhile_nl {p : UInt8 → Bool} (hp : p 10 = false) (q : List UInt8) : ∀ b : List UInt8, (b ++ 10 :: q).takeWhile p = b.takeWhile p ∧ (b ++ 10 :: q).dropWhile p = b.dropWhile p ++ 10 :: q
  | [] => by simp [hp]
  | a :: r => by
    obtain ⟨h1, h2⟩ := takeWhile_nl hp q r
    by_cases ha : p a = true
    · simp [ha, h1, h2]
    · simp [ha]
theorem strip_nl {p : List UInt8} (hp : ∀ c ∈ p, c ≠ 10) (q : List UInt8) : ∀ b : List UInt8, strip p (b ++ 10 :: q) = (strip p b).map fun r => r ++ 10 :: q := by
  induction p with
  | nil => intro b; rfl
  | cons a r ih =>
    intro b
    cases b with
    | nil =>
      have := hp a (by simp)
      simp [strip, this]
    | cons c s =>
      simp only [List.cons_append, strip]
      by_cases h : a = c
      · simp only [h, if_true]
        exact ih (fun x hx => hp x (by simp [hx])) s
      · simp [h]
theorem nameP_nl (q b : List UInt8) : nameP (b ++ 10 :: q) = (nameP b).map fun x => (x.1, x.2 ++ 10 :: q) := by
  obtain ⟨h1, h2⟩ := takeWhile_nl (p := signB) (by decide) q b
  unfold nameP
  rw [h1, h2]
  by_cases h : nameB (b.takeWhile signB) = true
  · rw [if_pos h, if_pos h]; rfl
  · rw [if_neg h, if_neg h]; rfl
theorem numP_nl (q b : List UInt8) : numP (b ++ 10 :: q) = (numP b).map fun x => (x.1, x.2 ++ 10 :: q) := by
  obtain ⟨h1, h2⟩ := takeWhile_nl (p := digitB) (by decide) q b
  unfold numP
  rw [h1, h2]
  by_cases h : numOk (b.takeWhile digitB) = true
  · rw [if_pos h, if_pos h]; rfl
  · rw [if_neg h, if_neg h]; rfl
theorem numK_nl (f : List UInt8 → Option Nat) (q b : List UInt8) : numK f (b ++ 10 :: q) = (numK f b).map fun x => (x.1, x.2 ++ 10 :: q) := by
  unfold numK
  rw [nameP_nl]
  cases nameP b with
  | none => rfl
  | some y =>
    obtain ⟨s, r⟩ := y
    simp only [Option.map_some]
    cases f s <;> rfl
theorem headP_nl (f g : List UInt8 → Option Nat) (q b : List UInt8) : headP f g (b ++ 10 :: q) = (headP f g b).map fun x => (x.1, x.2 ++ 10 :: q) := by
  cases h1 : strip [36] b with
  | some r =>
    have h2 : strip [36] (b ++ 10 :: q) = some (r ++ 10 :: q) := by rw [strip_nl (by decide), h1]; rfl
    rw [headP_var h1, headP_var h2, numP_nl]
    cases numP r <;> rfl
  | none =>
    have h2 : strip [36] (b ++ 10 :: q) = none := by rw [strip_nl (by decide), h1]; rfl
    cases h3 : strip [35] b with
    | some r =>
      have h4 : strip [35] (b ++ 10 :: q) = some (r ++ 10 :: q) := by rw [strip_nl (by decide), h3]; rfl
      rw [headP_sym h1 h3, headP_sym h2 h4, numK_nl]
      cases numK f r <;> rfl
    | none =>
      have h4 : strip [35] (b ++ 10 :: q) = none := by rw [strip_nl (by decide), h3]; rfl
      rw [headP_fun h1 h3, headP_fun h2 h4, numK_nl]
      cases numK g b <;> rfl
theorem termW_nl {f g : List UInt8 → Option Nat} {rec : List UInt8 → Option (List T × List UInt8)} (q : List UInt8) (hr : ∀ b, rec (b ++ 10 :: q) = (rec b).map fun x => (x.1, x.2 ++ 10 :: q)) (b : List UInt8) : termW f g rec (b ++ 10 :: q) = (termW f g rec b).map fun x => (x.1, x.2 ++ 10 :: q) := by
  unfold termW
  rw [headP_nl]
  cases headP f g b with
  | none => rfl
  | some y =>
    obtain ⟨h, r⟩ := y
    simp only [Option.map_some]
    rw [hr]
    cases rec r <;> rfl
theorem argW_nl {f g : List UInt8 → Option Nat} {rec : List UInt8 → Option (T × List UInt8)} (q : List UInt8) (hr : ∀ b, rec (b ++ 10 :: q) = (rec b).map fun x => (x.1, x.2 ++ 10 :: q)) (b : List UInt8) : argW f g rec (b ++ 10 :: q) = (argW f g rec b).map fun x => (x.1, x.2 ++ 10 :: q) := by
  unfold argW
  rw [strip_nl (by decide), headP_nl]
  cases strip [40] b with
  | none =>
    simp only [Option.map_none]
    cases headP f g b <;> rfl
  | some r =>
    simp only [Option.map_some]
    rw [hr]
    cases rec r with
    | none => rfl
    | some y =>
      obtain ⟨x, z⟩ := y
      simp only [Option.map_some]
      by_cases hx : x.args.isEmpty = true
      · simp only [if_pos hx]; rfl
      · simp only [if_neg hx]
        rw [strip_nl (by decide)]
        cases strip [41] z <;> rfl
theorem argsF_nl {f g : List UInt8 → Option Nat} (q : List UInt8) : ∀ (n : Nat) (acc : List T) (b : List UInt8), argsF f g n acc (b ++ 10 :: q) = (argsF f g n acc b).map fun x => (x.1, x.2 ++ 10 :: q) := by
  intro n
  induction n with
  | zero => intro acc b; rfl
  | succ n ih =>
    intro acc b
    rw [argsF_succ, argsF_succ, strip_nl (by decide)]
    cases strip [32] b with
    | none => rfl
    | some r =>
      simp only [Option.map_some]
      rw [argW_nl q (termW_nl q (ih []))]
      cases argW f g (termW f g (argsF f g n [])) r with
      | none => rfl
      | some y =>
        obtain ⟨x, z⟩ := y
        exact ih _ _
theorem termP_nl (f g : List UInt8 → Option Nat) (q b : List UInt8) : termP f g (b ++ 10 :: q) = (termP f g b).map fun x => (x.1, x.2 ++ 10 :: q) := by
  refine termW_nl q (fun c => ?_) b
  show argsF f g _ [] _ = (argsF f g _ [] _).map _
  rw [argsF_nl q, argsF_stable (c.length + 1) ((c ++ 10 :: q).length + 1) [] c (by omega) (by simp; omega)]
/-- A body's text up to its line's end, read whole. -/
theorem body_line {s : Sc} {f g : List UInt8 → Option Nat} (hs : Knows s f g) {b q : List UInt8} (hb : ∀ c ∈ b, c ≠ 10) : wholeT f g b = match termP f g (b ++ 10 :: q) with | some (y, z) => (match strip [10] z with | some _ => some y | none => none) | none => none := by
  rw [termP_nl]
  unfold wholeT
  cases h : termP f g b with
  | none => rfl
  | some y =>
    obtain ⟨y, z⟩ := y
    have h1 := termP_back hs h
    simp only [Option.map_some]
    cases z with
    | nil => rfl
    | cons c r =>
      have hc : c ≠ 10 := hb c (by rw [h1]; simp)
      have : strip [10] (c :: r ++ 10 :: q) = none := by simp [strip, Ne.symm hc]
      simp only [this]
theorem cut_nl (r : List UInt8) : cutP [10] r = match r.dropWhile (fun c => c != 10) with | [] => none | _ :: q => some (r.takeWhile (fun c => c != 10), q) := by
  have h0 : r = r.takeWhile (fun c => c != 10) ++ r.dropWhile (fun c => c != 10) := (List.takeWhile_append_dropWhile).symm
  have hall := takeWhile_all (fun c : UInt8 => c != 10) r
  cases h : r.dropWhile (fun c => c != 10) with
  | nil =>
    rw [h, List.append_nil] at h0
    cases hc : cutP [10] r with
    | none => rfl
    | some y =>
      obtain ⟨s, z⟩ := y
      have h1 := cutP_eq hc
      rw [← h0, List.all_eq_true] at hall
      have := hall 10 (by rw [h1]; simp)
      simp at this
  | cons c q =>
    have hc : c = 10 := by
      have := List.head?_dropWhile_not (fun c : UInt8 => c != 10) r
      rw [h] at this
      simpa using this
    subst hc
    have h1 : cutP [10] (r.takeWhile (fun c => c != 10) ++ ([10] ++ q)) = some (r.takeWhile (fun c => c != 10), q) := cut_line (fun c hc => by
      rw [List.all_eq_true] at hall
      simpa using hall c hc)
    have h2 : r.takeWhile (fun c => c != 10) ++ ([10] ++ q) = r := by
      rw [h] at h0
      exact h0.symm
    rw [h2] at h1
    exact h1
theorem whole_text' (x : S) : whole x.text = some x := by
  have h := parse_text x [] rfl
  rw [List.append_nil] at h
  rw [whole, h]
theorem text_of_parse {t r : List UInt8} {x : S} (h : parse [] t = some (x, r)) : t = x.text ++ r := by
  obtain ⟨l, e1, e2⟩ := parse_back _ _ _ _ _ (Nat.lt_succ_self _) h
  rw [e1, e2]
  simp [S.text]
def sortCut (r2 : List UInt8) : Option (List UInt8 × List UInt8) := match cutP [32, 61, 32] r2 with
  | some (p, r3) => if getE p = 4 then none else some (p, r3)
  | none => none
theorem sort_part (r2 : List UInt8) (hl : r2.length ≤ 65536) : sortCut r2 = (match parse [] r2 with | some (x, r') => (match strip [32, 61, 32] r' with | some b => some (x.text, b) | none => none) | none => none) := by
  unfold sortCut
  have back : ∀ p r3, cutP [32, 61, 32] r2 = some (p, r3) → getE p ≠ 4 → ∃ x, parse [] r2 = some (x, [32, 61, 32] ++ r3) ∧ p = x.text := by
    intro p r3 hc hg
    have h1 := cutP_eq hc
    have hp : p.length ≤ 65536 := by
      have := congrArg List.length h1
      simp at this; omega
    rw [getE, if_neg (by omega)] at hg
    cases hw : whole p with
    | none => rw [hw] at hg; exact absurd rfl hg
    | some x =>
      have h2 : parse [] p = some (x, []) := by
        rw [whole] at hw
        split at hw
        · rename_i y hy; cases hw; exact hy
        · cases hw
      have h3 := text_of_parse h2
      rw [List.append_nil] at h3
      refine ⟨x, ?_, h3⟩
      rw [h1, h3]
      exact parse_text x _ rfl
  cases hp : parse [] r2 with
  | none =>
    simp only
    cases hc : cutP [32, 61, 32] r2 with
    | none => rfl
    | some y =>
      obtain ⟨p, r3⟩ := y
      simp only
      by_cases hg : getE p = 4
      · rw [if_pos hg]
      · obtain ⟨x, h1, _⟩ := back p r3 hc hg
        rw [hp] at h1; cases h1
  | some y =>
    obtain ⟨x, r'⟩ := y
    simp only
    cases hs : strip [32, 61, 32] r' with
    | some b =>
      have h1 := text_of_parse hp
      rw [strip_eq hs] at h1
      have h2 : cutP [32, 61, 32] r2 = some (x.text, b) := by rw [h1]; exact cut_equals (S.text_ne x)
      have hxl : x.text.length ≤ 65536 := by
        have := congrArg List.length h1
        simp at this; omega
      have h3 : getE x.text ≠ 4 := by
        rw [getE, if_neg (by omega), whole_text']
        simp only [errOf]
        split <;> decide
      simp only [h2, if_neg h3]
    | none =>
      simp only
      cases hc : cutP [32, 61, 32] r2 with
      | none => rfl
      | some y =>
        obtain ⟨p, r3⟩ := y
        simp only
        by_cases hg : getE p = 4
        · rw [if_pos hg]
        · obtain ⟨x', h1, _⟩ := back p r3 hc hg
          rw [hp] at h1
          cases h1
          rw [strip_append] at hs
          cases hs
end Go.Proofs.YtbbejhhohppdhaaGreatDoor
