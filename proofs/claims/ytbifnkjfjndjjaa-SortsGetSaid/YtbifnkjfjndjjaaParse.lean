/-
  Reading the string of a sort: plain functions on lists of bytes.
-/
import Derived.Test.YtbifnkjfjndjjaaText
namespace Go.Proofs.Ytbifnkjfjndjjaa
open Go.RowKit

/-- What stands behind a word. -/
def strip : List UInt8 → List UInt8 → Option (List UInt8)
  | [], t => some t
  | a :: p, b :: t => if a = b then strip p t else none
  | _ :: _, [] => none
theorem strip_eq : ∀ {p t r : List UInt8}, strip p t = some r → t = p ++ r
  | [], t, r, h => by simp [strip] at h; simp [h]
  | a :: p, b :: t, r, h => by
    simp only [strip] at h
    split at h
    · rename_i hab; rw [strip_eq h, hab]; rfl
    · cases h
  | _ :: _, [], r, h => by cases h
theorem strip_append : ∀ (p r : List UInt8), strip p (p ++ r) = some r
  | [], r => rfl
  | a :: p, r => by simp [strip, strip_append p r]
theorem strip_len {p t r : List UInt8} (h : strip p t = some r) : t.length = p.length + r.length := by rw [strip_eq h, List.length_append]
theorem strip_two : ∀ {p q t : List UInt8}, strip (p ++ q) t = (strip p t).bind (strip q)
  | [], q, t => rfl
  | a :: p, q, [] => rfl
  | a :: p, q, b :: t => by
    simp only [List.cons_append, strip]
    split
    · exact strip_two
    · rfl

/-- The arrow. -/
def arrow : List UInt8 := [32, 62, 32]

/-- acc: the arguments that have been read. The result: the sort, and what is left. -/
def parseF : Nat → List S → List UInt8 → Option (S × List UInt8)
  | 0, _, _ => none
  | n + 1, acc, t =>
    match strip [111] t with
    | some r => (match strip arrow r with
      | some q => parseF n (acc ++ [.mk []]) q
      | none => some (.mk acc, r))
    | none => (match strip [40] t with
      | some r => (match parseF n [] r with
        | some (x, r2) => if x.args.isEmpty then none else (match strip (41 :: arrow) r2 with
          | some q => parseF n (acc ++ [x]) q
          | none => none)
        | none => none)
      | none => none)
theorem parseF_succ (n : Nat) (acc : List S) (t : List UInt8) : parseF (n + 1) acc t =
    match strip [111] t with
    | some r => (match strip arrow r with
      | some q => parseF n (acc ++ [.mk []]) q
      | none => some (.mk acc, r))
    | none => (match strip [40] t with
      | some r => (match parseF n [] r with
        | some (x, r2) => if x.args.isEmpty then none else (match strip (41 :: arrow) r2 with
          | some q => parseF n (acc ++ [x]) q
          | none => none)
        | none => none)
      | none => none) := rfl

theorem parseF_le : ∀ (n : Nat) (acc : List S) (t : List UInt8) (x : S) (r : List UInt8), parseF n acc t = some (x, r) → r.length < t.length := by
  intro n
  induction n with
  | zero => intro acc t x r h; simp [parseF] at h
  | succ n ih =>
    intro acc t x r h
    rw [parseF_succ] at h
    split at h
    · rename_i h1
      have l1 := strip_len h1
      split at h
      · rename_i h2
        have l2 := strip_len h2
        have := ih _ _ _ _ h
        simp at l1 l2
        omega
      · simp only [Option.some.injEq, Prod.mk.injEq] at h
        obtain ⟨_, rfl⟩ := h
        simp at l1
        omega
    · split at h
      · rename_i h1
        have l1 := strip_len h1
        split at h
        · rename_i h2
          have l2 := ih _ _ _ _ h2
          split at h
          · cases h
          · split at h
            · rename_i h3
              have l3 := strip_len h3
              have := ih _ _ _ _ h
              simp at l1 l3
              omega
            · cases h
        · cases h
      · cases h

theorem parseF_stable : ∀ (n m : Nat) (acc : List S) (t : List UInt8), t.length < n → t.length < m → parseF n acc t = parseF m acc t := by
  intro n
  induction n with
  | zero => intro m acc t h; omega
  | succ n ih =>
    intro m acc t hn hm
    cases m with
    | zero => omega
    | succ m =>
      rw [parseF_succ, parseF_succ]
      split
      · rename_i h1
        have l1 := strip_len h1
        simp at l1
        split
        · rename_i h2
          have l2 := strip_len h2
          exact ih m _ _ (by omega) (by omega)
        · rfl
      · split
        · rename_i r h1
          have l1 := strip_len h1
          simp at l1
          rw [ih m [] r (by omega) (by omega)]
          split
          · rename_i h2
            have l2 := parseF_le _ _ _ _ _ h2
            split
            · rfl
            · split
              · rename_i h3
                have l3 := strip_len h3
                simp at l3
                exact ih m _ _ (by omega) (by omega)
              · rfl
          · rfl
        · rfl

def parse (acc : List S) (t : List UInt8) : Option (S × List UInt8) := parseF (t.length + 1) acc t
theorem parse_of {n : Nat} {acc : List S} {t : List UInt8} (h : t.length < n) : parseF n acc t = parse acc t := parseF_stable _ _ _ _ h (by omega)
theorem parse_le {acc : List S} {t r : List UInt8} {x : S} (h : parse acc t = some (x, r)) : r.length < t.length := parseF_le _ _ _ _ _ h
theorem parse_eq (acc : List S) (t : List UInt8) : parse acc t =
    match strip [111] t with
    | some r => (match strip arrow r with
      | some q => parse (acc ++ [.mk []]) q
      | none => some (.mk acc, r))
    | none => (match strip [40] t with
      | some r => (match parse [] r with
        | some (x, r2) => if x.args.isEmpty then none else (match strip (41 :: arrow) r2 with
          | some q => parse (acc ++ [x]) q
          | none => none)
        | none => none)
      | none => none) := by
  rw [parse, parseF_succ]
  split
  · rename_i h1
    have l1 := strip_len h1
    simp at l1
    split
    · rename_i h2
      have l2 := strip_len h2
      exact parse_of (by omega)
    · rfl
  · split
    · rename_i r h1
      have l1 := strip_len h1
      simp at l1
      rw [parse_of (acc := []) (t := r) (by omega)]
      split
      · rename_i h2
        have l2 := parse_le h2
        split
        · rfl
        · split
          · rename_i h3
            have l3 := strip_len h3
            simp at l3
            exact parse_of (by omega)
          · rfl
      · rfl
    · rfl

/-- One argument: whether it stood in brackets, and what is left. -/
def part (t : List UInt8) : Option (S × Bool × List UInt8) :=
  match strip [40] t with
  | some r => (match parse [] r with
    | some (x, r2) => if x.args.isEmpty then none else (match strip [41] r2 with
      | some q => some (x, true, q)
      | none => none)
    | none => none)
  | none => (match strip [111] t with
    | some r => some (.mk [], false, r)
    | none => none)
theorem strip_other {t r : List UInt8} (h : strip [111] t = some r) : strip [40] t = none := by
  rw [strip_eq h]; simp [strip]
theorem part_le {t r : List UInt8} {x : S} {b : Bool} (h : part t = some (x, b, r)) : r.length < t.length := by
  rw [part] at h
  split at h
  · rename_i h1
    have l1 := strip_len h1
    simp at l1
    split at h
    · rename_i h2
      have l2 := parse_le h2
      split at h
      · cases h
      · split at h
        · rename_i h3
          have l3 := strip_len h3
          simp at l3
          simp only [Option.some.injEq, Prod.mk.injEq] at h
          obtain ⟨_, _, rfl⟩ := h
          omega
        · cases h
    · cases h
  · split at h
    · rename_i h1
      have l1 := strip_len h1
      simp at l1
      simp only [Option.some.injEq, Prod.mk.injEq] at h
      obtain ⟨_, _, rfl⟩ := h
      omega
    · cases h
/-- The reader's loop is the parser. -/
theorem parse_part (acc : List S) (t : List UInt8) : parse acc t =
    match part t with
    | some (x, b, r) => (match strip arrow r with
      | some q => parse (acc ++ [x]) q
      | none => if b then none else some (.mk acc, r))
    | none => none := by
  rw [parse_eq, part]
  cases h1 : strip [111] t with
  | some r =>
    rw [strip_other h1]
    simp only
    cases h2 : strip arrow r <;> simp
  | none =>
    cases h3 : strip [40] t with
    | none => simp
    | some r =>
      simp only
      cases h4 : parse [] r with
      | none => simp
      | some y =>
        obtain ⟨x, r2⟩ := y
        simp only
        by_cases hx : x.args.isEmpty
        · simp [hx]
        · simp only [hx]
          rw [show (41 :: arrow) = [41] ++ arrow from rfl, strip_two]
          cases h5 : strip [41] r2 with
          | none => simp
          | some q =>
            simp only [Option.bind_some]
            cases h6 : strip arrow q <;> simp [h6]
end Go.Proofs.Ytbifnkjfjndjjaa
