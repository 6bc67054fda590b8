/-
  Reading the string of a sort gives the sort, and only that string does.
-/
import Derived.Test.YtbifnkjfjndjjaaParse
namespace Go.Proofs.Ytbifnkjfjndjjaa

theorem parse_arg (acc : List S) (x : S) (u : List UInt8) (h : x.args.isEmpty = false → parse [] (x.text ++ (41 :: arrow ++ u)) = some (x, 41 :: arrow ++ u)) : parse acc (x.argText ++ (arrow ++ u)) = parse (acc ++ [x]) u := by
  by_cases hx : x.args.isEmpty
  · have hxe : x = .mk [] := by
      obtain ⟨l⟩ := x
      have : l = [] := by simpa [S.args] using hx
      rw [this]
    rw [parse_eq]
    have h1 : x.argText = [111] := by simp [S.argText, hx]
    rw [h1, strip_append]
    simp only
    rw [strip_append, hxe]
  · have hx' : x.args.isEmpty = false := by simpa using hx
    have h1 : x.argText ++ (arrow ++ u) = 40 :: (x.text ++ (41 :: arrow ++ u)) := by simp [S.argText, hx]
    rw [h1, parse_eq]
    have h2 : strip [111] (40 :: (x.text ++ (41 :: arrow ++ u))) = none := by simp [strip]
    have h3 : strip [40] (40 :: (x.text ++ (41 :: arrow ++ u))) = some (x.text ++ (41 :: arrow ++ u)) := by simp [strip]
    rw [h2, h3]
    simp only
    rw [h hx']
    simp only
    rw [if_neg hx, strip_append]
mutual
theorem parse_text : ∀ (s : S) (rest : List UInt8), strip arrow rest = none → parse [] (s.text ++ rest) = some (s, rest)
  | .mk l, rest, h => by
    have := parse_textL l [] rest h
    simpa [S.text] using this
theorem parse_textL : ∀ (l : List S) (acc : List S) (rest : List UInt8), strip arrow rest = none → parse acc (S.textL l ++ 111 :: rest) = some (.mk (acc ++ l), rest)
  | [], acc, rest, h => by
    simp only [S.textL, List.nil_append, List.append_nil]
    rw [parse_eq]
    have h1 : strip [111] (111 :: rest) = some rest := by simp [strip]
    rw [h1]
    simp only
    rw [h]
  | x :: r, acc, rest, h => by
    have hr := parse_textL r (acc ++ [x]) rest h
    have ha := parse_arg acc x (S.textL r ++ 111 :: rest) (fun _ => parse_text x _ (by simp [strip, arrow]))
    have he : S.textL (x :: r) ++ 111 :: rest = x.argText ++ (arrow ++ (S.textL r ++ 111 :: rest)) := by simp [S.textL, S.argText, arrow]
    rw [he, ha, hr]
    simp
end

theorem parse_back : ∀ (n : Nat) (acc : List S) (t r : List UInt8) (s : S), t.length < n → parse acc t = some (s, r) → ∃ l, s = .mk (acc ++ l) ∧ t = S.textL l ++ 111 :: r := by
  intro n
  induction n with
  | zero => intro acc t r s h; omega
  | succ n ih =>
    intro acc t r s hn h
    rw [parse_eq] at h
    cases h1 : strip [111] t with
    | some q =>
      have e1 := strip_eq h1
      have l1 := strip_len h1
      simp at l1
      rw [h1] at h
      simp only at h
      cases h2 : strip arrow q with
      | some q2 =>
        have e2 := strip_eq h2
        have l2 := strip_len h2
        rw [h2] at h
        simp only at h
        obtain ⟨l, rfl, rfl⟩ := ih _ _ _ _ (by omega) h
        refine ⟨.mk [] :: l, by simp, ?_⟩
        rw [e1, e2]
        simp [S.textL, S.args, arrow]
      | none =>
        rw [h2] at h
        simp only [Option.some.injEq, Prod.mk.injEq] at h
        obtain ⟨rfl, rfl⟩ := h
        exact ⟨[], by simp, by rw [e1]; simp [S.textL]⟩
    | none =>
      rw [h1] at h
      simp only at h
      cases h3 : strip [40] t with
      | none => rw [h3] at h; cases h
      | some q =>
        have e3 := strip_eq h3
        have l3 := strip_len h3
        simp at l3
        rw [h3] at h
        simp only at h
        cases h4 : parse [] q with
        | none => rw [h4] at h; cases h
        | some y =>
          obtain ⟨x, q2⟩ := y
          have l4 := parse_le h4
          rw [h4] at h
          simp only at h
          by_cases hx : x.args.isEmpty
          · rw [if_pos hx] at h; cases h
          · rw [if_neg hx] at h
            cases h5 : strip (41 :: arrow) q2 with
            | none => rw [h5] at h; cases h
            | some q3 =>
              have e5 := strip_eq h5
              have l5 := strip_len h5
              rw [h5] at h
              simp only at h
              obtain ⟨l, rfl, rfl⟩ := ih _ _ _ _ (by omega) h
              obtain ⟨lx, hlx, hq⟩ := ih _ _ _ _ (by omega) h4
              refine ⟨x :: l, by simp, ?_⟩
              have hxt : x.text = S.textL lx ++ [111] := by rw [hlx]; simp [S.text]
              rw [e3, hq, e5]
              simp [S.textL, hx, hxt, arrow]
end Go.Proofs.Ytbifnkjfjndjjaa
