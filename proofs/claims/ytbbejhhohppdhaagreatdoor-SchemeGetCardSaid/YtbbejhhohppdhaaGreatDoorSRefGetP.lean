/-
  The reference's reading of schemes: Get, the plain part and its state.
-/
import Derived.Test.YtbbejhhohppdhaaGreatDoorSRefNames
import Derived.Test.YtbbejhhohppdhaaGreatDoorGL
namespace Go.Proofs.YtbbejhhohppdhaaGreatDoor
open Go.RowKit

theorem linesF_all {α : Type} {word : List UInt8} {p : List UInt8 → Option (α × List UInt8)} {Q : α → Prop} (hp : ∀ t x r, p t = some (x, r) → Q x) : ∀ (n : Nat) (acc : List α) (t : List UInt8) (l : List α) (r : List UInt8), (∀ x ∈ acc, Q x) → linesF word p n acc t = some (l, r) → ∀ x ∈ l, Q x := by
  intro n
  induction n with
  | zero => intro acc t l r _ h; simp [linesF] at h
  | succ n ih =>
    intro acc t l r ha h
    rw [linesF_succ] at h
    split at h
    · cases h; exact ha
    · split at h
      · rename_i x q hx
        exact ih _ _ _ _ (fun y hy => by
          rcases List.mem_append.1 hy with hy | hy
          · exact ha y hy
          · rw [List.mem_singleton.1 hy]; exact hp _ _ _ hx) h
      · cases h
theorem linesF_len {α : Type} {word : List UInt8} {p : List UInt8 → Option (α × List UInt8)} (hp : ∀ t x r, p t = some (x, r) → r.length < t.length) : ∀ (n : Nat) (acc : List α) (t : List UInt8) (l : List α) (r : List UInt8), linesF word p n acc t = some (l, r) → l.length + r.length ≤ acc.length + t.length := by
  intro n
  induction n with
  | zero => intro acc t l r h; simp [linesF] at h
  | succ n ih =>
    intro acc t l r h
    rw [linesF_succ] at h
    split at h
    · cases h; exact Nat.le_refl _
    · rename_i q hs
      have l1 := strip_len hs
      split at h
      · rename_i x q2 hx
        have l2 := hp _ _ _ hx
        have l3 := ih _ _ _ _ h
        simp at l3; omega
      · cases h
theorem names3_len {t : List UInt8} {sy : List Sy} {xs : List (List UInt8 × S × List UInt8)} (h : names3 t = some (sy, xs)) : xs.length ≤ t.length := by
  rw [names3] at h
  split at h
  · rename_i sy' r h1
    have l1 := linesF_len (fun _ _ _ => symP_le) _ _ _ _ _ h1
    split at h
    · rename_i xs' q h2
      have l2 := linesF_len (fun _ _ _ => funL3_le) _ _ _ _ _ h2
      split at h
      · cases h
        simp at l1 l2; omega
      · cases h
    · cases h
  · cases h
theorem term_cases {f g : List UInt8 → Option Nat} {t t' : List UInt8} {y : T} {nx : Nat} {ok : Bool} (h : match termP f g t' with | some (x, r) => ok = true ∧ x = y ∧ nx ≤ t.length ∧ t.drop nx = r | none => ok = false) : (ok = false ∧ termP f g t' = none) ∨ (ok = true ∧ nx ≤ t.length ∧ termP f g t' = some (y, t.drop nx)) := by
  cases hx : termP f g t' with
  | none => rw [hx] at h; exact .inl ⟨h, rfl⟩
  | some z =>
    obtain ⟨x, r⟩ := z
    rw [hx] at h
    obtain ⟨h1, rfl, h3, rfl⟩ := h
    exact .inr ⟨h1, h3, rfl⟩
theorem nameP_B {t s r : List UInt8} (h : nameP t = some (s, r)) : nameB s = true := (nameP_eq h).2
theorem symP_nameB {t r : List UInt8} {x : Sy} (h : symP t = some (x, r)) : nameB (nm x) = true := by
  rw [symP] at h
  split at h
  · rename_i s q hn
    split at h
    · split at h
      · split at h
        · cases h; exact nameP_B hn
        · cases h
      · cases h
    · cases h
  · cases h
theorem funL3_nameB {t r : List UInt8} {x : List UInt8 × S × List UInt8} (h : funL3 t = some (x, r)) : nameB x.1 = true := by
  rw [funL3] at h
  split at h
  · rename_i s q hn
    split at h
    · split at h
      · split at h
        · split at h
          · cases h; exact nameP_B hn
          · cases h
        · cases h
      · cases h
    · cases h
  · cases h
theorem names3_named {t : List UInt8} {sy : List Sy} {xs : List (List UInt8 × S × List UInt8)} (h : names3 t = some (sy, xs)) : Sc.named ⟨sy, xs.map bare3⟩ := by
  rw [names3] at h
  split at h
  · rename_i sy' r h1
    split at h
    · rename_i xs' q h2
      split at h
      · cases h
        refine ⟨linesF_all (Q := fun x => nameB (nm x) = true) (fun _ _ _ => symP_nameB) _ _ _ _ _ (by simp) h1, fun f hf => ?_⟩
        obtain ⟨x, hx, rfl⟩ := List.mem_map.1 hf
        exact linesF_all (Q := fun x : List UInt8 × S × List UInt8 => nameB x.1 = true) (fun _ _ _ => funL3_nameB) _ _ _ _ _ (by simp) h2 x hx
      · cases h
    · cases h
  · cases h
/-- The functions with their bodies. -/
def bodsA (f g : List UInt8 → Option Nat) (acc : List Fn) : List (List UInt8 × S × List UInt8) → Option (List Fn)
  | [] => some acc
  | x :: r => match termP f g x.2.2 with
    | some (y, q) => (match strip [10] q with
      | some _ => bodsA f g (acc ++ [⟨⟨x.1.toArray⟩, x.2.1, y⟩]) r
      | none => none)
    | none => none
def get3 (t : List UInt8) : Option Sc := match names3 t with
  | none => none
  | some (sy, xs) => (match bodsA (Sc.fs ⟨sy, xs.map bare3⟩) (Sc.gs ⟨sy, xs.map bare3⟩) [] xs with
    | some fs => some ⟨sy, fs⟩
    | none => none)
def getE3 (t : List UInt8) : Int := if 65536 < t.length then 3 else match get3 t with
  | none => 4
  | some s => if s.sayOk = true then 0 else 7
def getS3 (t : List UInt8) : Sc := if getE3 t = 0 then (get3 t).getD ⟨[], []⟩ else ⟨[], []⟩
theorem bodsA_step {f g : List UInt8 → Option Nat} {xs : List (List UInt8 × S × List UInt8)} {acc : List Fn} {k : Nat} {x : List UInt8 × S × List UInt8} (hx : xs[k]? = some x) : bodsA f g acc (xs.drop k) = match termP f g x.2.2 with
    | some (y, q) => (match strip [10] q with
      | some _ => bodsA f g (acc ++ [⟨⟨x.1.toArray⟩, x.2.1, y⟩]) (xs.drop (k + 1))
      | none => none)
    | none => none := by
  obtain ⟨hlt, hxe⟩ := List.getElem?_eq_some_iff.1 hx
  rw [List.drop_eq_getElem_cons hlt, hxe]
  rfl
theorem FnMk.at_ {w : World} {P : Nat → Prop} : ∀ {l : List Fn} {us : List Value}, FnMk w P l us → ∀ {k : Nat} {f : Fn}, l[k]? = some f →
    ∃ u v fp, us[k * 5]? = some (.string f.name) ∧ us[k * 5 + 1]? = some u ∧ us[k * 5 + 2]? = some (.int .i64 f.body.kind) ∧ us[k * 5 + 3]? = some (.int .i64 f.body.num) ∧ us[k * 5 + 4]? = some v ∧ f.sort.Sep w u fp ∧ fp.Nodup ∧ (∀ b ∈ fp, P b) ∧ f.name.size ≤ maxLen ∧ ∃ A n c, v = .slice A n c
  | [], us, h, k, f, hx => by simp at hx
  | g :: r, us, h, k, f, hx => by
    simp only [FnMk] at h
    obtain ⟨u, v, fp, ut, rfl, h2, h3, h4, h5, h6, h7⟩ := h
    cases k with
    | zero => simp at hx; subst hx; exact ⟨u, v, fp, rfl, rfl, rfl, rfl, rfl, h2, h3, h4, h6, (T.NIn.in_ _ h5).form⟩
    | succ k =>
      simp at hx
      obtain ⟨u', v', fp', g0, g1, g2, g3, g4, g5, g6, g7, g8⟩ := h7.at_ hx
      rw [show (k + 1) * 5 = k * 5 + 1 + 1 + 1 + 1 + 1 from by omega]
      exact ⟨u', v', fp', by simpa using g0, by simpa using g1, by simpa using g2, by simpa using g3, by simpa using g4, g5, g6, g7, g8⟩
theorem FnMk.length {w : World} {P : Nat → Prop} : ∀ {l : List Fn} {us : List Value}, FnMk w P l us → us.length = l.length * 5
  | [], us, h => by simp only [FnMk] at h; simp [h]
  | g :: r, us, h => by
    simp only [FnMk] at h
    obtain ⟨u, v, fp, ut, rfl, h2, h3, h4, h5, h6, h7⟩ := h
    have := h7.length
    simp [this]; omega
/-- What the loop of Get holds: the functions so far, fs, in vo. -/
structure GtSt (B : Nat) (w1 : World) (v0 v1 : Value) (fs : List Fn) (vo : Value) (uo : List Value) (w : World) : Prop where
  bel : Below w1.heap.size w1 w
  box : Blk w w1.heap.size 25 #[v0, v1]
  own : w.ownsRow (w1.heap.size + 1) 64 5 vo fs.length uo
  row : FnMk w (fun b => b < w.heap.size ∧ vo.ownBlock ≠ some b ∧ b ≠ w1.heap.size ∧ B < b) fs uo
theorem GtSt.next {B : Nat} {w1 : World} {v0 v1 : Value} {fs : List Fn} {vo : Value} {uo : List Value} {w w' : World} (h : GtSt B w1 v0 v1 fs vo uo w) (hb : Below w.heap.size w w') : GtSt B w1 v0 v1 fs vo uo w' :=
  ⟨h.bel.trans (hb.mono (by have := h.bel.size; omega)), h.box.below hb h.box.lt, owns_kept3 h.own (fun b hb' => hb.block b (h.own.lt b hb').2), (h.row.keep (w' := w') (fun b hb' => hb.block b hb'.1) fs).more (fun _ hb' => ⟨Nat.lt_of_lt_of_le hb'.1 hb.size, hb'.2⟩) fs⟩
theorem GtSt.push {B : Nat} {w1 : World} {v0 v1 : Value} {fs : List Fn} {vo : Value} {uo : List Value} {w w3 : World} {o1 : Obj} {gg n cap : Nat} (h : GtSt B w1 v0 v1 fs vo uo w) (f : Fn) {u v : Value} {fp : List Nat} (hs : f.sort.Sep w u fp) (hn : fp.Nodup) (hp : ∀ k ∈ fp, k < w1.heap.size ∧ B < k)
    (ht : f.body.NIn w (fun b => b < w.heap.size ∧ vo.ownBlock ≠ some b ∧ b ≠ w1.heap.size ∧ B < b) v) (hl : f.name.size ≤ maxLen)
    (ho : w3.ownsRow (w1.heap.size + 1) 64 5 (.slice (some ⟨gg, 0, none⟩) n cap) (fs.length + 1) (uo ++ [.string f.name, u, .int .i64 f.body.kind, .int .i64 f.body.num, v]))
    (hgrow : (w.alloc o1).grownBy w3 vo.ownBlock) (hat : vo.ownBlock = some gg ∨ gg = w.heap.size + 1) (hlt : gg < w3.heap.size) :
    GtSt B w1 v0 v1 (fs ++ [f]) (.slice (some ⟨gg, 0, none⟩) n cap) (uo ++ [.string f.name, u, .int .i64 f.body.kind, .int .i64 f.body.num, v]) w3 := by
  have hz1 := h.bel.size
  have hbx := h.box.lt
  have hv : ∀ b, vo.ownBlock = some b → w1.heap.size + 1 ≤ b ∧ b < w.heap.size := fun b hb => h.own.lt b hb
  have hg := Grew.of (n := n) (cap := cap) hgrow hat hlt
  have hb3 : Below (w1.heap.size + 1) w w3 := ((Below.refl _ _).alloc (by omega) o1).grown hgrow (by simp; omega) (fun b hb => (hv b hb).1)
  refine ⟨h.bel.trans (hb3.mono (by omega)), h.box.below hb3 (by omega), by rw [List.length_append]; exact ho, ?_⟩
  have hfp : ∀ k ∈ fp, k < w.heap.size ∧ vo.ownBlock ≠ some k ∧ k ≠ w1.heap.size ∧ B < k := fun k hk => by
    have := hp k hk
    exact ⟨by omega, fun e => by have := (hv k e).1; omega, by omega, this.2⟩
  refine ((h.row.snoc hs hn hfp ht hl).keep (w' := w3) (fun b hb => hg.keep b hb.1 hb.2.1) _).more (fun b hb => ⟨Nat.lt_of_lt_of_le hb.1 hg.size, fun e => ?_, hb.2.2⟩) _
  rcases hg.at_ b e with e1 | e1
  · exact hb.2.1 e1
  · have := hb.1; omega
/-- The functions so far are those of a scheme. -/
theorem GtSt.fn {B : Nat} {w1 : World} {v0 v1 : Value} {fs : List Fn} {vo : Value} {uo : List Value} {w : World} (h : GtSt B w1 v0 v1 fs vo uo w) : FnIn w w.heap.size fs vo := by
  have hr := h.row.row (fun b hb => hb.1) fs
  rcases h.own.2 with ⟨rfl, h0⟩ | ⟨g, cap, cur, rfl, h1, h2, h3, h4, h5, h6⟩
  · have : fs = [] := List.eq_nil_of_length_eq_zero h0
    subst this
    exact ⟨none, 0, 0, uo, rfl, rfl, Nat.le_refl _, by omega, .inl (by simpa [FnRow] using hr), hr⟩
  · exact ⟨_, _, _, uo, rfl, rfl, h3, by simpa [maxLen] using h4, .inr ⟨_, rfl, (h.own.lt g rfl).2, h.own.cells (g := g) rfl⟩, hr⟩
theorem GtSt.form {B : Nat} {w1 : World} {v0 v1 : Value} {fs : List Fn} {vo : Value} {uo : List Value} {w : World} (h : GtSt B w1 v0 v1 fs vo uo w) : ∃ A c, vo = .slice A fs.length c := by
  rcases h.own.2 with ⟨rfl, h0⟩ | ⟨g, cap, cur, rfl, _⟩
  · exact ⟨none, 0, by rw [h0]⟩
  · exact ⟨_, cap, rfl⟩
theorem GtSt.store {B : Nat} {w1 : World} {v0 v1 : Value} {fs : List Fn} {vo : Value} {uo : List Value} {w : World} (h : GtSt B w1 v0 v1 fs vo uo w) : GtSt B w1 v0 vo fs vo uo (w.setCell ⟨w1.heap.size, 1, none⟩ vo) :=
  ⟨h.bel.setCell (Nat.le_refl _) _, (h.box.set_ 1 _).eq_ rfl, owns_kept3 h.own (fun b hb => Below.heap_setCell _ _ _ _ (by show b ≠ w1.heap.size; have := (h.own.lt b hb).1; omega)),
    (h.row.keep (w' := w.setCell ⟨w1.heap.size, 1, none⟩ vo) (fun b hb => Below.heap_setCell _ _ _ _ (by show b ≠ w1.heap.size; exact hb.2.2.1)) fs).more (fun b hb => ⟨by simpa [World.setCell] using hb.1, hb.2⟩) fs⟩
theorem sc_nil (w : World) (hi : Nat) : ScIn w hi ⟨[], []⟩ (.slice none 0 0) (.slice none 0 0) :=
  ⟨⟨none, 0, 0, rfl, rfl, Nat.le_refl _, by omega, .inl rfl, by simp⟩, ⟨none, 0, 0, [], rfl, rfl, Nat.le_refl _, by omega, .inl rfl, by simp [FnRow]⟩⟩
/-- What Get returns is the scheme, also behind stores to its results' box B. -/
theorem get_scheme {B B' : Nat} {sy : List Sy} {fs0 fs : List Fn} {ms : List Nat} {v0 v1 v2 vo : Value} {us uo : List Value} {w1 w w' : World} (hr : RdN B' w1 sy fs0 ms v0 v1 v2 us) (hg : GtSt B w1 v0 vo fs vo uo w) (hB : B < B') (hz : w.heap.size ≤ w'.heap.size) (hk : ∀ b, b ≠ B → b < w.heap.size → w'.heap[b]? = w.heap[b]?) (hBw : B < w1.heap.size) : ScIn w' w'.heap.size ⟨sy, fs⟩ v0 vo := by
  have hz1 := hg.bel.size
  have hrow := (hg.row.keep (w' := w') (fun b hb => hk b (by have := hb.2.2.2; omega) hb.1) fs).more (Q := fun b => b < w'.heap.size) (fun b hb => Nat.lt_of_lt_of_le hb.1 hz) fs
  have hown := owns_kept3 hg.own (w' := w') (fun b hb => hk b (by have := (hg.own.lt b hb).1; omega) (hg.own.lt b hb).2)
  have hosy := owns_kept3 hr.osy (w' := w') (fun b hb => by
    have h1 := hr.osy.lt b hb
    rw [hk b (by omega) (by omega), hg.bel.block b h1.2])
  refine ⟨?_, ?_⟩
  · rcases hosy.2 with ⟨rfl, h0⟩ | ⟨g, cap, cur, rfl, h1, h2, h3, h4, h5, h6⟩
    · have : sy = [] := List.eq_nil_of_length_eq_zero h0
      subst this
      exact ⟨none, 0, 0, rfl, rfl, Nat.le_refl _, by omega, .inl rfl, by simp⟩
    · exact ⟨_, _, _, rfl, rfl, h3, by simpa [maxLen] using h4, .inr ⟨_, rfl, (hosy.lt g rfl).2, hosy.cells (g := g) rfl⟩, hr.nms⟩
  · have hr := FnMk.row (fun b hb => hb) fs hrow
    rcases hown.2 with ⟨rfl, h0⟩ | ⟨g, cap, cur, rfl, h1, h2, h3, h4, h5, h6⟩
    · have : fs = [] := List.eq_nil_of_length_eq_zero h0
      subst this
      exact ⟨none, 0, 0, uo, rfl, rfl, Nat.le_refl _, by omega, .inl (by simpa [FnRow] using hr), hr⟩
    · exact ⟨_, _, _, uo, rfl, rfl, h3, by simpa [maxLen] using h4, .inr ⟨_, rfl, (hown.lt g rfl).2, hown.cells (g := g) rfl⟩, hr⟩
/-- What Get leaves. -/
def GetPost3 (t : List UInt8) (w : World) (e : Ending) (w' : World) : Prop :=
  ∃ v0 v1, e = .returned (.tuple #[.agg #[v0, v1], .int .i64 (getE3 t)]) ∧ ScIn w' w'.heap.size (getS3 t) v0 v1 ∧ Below w.heap.size w w'
theorem GetPost3.no {t : List UInt8} {w w' : World} {i : Int} (h : getE3 t = i) (hi : i ≠ 0) (hs : Below w.heap.size w w') : GetPost3 t w (.returned (.tuple #[.agg #[.slice none 0 0, .slice none 0 0], .int .i64 i])) w' := by
  refine ⟨_, _, by rw [h], ?_, hs⟩
  rw [getS3, if_neg (by rw [h]; exact hi)]
  exact sc_nil _ _
theorem own_len {w : World} {base : Nat} {e : TypeId} {size : Nat} {v : Value} {n : Nat} {xs : List Value} (h : w.ownsRow base e size v n xs) : ∃ A c, v = .slice A n c := by
  rcases h.2 with ⟨rfl, h0⟩ | ⟨g, cap, cur, rfl, _⟩
  · exact ⟨none, 0, by rw [h0]⟩
  · exact ⟨_, cap, rfl⟩
theorem gets3_results {tmps : Array Value} {w : World} {b : Nat} {x y u : Value} (h2 : tmps.getD 2 undef = .pointer (some ⟨b, 0, none⟩)) (h3 : tmps.getD 3 undef = u)
    (ha : Blk w b 25 #[x, y]) : (results Tryz.f13 tmps).run Tryz.prog w = .ok (.tuple #[.agg #[x, y], u]) w := by
  have h5 := ha.cell 0
  have h6 := ha.cell 1
  simp at h5 h6
  have h2' : tmps[2]?.getD undef = .pointer (some ⟨b, 0, none⟩) := by simpa using h2
  have h3' : tmps[3]?.getD undef = u := by simpa using h3
  simp [results, Tryz.results13, go_sem, h2', h3', h5, h6]
end Go.Proofs.YtbbejhhohppdhaaGreatDoor
