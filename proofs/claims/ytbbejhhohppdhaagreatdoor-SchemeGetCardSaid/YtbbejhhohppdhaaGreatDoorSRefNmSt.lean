/-
  The reference's reading of schemes: names.
-/
import Derived.Test.YtbbejhhohppdhaaGreatDoorSRefTerm
import Derived.Test.YtbbejhhohppdhaaGreatDoorGI
namespace Go.Proofs.YtbbejhhohppdhaaGreatDoor
open Go.RowKit

/-- What has been made: the symbols sy in v0, the functions fs in v1, where the bodies begin, bs, in v2. -/
structure RdN (B : Nat) (w : World) (sy : List Sy) (fs : List Fn) (bs : List Nat) (v0 v1 v2 : Value) (us : List Value) : Prop where
  osy : w.ownsRow B 98 2 v0 sy.length (syCells sy)
  ofn : w.ownsRow B 64 5 v1 fs.length us
  obs : w.ownsRow B 3 1 v2 bs.length (bs.map fun (m : Nat) => Value.int .i64 (m : Int))
  row : FnMk w (fun b => B ≤ b ∧ b < w.heap.size ∧ v0.ownBlock ≠ some b ∧ v1.ownBlock ≠ some b ∧ v2.ownBlock ≠ some b) fs us
  d0 : ∀ b, v0.ownBlock = some b → v1.ownBlock ≠ some b ∧ v2.ownBlock ≠ some b
  d1 : ∀ b, v1.ownBlock = some b → v2.ownBlock ≠ some b
  nms : ∀ x ∈ sy, x.name.size ≤ maxLen
theorem RdN.nil (B : Nat) (w : World) : RdN B w [] [] [] (.slice none 0 0) (.slice none 0 0) (.slice none 0 0) [] :=
  ⟨⟨by simp [syCells], .inl ⟨rfl, rfl⟩⟩, ⟨by simp, .inl ⟨rfl, rfl⟩⟩, ⟨by simp, .inl ⟨rfl, rfl⟩⟩, by simp [FnMk], by simp [Value.ownBlock], by simp [Value.ownBlock], by simp⟩
theorem RdN.keep {B : Nat} {w w' : World} {sy : List Sy} {fs : List Fn} {bs : List Nat} {v0 v1 v2 : Value} {us : List Value} (h : RdN B w sy fs bs v0 v1 v2 us) (hz : w.heap.size ≤ w'.heap.size) (hk : ∀ b, B ≤ b → b < w.heap.size → w'.heap[b]? = w.heap[b]?) :
    RdN B w' sy fs bs v0 v1 v2 us :=
  ⟨owns_kept3 h.osy (fun b hb => hk b (h.osy.lt b hb).1 (h.osy.lt b hb).2), owns_kept3 h.ofn (fun b hb => hk b (h.ofn.lt b hb).1 (h.ofn.lt b hb).2), owns_kept3 h.obs (fun b hb => hk b (h.obs.lt b hb).1 (h.obs.lt b hb).2),
    (h.row.keep (w' := w') (fun b hb => hk b hb.1 hb.2.1) fs).more (fun _ hb => ⟨hb.1, Nat.lt_of_lt_of_le hb.2.1 hz, hb.2.2⟩) fs, h.d0, h.d1, h.nms⟩
theorem RdN.saves {B : Nat} {M : Nat → Prop} {w w' : World} {sy : List Sy} {fs : List Fn} {bs : List Nat} {v0 v1 v2 : Value} {us : List Value} (h : RdN B w sy fs bs v0 v1 v2 us) (hs : Saves M w w') (hM : ∀ k, M k → k < B) : RdN B w' sy fs bs v0 v1 v2 us :=
  h.keep hs.size (fun b hb hl => hs.block b hl (fun hm => by have := hM b hm; omega))
theorem RdN.put {B : Nat} {w : World} {sy : List Sy} {fs : List Fn} {bs : List Nat} {v0 v1 v2 : Value} {us : List Value} (h : RdN B w sy fs bs v0 v1 v2 us) {b o : Nat} (hp : b < B) (u : Value) : RdN B (w.setCell ⟨b, o, none⟩ u) sy fs bs v0 v1 v2 us :=
  h.keep (by simp [World.setCell]) (fun k hk _ => Below.heap_setCell w ⟨b, o, none⟩ u k (by show k ≠ b; omega))

theorem RdN.pushSy {B : Nat} {w w2 : World} {sy : List Sy} {fs : List Fn} {bs : List Nat} {v0 v1 v2 v0' : Value} {us : List Value} (h : RdN B w sy fs bs v0 v1 v2 us) (x : Sy) (hx : x.name.size ≤ maxLen) (hg : Grew w w2 v0 v0')
    (ho : w2.ownsRow B 98 2 v0' (sy.length + 1) (syCells sy ++ [.string x.name, .int .i64 x.rank])) : RdN B w2 (sy ++ [x]) fs bs v0' v1 v2 us := by
  have l1 := h.ofn.lt
  have l2 := h.obs.lt
  refine ⟨?_, owns_kept3 h.ofn (fun b hb => hg.keep b (l1 b hb).2 (fun e => (h.d0 b e).1 hb)), owns_kept3 h.obs (fun b hb => hg.keep b (l2 b hb).2 (fun e => (h.d0 b e).2 hb)), ?_, fun b hb => ?_, h.d1, ?_⟩
  · rw [syCells_snoc, List.length_append]; exact ho
  · refine (h.row.keep (w' := w2) (fun b hb => hg.keep b hb.2.1 hb.2.2.1) fs).more (fun b hb => ⟨hb.1, Nat.lt_of_lt_of_le hb.2.1 hg.size, fun e => ?_, hb.2.2.2⟩) fs
    rcases hg.at_ b e with e1 | e1
    · exact hb.2.2.1 e1
    · have := hb.2.1; omega
  · rcases hg.at_ b hb with e1 | e1
    · exact h.d0 b e1
    · exact ⟨fun e => by have := (l1 b e).2; omega, fun e => by have := (l2 b e).2; omega⟩
  · intro y hy
    rcases List.mem_append.1 hy with hy | hy
    · exact h.nms y hy
    · rw [List.mem_singleton.1 hy]; exact hx
theorem RdN.pushFn {B : Nat} {w w2 : World} {sy : List Sy} {fs : List Fn} {bs : List Nat} {v0 v1 v2 v1' : Value} {us : List Value} (h : RdN B w sy fs bs v0 v1 v2 us) (f : Fn) {u v : Value} {fp : List Nat} (hg : Grew w w2 v1 v1')
    (hs : f.sort.Sep w u fp) (hn : fp.Nodup) (hp : ∀ k ∈ fp, B ≤ k ∧ k < w.heap.size ∧ v0.ownBlock ≠ some k ∧ v1.ownBlock ≠ some k ∧ v2.ownBlock ≠ some k)
    (ht : f.body.NIn w (fun k => B ≤ k ∧ k < w.heap.size ∧ v0.ownBlock ≠ some k ∧ v1.ownBlock ≠ some k ∧ v2.ownBlock ≠ some k) v) (hl : f.name.size ≤ maxLen)
    (ho : w2.ownsRow B 64 5 v1' (fs.length + 1) (us ++ [.string f.name, u, .int .i64 f.body.kind, .int .i64 f.body.num, v])) : RdN B w2 sy (fs ++ [f]) bs v0 v1' v2 (us ++ [.string f.name, u, .int .i64 f.body.kind, .int .i64 f.body.num, v]) := by
  have l0 := h.osy.lt
  have l2 := h.obs.lt
  have hQ : ∀ b, (B ≤ b ∧ b < w.heap.size ∧ v0.ownBlock ≠ some b ∧ v1.ownBlock ≠ some b ∧ v2.ownBlock ≠ some b) → (B ≤ b ∧ b < w2.heap.size ∧ v0.ownBlock ≠ some b ∧ v1'.ownBlock ≠ some b ∧ v2.ownBlock ≠ some b) := fun b hb =>
    ⟨hb.1, Nat.lt_of_lt_of_le hb.2.1 hg.size, hb.2.2.1, fun e => by
      rcases hg.at_ b e with e1 | e1
      · exact hb.2.2.2.1 e1
      · have := hb.2.1; omega, hb.2.2.2.2⟩
  refine ⟨owns_kept3 h.osy (fun b hb => hg.keep b (l0 b hb).2 (h.d0 b hb).1), by rw [List.length_append]; exact ho, owns_kept3 h.obs (fun b hb => hg.keep b (l2 b hb).2 (fun e => h.d1 b e hb)), ?_, fun b hb => ⟨fun e => ?_, (h.d0 b hb).2⟩, fun b hb => ?_, h.nms⟩
  · exact (((h.row.snoc hs hn hp ht hl).keep (w' := w2) (fun b hb => hg.keep b hb.2.1 hb.2.2.2.1) _).more hQ _)
  · rcases hg.at_ b e with e1 | e1
    · exact (h.d0 b hb).1 e1
    · have := (l0 b hb).2; omega
  · rcases hg.at_ b hb with e1 | e1
    · exact h.d1 b e1
    · exact fun e => by have := (l2 b e).2; omega
theorem RdN.pushBs {B : Nat} {w w2 : World} {sy : List Sy} {fs : List Fn} {bs : List Nat} {v0 v1 v2 v2' : Value} {us : List Value} (h : RdN B w sy fs bs v0 v1 v2 us) (t : Nat) (hg : Grew w w2 v2 v2')
    (ho : w2.ownsRow B 3 1 v2' (bs.length + 1) ((bs.map fun (m : Nat) => Value.int .i64 (m : Int)) ++ [.int .i64 (t : Int)])) : RdN B w2 sy fs (bs ++ [t]) v0 v1 v2' us := by
  have l0 := h.osy.lt
  have l1 := h.ofn.lt
  refine ⟨owns_kept3 h.osy (fun b hb => hg.keep b (l0 b hb).2 (h.d0 b hb).2), owns_kept3 h.ofn (fun b hb => hg.keep b (l1 b hb).2 (h.d1 b hb)), by rw [List.length_append, List.map_append]; exact ho, ?_, fun b hb => ⟨(h.d0 b hb).1, fun e => ?_⟩, fun b hb e => ?_, h.nms⟩
  · refine (h.row.keep (w' := w2) (fun b hb => hg.keep b hb.2.1 hb.2.2.2.2) fs).more (fun b hb => ⟨hb.1, Nat.lt_of_lt_of_le hb.2.1 hg.size, hb.2.2.1, hb.2.2.2.1, fun e => ?_⟩) fs
    rcases hg.at_ b e with e1 | e1
    · exact hb.2.2.2.2 e1
    · have := hb.2.1; omega
  · rcases hg.at_ b e with e1 | e1
    · exact (h.d0 b hb).2 e1
    · have := (l0 b hb).2; omega
  · rcases hg.at_ b e with e1 | e1
    · exact h.d1 b hb e1
    · have := (l1 b hb).2; omega
/-- Its two slices are a scheme. -/
theorem RdN.scheme {B : Nat} {w : World} {sy : List Sy} {fs : List Fn} {bs : List Nat} {v0 v1 v2 : Value} {us : List Value} (h : RdN B w sy fs bs v0 v1 v2 us) : ScIn w w.heap.size ⟨sy, fs⟩ v0 v1 := by
  refine ⟨?_, ?_⟩
  · rcases h.osy.2 with ⟨rfl, h0⟩ | ⟨g, cap, cur, rfl, h1, h2, h3, h4, h5, h6⟩
    · have : sy = [] := List.eq_nil_of_length_eq_zero h0
      subst this
      exact ⟨none, 0, 0, rfl, rfl, Nat.le_refl _, by omega, .inl rfl, by simp⟩
    · exact ⟨_, _, _, rfl, rfl, h3, by simpa [maxLen] using h4, .inr ⟨_, rfl, (h.osy.lt g rfl).2, h.osy.cells (g := g) rfl⟩, h.nms⟩
  · have hr := h.row.row (fun b hb => hb.2.1) fs
    rcases h.ofn.2 with ⟨rfl, h0⟩ | ⟨g, cap, cur, rfl, h1, h2, h3, h4, h5, h6⟩
    · have : fs = [] := List.eq_nil_of_length_eq_zero h0
      subst this
      exact ⟨none, 0, 0, us, rfl, rfl, Nat.le_refl _, by omega, .inl (by simpa [FnRow] using hr), hr⟩
    · exact ⟨_, _, _, us, rfl, rfl, h3, by simpa [maxLen] using h4, .inr ⟨_, rfl, (h.ofn.lt g rfl).2, h.ofn.cells (g := g) rfl⟩, hr⟩

/-- A function's line behind its word, as the reference reads it: its name, its sort, and the text from its body on. -/
def funL3 (t : List UInt8) : Option ((List UInt8 × S × List UInt8) × List UInt8) := match nameP t with
  | some (s, r) => (match strip [32, 58, 32] r with
    | some r2 => (match parse [] r2 with
      | some (x, r3) => (match strip [32, 61, 32] r3 with
        | some b => (match r3.dropWhile (fun c => c != 10) with
          | _ :: q => some ((s, x, b), q)
          | [] => none)
        | none => none)
      | none => none)
    | none => none)
  | none => none
theorem dropWhile_le (p : UInt8 → Bool) : ∀ l : List UInt8, (l.dropWhile p).length ≤ l.length
  | [] => by simp
  | a :: r => by
    rw [List.dropWhile_cons]
    split
    · have := dropWhile_le p r; simp; omega
    · simp
theorem funL3_le {t r : List UInt8} {x : List UInt8 × S × List UInt8} (h : funL3 t = some (x, r)) : r.length < t.length := by
  rw [funL3] at h
  split at h
  · rename_i s q hn
    have l1 := (nameP_le hn).1
    split at h
    · rename_i q2 h2
      have l2 := strip_len h2
      split at h
      · rename_i y q3 h3
        have l3 := parse_le h3
        split at h
        · split at h
          · rename_i c q5 h5
            have l5 := dropWhile_le (fun c => c != 10) q3
            rw [h5] at l5
            cases h
            simp at l2 l5; omega
          · cases h
        · cases h
      · cases h
    · cases h
  · cases h
def names3 (t : List UInt8) : Option (List Sy × List (List UInt8 × S × List UInt8)) := match linesP symWord symP [] t with
  | some (sy, r) => (match linesP funWord funL3 [] r with
    | some (xs, q) => if q = [] then some (sy, xs) else none
    | none => none)
  | none => none
def bare3 (x : List UInt8 × S × List UInt8) : Fn := ⟨⟨x.1.toArray⟩, x.2.1, .mk 0 0 []⟩
/-- Where the bodies begin. -/
def Offs (t : List UInt8) (xs : List (List UInt8 × S × List UInt8)) (ms : List Nat) : Prop := ms.length = xs.length ∧ ∀ (i m : Nat) (x : List UInt8 × S × List UInt8), ms[i]? = some m → xs[i]? = some x → m ≤ t.length ∧ t.drop m = x.2.2
theorem Offs.snoc {t : List UInt8} {xs : List (List UInt8 × S × List UInt8)} {ms : List Nat} (h : Offs t xs ms) {x : List UInt8 × S × List UInt8} {m : Nat} (hm : m ≤ t.length) (hx : t.drop m = x.2.2) : Offs t (xs ++ [x]) (ms ++ [m]) := by
  refine ⟨by simp [h.1], fun i n y h1 h2 => ?_⟩
  rcases Nat.lt_or_ge i ms.length with hi | hi
  · rw [List.getElem?_append_left hi] at h1
    rw [List.getElem?_append_left (by rw [← h.1]; exact hi)] at h2
    exact h.2 i n y h1 h2
  · rw [List.getElem?_append_right hi] at h1
    rw [List.getElem?_append_right (by rw [← h.1]; exact hi), ← h.1] at h2
    obtain ⟨h3, h4⟩ := List.getElem?_eq_some_iff.1 h1
    obtain ⟨h5, h6⟩ := List.getElem?_eq_some_iff.1 h2
    have h0 : i - ms.length = 0 := by simp at h3; omega
    simp only [h0, List.getElem_cons_zero] at h4 h6
    subst h4 h6
    exact ⟨hm, hx⟩
theorem sym_none {t r : List UInt8} {m : Nat} {sy : List Sy} (hl : linesP symWord symP [] t = linesP symWord symP sy (t.drop m)) (hs : strip symWord (t.drop m) = some r) (h : symP r = none) : names3 t = none := by
  rw [linesP_eq (p := symP) (fun _ _ _ => symP_le) sy] at hl
  simp only [hs, h] at hl
  rw [names3, hl]
theorem sym_some {t r q : List UInt8} {m : Nat} {sy : List Sy} {x : Sy} (hl : linesP symWord symP [] t = linesP symWord symP sy (t.drop m)) (hs : strip symWord (t.drop m) = some r) (h : symP r = some (x, q)) : linesP symWord symP [] t = linesP symWord symP (sy ++ [x]) q := by
  rw [linesP_eq (p := symP) (fun _ _ _ => symP_le) sy] at hl
  simp only [hs, h] at hl
  exact hl
theorem sym_end {t : List UInt8} {m : Nat} {sy : List Sy} (hl : linesP symWord symP [] t = linesP symWord symP sy (t.drop m)) (hs : strip symWord (t.drop m) = none) : names3 t = (match linesP funWord funL3 [] (t.drop m) with
    | some (xs, q) => if q = [] then some (sy, xs) else none
    | none => none) := by
  rw [linesP_eq (p := symP) (fun _ _ _ => symP_le) sy] at hl
  simp only [hs] at hl
  rw [names3, hl]
/-- What is known behind some functions' lines. -/
def FunSt (t : List UInt8) (sy : List Sy) (xs : List (List UInt8 × S × List UInt8)) (m : Nat) : Prop := names3 t = (match linesP funWord funL3 xs (t.drop m) with
    | some (xs, q) => if q = [] then some (sy, xs) else none
    | none => none)
theorem FunSt.none_ {t r : List UInt8} {m : Nat} {sy : List Sy} {xs : List (List UInt8 × S × List UInt8)} (hl : FunSt t sy xs m) (hs : strip funWord (t.drop m) = some r) (h : funL3 r = none) : names3 t = none := by
  rw [FunSt, linesP_eq (p := funL3) (fun _ _ _ => funL3_le) xs] at hl
  simp only [hs, h] at hl
  exact hl
theorem FunSt.some_ {t r q : List UInt8} {m n : Nat} {sy : List Sy} {xs : List (List UInt8 × S × List UInt8)} {x : List UInt8 × S × List UInt8} (hl : FunSt t sy xs m) (hs : strip funWord (t.drop m) = some r) (h : funL3 r = some (x, q)) (hq : t.drop n = q) : FunSt t sy (xs ++ [x]) n := by
  rw [FunSt, linesP_eq (p := funL3) (fun _ _ _ => funL3_le) xs] at hl
  simp only [hs, h] at hl
  rw [FunSt, hq]
  exact hl
theorem FunSt.end_ {t : List UInt8} {m : Nat} {sy : List Sy} {xs : List (List UInt8 × S × List UInt8)} (hl : FunSt t sy xs m) (hs : strip funWord (t.drop m) = none) : names3 t = if t.drop m = [] then some (sy, xs) else none := by
  rw [FunSt, linesP_eq (p := funL3) (fun _ _ _ => funL3_le) xs] at hl
  simp only [hs] at hl
  exact hl

/-- What names leaves. -/
def NamesPost3 (t : List UInt8) (w : World) (e : Ending) (w' : World) : Prop :=
  ∃ (v0 v1 v2 : Value) (ok : Bool), e = .returned (.tuple #[.agg #[v0, v1], v2, .bool ok]) ∧ (∃ A n c, v0 = .slice A n c) ∧ (∃ A n c, v1 = .slice A n c) ∧ Below w.heap.size w w' ∧
    (match names3 t with | some (sy, xs) => ok = true ∧ ∃ ms us, Offs t xs ms ∧ RdN (w.heap.size + 2) w' sy (xs.map bare3) ms v0 v1 v2 us | none => ok = false)
/-- What names holds in memory. -/
structure NmSt (B : Nat) (sy : List Sy) (fs : List Fn) (ms : List Nat) (v0 v1 v2 : Value) (us : List Value) (w0 w : World) : Prop where
  res : Blk w B 25 #[.slice none 0 0, .slice none 0 0]
  box : Blk w (B + 1) 25 #[v0, v1]
  rd : RdN (B + 2) w sy fs ms v0 v1 v2 us
  bel : Below B w0 w
theorem NmSt.next {B : Nat} {sy : List Sy} {fs : List Fn} {ms : List Nat} {v0 v1 v2 : Value} {us : List Value} {w0 w w' : World} (h : NmSt B sy fs ms v0 v1 v2 us w0 w) (hb : Below w.heap.size w w') : NmSt B sy fs ms v0 v1 v2 us w0 w' :=
  ⟨h.res.below hb h.res.lt, h.box.below hb h.box.lt, h.rd.keep hb.size (fun b _ hl => hb.block b hl), h.bel.trans (hb.mono (by have := h.res.lt; omega))⟩
theorem NmSt.pushSy {B : Nat} {sy : List Sy} {fs : List Fn} {ms : List Nat} {v0 v1 v2 : Value} {us : List Value} {w0 w w3 : World} {o1 : Obj} {gg n cap : Nat} (h : NmSt B sy fs ms v0 v1 v2 us w0 w) (x : Sy) (hx : x.name.size ≤ maxLen)
    (ho : w3.ownsRow (B + 2) 98 2 (.slice (some ⟨gg, 0, none⟩) n cap) (sy.length + 1) (syCells sy ++ [.string x.name, .int .i64 x.rank]))
    (hgrow : (w.alloc o1).grownBy w3 v0.ownBlock) (hat : v0.ownBlock = some gg ∨ gg = w.heap.size + 1) (hl : gg < w3.heap.size) :
    NmSt B (sy ++ [x]) fs ms (.slice (some ⟨gg, 0, none⟩) n cap) v1 v2 us w0 (w3.setCell ⟨B + 1, 0, none⟩ (.slice (some ⟨gg, 0, none⟩) n cap)) := by
  have hb0 := h.res.lt
  have hb1 := h.box.lt
  have hv : ∀ b, v0.ownBlock = some b → B + 2 ≤ b ∧ b < w.heap.size := fun b hb => h.rd.osy.lt b hb
  have hg := Grew.of (n := n) (cap := cap) hgrow hat hl
  have hb3 : Below (B + 2) w w3 := ((Below.refl _ _).alloc (by omega) o1).grown hgrow (by simp; omega) (fun b hb => (hv b hb).1)
  refine ⟨(h.res.below hb3 (by omega)).far (by show B ≠ B + 1; omega) _, (h.box.below hb3 (by omega)).set_ 0 _, (h.rd.pushSy x hx hg ho).put (by omega) _, h.bel.trans ((hb3.mono (by omega)).setCell (by show B ≤ B + 1; omega) _)⟩
theorem NmSt.pushFn {B : Nat} {sy : List Sy} {fs : List Fn} {ms : List Nat} {v0 v1 v2 : Value} {us : List Value} {w0 w w3 : World} {o1 : Obj} {gg n cap : Nat} (h : NmSt B sy fs ms v0 v1 v2 us w0 w) (f : Fn) (hf : f.body = .mk 0 0 []) (hx : f.name.size ≤ maxLen) {u : Value} {fp : List Nat}
    (hs : f.sort.Sep w u fp) (hn : fp.Nodup) (hp : ∀ k ∈ fp, B + 2 ≤ k ∧ k < w.heap.size ∧ v0.ownBlock ≠ some k ∧ v1.ownBlock ≠ some k ∧ v2.ownBlock ≠ some k)
    (ho : w3.ownsRow (B + 2) 64 5 (.slice (some ⟨gg, 0, none⟩) n cap) (fs.length + 1) (us ++ [.string f.name, u, .int .i64 0, .int .i64 0, .slice none 0 0]))
    (hgrow : (w.alloc o1).grownBy w3 v1.ownBlock) (hat : v1.ownBlock = some gg ∨ gg = w.heap.size + 1) (hl : gg < w3.heap.size) :
    NmSt B sy (fs ++ [f]) ms v0 (.slice (some ⟨gg, 0, none⟩) n cap) v2 (us ++ [.string f.name, u, .int .i64 0, .int .i64 0, .slice none 0 0]) w0 (w3.setCell ⟨B + 1, 1, none⟩ (.slice (some ⟨gg, 0, none⟩) n cap)) := by
  have hb0 := h.res.lt
  have hb1 := h.box.lt
  have hv : ∀ b, v1.ownBlock = some b → B + 2 ≤ b ∧ b < w.heap.size := fun b hb => h.rd.ofn.lt b hb
  have hg := Grew.of (n := n) (cap := cap) hgrow hat hl
  have hb3 : Below (B + 2) w w3 := ((Below.refl _ _).alloc (by omega) o1).grown hgrow (by simp; omega) (fun b hb => (hv b hb).1)
  have hk : f.body.kind = 0 := by rw [hf]; rfl
  have hm : f.body.num = 0 := by rw [hf]; rfl
  have hpf := h.rd.pushFn (w2 := w3) f (u := u) (v := .slice none 0 0) (fp := fp) hg hs hn hp (by rw [hf]; exact T.NIn.nil 0 0) hx (by rw [hk, hm]; exact ho)
  rw [hk, hm] at hpf
  refine ⟨(h.res.below hb3 (by omega)).far (by show B ≠ B + 1; omega) _, (h.box.below hb3 (by omega)).set_ 1 _, hpf.put (by omega) _, h.bel.trans ((hb3.mono (by omega)).setCell (by show B ≤ B + 1; omega) _)⟩
theorem NmSt.pushMs {B : Nat} {sy : List Sy} {fs : List Fn} {ms : List Nat} {v0 v1 v2 : Value} {us : List Value} {w0 w w3 : World} {o1 : Obj} {gg n cap : Nat} (h : NmSt B sy fs ms v0 v1 v2 us w0 w) (m : Nat)
    (ho : w3.ownsRow (B + 2) 3 1 (.slice (some ⟨gg, 0, none⟩) n cap) (ms.length + 1) ((ms.map fun (m : Nat) => Value.int .i64 (m : Int)) ++ [.int .i64 (m : Int)]))
    (hgrow : (w.alloc o1).grownBy w3 v2.ownBlock) (hat : v2.ownBlock = some gg ∨ gg = w.heap.size + 1) (hl : gg < w3.heap.size) :
    NmSt B sy fs (ms ++ [m]) v0 v1 (.slice (some ⟨gg, 0, none⟩) n cap) us w0 w3 := by
  have hb0 := h.res.lt
  have hb1 := h.box.lt
  have hv : ∀ b, v2.ownBlock = some b → B + 2 ≤ b ∧ b < w.heap.size := fun b hb => h.rd.obs.lt b hb
  have hg := Grew.of (n := n) (cap := cap) hgrow hat hl
  have hb3 : Below (B + 2) w w3 := ((Below.refl _ _).alloc (by omega) o1).grown hgrow (by simp; omega) (fun b hb => (hv b hb).1)
  exact ⟨h.res.below hb3 (by omega), h.box.below hb3 (by omega), h.rd.pushBs m hg ho, h.bel.trans (hb3.mono (by omega))⟩
theorem names3_results {tmps : Array Value} {w : World} {b : Nat} {x y u v : Value} (h2 : tmps.getD 2 undef = .pointer (some ⟨b, 0, none⟩)) (h3 : tmps.getD 3 undef = u) (h4 : tmps.getD 4 undef = v)
    (ha : Blk w b 25 #[x, y]) : (results Tryz.f35 tmps).run Tryz.prog w = .ok (.tuple #[.agg #[x, y], u, v]) w := by
  have h5 := ha.cell 0
  have h6 := ha.cell 1
  simp at h5 h6
  have h2' : tmps[2]?.getD undef = .pointer (some ⟨b, 0, none⟩) := by simpa using h2
  have h3' : tmps[3]?.getD undef = u := by simpa using h3
  have h4' : tmps[4]?.getD undef = v := by simpa using h4
  simp [results, Tryz.results35, go_sem, h2', h3', h4', h5, h6]
end Go.Proofs.YtbbejhhohppdhaaGreatDoor
