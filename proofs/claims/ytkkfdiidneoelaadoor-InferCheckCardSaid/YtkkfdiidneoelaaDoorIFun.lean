/-
  The guess of a function: a contract.
-/
import Derived.Test.YtkkfdiidneoelaaDoorIArgs
import Derived.Test.YtkkfdiidneoelaaDoorIBegin
namespace Go.Proofs.YtkkfdiidneoelaaDoor
open Go.RowKit

/-- New nodes lie in new blocks. -/
structure Grown (ps ps' : List Nat) (w w' : World) : Prop where
  more : ∃ m, ps' = ps ++ m
  sav : Saves (· ∈ ps) w w'
theorem Grown.refl (ps : List Nat) (w : World) : Grown ps ps w w := ⟨⟨[], by simp⟩, Saves.refl _ _⟩
/-- What function answers. -/
def FunPostI (ps : List Nat) (G : Gr) (vis : Nat → Int) (free : Bool) (n : Nat) (w : World) (e : Ending) (w' : World) : Prop :=
  ∃ G' m top p, FnExt G G' free n top ∧ G'.length = G.length + 1 + 2 * n ∧ (ps ++ m)[top]? = some p ∧ e = .returned (pv p) ∧ Gs w' (ps ++ m) G' vis ∧ (∀ b ∈ m, w.heap.size ≤ b) ∧ Below w.heap.size w w'
def FunAt (ps : List Nat) (G : Gr) (vis : Nat → Int) (free : Bool) (n : Nat) (w : World) (g i : Value) (wr : World) : Prop :=
  ∃ (k : Nat) (G' : Gr) (m : List Nat) (top p : Nat), k ≤ n ∧ i = .int .i64 (k : Int) ∧ g = pv p ∧ FnExt G G' free k top ∧ G'.length = G.length + 1 + 2 * k ∧ (ps ++ m)[top]? = some p ∧ Gs wr (ps ++ m) G' vis ∧ (∀ b ∈ m, w.heap.size ≤ b) ∧ Below w.heap.size w wr

def kindOf (free : Bool) : Int := if free = true then 0 else 1
set_option maxHeartbeats 800000 in
theorem function_any (ps : List Nat) (G : Gr) (vis : Nat → Int) (free : Bool) (n : Nat) (w : World) (hG : Good G) (hgs : Gs w ps G vis) (hvis : ∀ x, G.length ≤ x → vis x = 0) (hn : n ≤ 1000) :
    Calls Tryd.prog 58 #[.int .i64 (n : Int), .int .i64 (kindOf free)] w (FunPostI ps G vis free n w) := by
  have HVIS := Lib.hid hvis
  have H0 : Hid (FunAt ps G vis free n w (pv w.heap.size) (.int .i64 0) (w.alloc (.cells (gcells none 1 none none 0) 116))) := by
    refine Lib.hid ⟨0, G ++ [.tree], [w.heap.size], G.length, w.heap.size, Nat.zero_le _, rfl, rfl, .start hG free, by simp, ?_, hgs.new (d := .tree) ⟨rfl, rfl⟩ (hvis _ (Nat.le_refl _)), (fun b hb => by simp at hb; omega), (Below.refl _ _).alloc (Nat.le_refl _) _⟩
    rw [← hgs.len]; simp
  generalize hkd : kindOf free = kd at *
  have HKD := Lib.hid hkd
  clear hG hgs hvis hkd
  go_enter Tryd.func58, Tryd.ntmps58
  go_wp2_with fail
  go_loopw [5, 9] (fun g i wr => FunAt ps G vis free n w g i wr) (fun _ i _ => n - (intOf i).toNat)
  case atStart => exact H0.out
  case round =>
    obtain ⟨k, G', m, top, p, hk, rfl, rfl, he, hl, hp, hg, hmn, hb⟩ := hrel
    by_cases hlt : k < n
    · have HR : Hid (FunAt ps G vis free n w (pv (wr.heap.size + 1)) (.int .i64 ((k + 1 : Nat) : Int)) ((wr.alloc (.cells (gcells none kd none none 0) 116)).alloc (.cells (gcells none 2 (some (at0 wr.heap.size)) (some (at0 p)) 0) 116))) := by
        have h1 := hg.new (d := argNd free) (sm := none) (fr := none) (to_ := none) (kd := kd) (by rw [← HKD.out]; cases free <;> exact ⟨rfl, rfl⟩) (HVIS.out _ (by have := he.len; omega))
        have hpl := hg.len
        have h2 := h1.new (d := .arrow G'.length top) (sm := none) (fr := some (at0 wr.heap.size)) (to_ := some (at0 p)) (kd := 2) ⟨rfl, rfl, ⟨wr.heap.size, by rw [← hpl]; simp, rfl⟩, p, get_more hp _, rfl⟩ (HVIS.out _ (by have := he.len; simp; omega))
        refine Lib.hid ⟨k + 1, _, m ++ [wr.heap.size] ++ [wr.heap.size + 1], _, wr.heap.size + 1, by omega, rfl, rfl, he.step, by simp; omega, ?_, ?_, (fun b hb' => by
          have := hb.size
          simp only [List.mem_append, List.mem_singleton] at hb'
          rcases hb' with (hb' | rfl) | rfl
          · exact hmn b hb'
          · omega
          · omega), (hb.alloc hb.size _).alloc (by have := hb.size; simp; omega) _⟩
        · have e : ps ++ (m ++ [wr.heap.size] ++ [wr.heap.size + 1]) = ps ++ m ++ [wr.heap.size] ++ [wr.heap.size + 1] := by simp
          have e2 : G'.length + 1 = (ps ++ m ++ [wr.heap.size]).length := by rw [List.length_append, hpl]; rfl
          rw [e, e2, List.getElem?_concat_length]
        · have e : ps ++ (m ++ [wr.heap.size] ++ [wr.heap.size + 1]) = ps ++ m ++ [wr.heap.size] ++ [wr.heap.size + 1] := by simp
          rw [e]
          simpa using h2
      clear he hl hp hg hmn hb
      go_wp2_with fail
      go_roundw
      case rel => simpa using HR.out
      case measure => simp [intOf]; omega
    · have hkn : k = n := by omega
      have HF : Hid (FunPostI ps G vis free n w (.returned (pv p)) wr) := Lib.hid ⟨G', m, top, p, hkn ▸ he, by omega, hp, rfl, hg, hmn, hb⟩
      clear he hl hp hg hmn hb hkn
      go_wp2_with fail
      go_ret
      exact HF.out
end Go.Proofs.YtkkfdiidneoelaaDoor
