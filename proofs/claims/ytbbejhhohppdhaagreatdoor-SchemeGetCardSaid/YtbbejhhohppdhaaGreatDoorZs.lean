/-
  Slices of numbers, each of an array of its own.
-/
import Derived.Test.YtbbejhhohppdhaaGreatDoorGC
namespace Go.Proofs.YtbbejhhohppdhaaGreatDoor
open Go.RowKit

theorem int_info : (Tryz.prog.info? 3).map (fun i => (i.zero, i.size, i.bytes)) = some (some (.int .i64 0), 1, 8) := by kernel_rfl
/-- A slice of numbers, of an array of its own. -/
def Zs (B : Nat) (w : World) (l : List Int) (v : Value) : Prop := w.ownsRow B 3 1 v l.length (l.map (Value.int .i64))
theorem Zs.nil (B : Nat) (w : World) : Zs B w [] (.slice none 0 0) := ⟨by simp, .inl ⟨rfl, rfl⟩⟩
theorem Zs.lt {B : Nat} {w : World} {l : List Int} {v : Value} (h : Zs B w l v) {b : Nat} (hb : v.ownBlock = some b) : B ≤ b ∧ b < w.heap.size := World.ownsRow.lt h b hb
theorem Zs.below {B : Nat} {w w' : World} {l : List Int} {v : Value} (h : Zs B w l v) (hb : Below w.heap.size w w') : Zs B w' l v := owns_kept3 h (fun b hh => hb.block b (h.lt hh).2)
theorem Zs.less {B B' : Nat} {w : World} {l : List Int} {v : Value} (h : Zs B w l v) (hb : B' ≤ B) : Zs B' w l v := owns_less h hb
theorem Zs.form {B : Nat} {w : World} {l : List Int} {v : Value} (h : Zs B w l v) : ∃ A c, v = .slice A l.length c ∧ l.length ≤ c ∧ c ≤ 9223372036854775807 := by
  rcases h.2 with ⟨rfl, h0⟩ | ⟨g, cap, cur, rfl, _, _, h1, h2, _⟩
  · exact ⟨none, 0, by rw [h0], by omega, by omega⟩
  · exact ⟨_, cap, rfl, h1, by simpa [maxLen] using h2⟩
theorem Zs.cell {B : Nat} {w : World} {l : List Int} {A : Option Addr} {n c : Nat} (h : Zs B w l (.slice A n c)) {j : Nat} {x : Int} (hj : l[j]? = some x) : ∃ g, A = some ⟨g, 0, none⟩ ∧ g < w.heap.size ∧ w.cell? ⟨g, j, none⟩ = some (.int .i64 x) := by
  rcases h.2 with ⟨_, h0⟩ | ⟨g, cap, cur, he, _⟩
  · have : l = [] := List.eq_nil_of_length_eq_zero h0
    subst this; simp at hj
  · injection he with e1 e2 e3
    subst e1
    have hg := h.lt (b := g) rfl
    have hc := World.ownsRow.cells h (g := g) rfl j (.int .i64 x) (by simp [hj])
    refine ⟨g, rfl, hg.2, ?_⟩
    have he : (⟨g, 0, none⟩ : Addr).add j = ⟨g, j, none⟩ := by
      unfold Addr.add
      split
      · rename_i h0; rw [h0]
      · simp
    rwa [he] at hc
theorem Zs.cells {B : Nat} {w : World} {l : List Int} {g n c : Nat} (h : Zs B w l (.slice (some ⟨g, 0, none⟩) n c)) {j : Nat} {x : Int} (hj : l[j]? = some x) : w.cell? ⟨g, j, none⟩ = some (.int .i64 x) := by
  obtain ⟨g', he, _, hc⟩ := h.cell hj
  injection he with he
  injection he with he _ _
  rw [he]; exact hc

theorem Zs.rest {B : Nat} {w : World} {l : List Int} {g n c : Nat} (h : Zs B w l (.slice (some ⟨g, 0, none⟩) n c)) (j : Nat) : ∀ i u, ((l.drop j).map (Value.int .i64))[i]? = some u → w.cell? ((⟨g, j, none⟩ : Addr).add i) = some u := by
  intro i u hu
  rw [List.getElem?_map, List.getElem?_drop] at hu
  cases hx : l[j + i]? with
  | none => rw [hx] at hu; cases hu
  | some x =>
    rw [hx] at hu
    injection hu with hu
    subst hu
    have hc := h.cells hx
    have he : (⟨g, j, none⟩ : Addr).add i = ⟨g, j + i, none⟩ := by
      unfold Addr.add
      split
      · rename_i h0; rw [h0]; rfl
      · rfl
    rw [he]; exact hc
theorem ones_ints (l : List Int) : ∀ u ∈ l.map (Value.int .i64), u.oneCell' = true := by
  intro u hu
  obtain ⟨x, _, rfl⟩ := List.mem_map.1 hu
  rfl
end Go.Proofs.YtbbejhhohppdhaaGreatDoor
