/-
  The statements' given and the reference's Check: contracts.
-/
import Derived.Test.YtmggccgjhjknpaaRefSort
namespace Go.Proofs.Ytmggccgjhjknpaa
open Go.RowKit

theorem given_results {tmps : Array Value} {w : World} {a : Nat} {x y z : Value} (h2 : tmps.getD 2 undef = .pointer (some ⟨a, 0, none⟩))
    (ha : Blk w a 28 #[x, y, z]) : (results Try.f15 tmps).run Try.prog w = .ok (.agg #[x, y, z]) w := by
  have h4 := ha.cell 0
  have h5 := ha.cell 1
  have h6 := ha.cell 2
  simp at h4 h5 h6
  have h2' : tmps[2]?.getD undef = .pointer (some ⟨a, 0, none⟩) := by simpa using h2
  simp [results, Try.results15, go_sem, h2', h4, h5, h6]
set_option maxHeartbeats 400000 in
theorem given_any (A0 A1 A2 : Option Addr) (n0 c0 n1 c1 n2 c2 : Nat) (w : World) :
    Calls Try.prog 15 #[.agg #[.slice A0 n0 c0, .slice A1 n1 c1, .slice A2 n2 c2]] w fun e w' => e = .returned (.agg #[.slice A0 n0 c0, .slice A1 n1 c1, .slice A2 n2 c2]) ∧ Below w.heap.size w w' := by
  go_enter Try.func15, Try.ntmps15
  go_wp2_with fail
  exact bodyPost_ret (given_results rfl (by simpa using Blk.new (w.alloc (.cells #[.slice A0 n0 c0, .slice A1 n1 c1, .slice A2 n2 c2] 25)) 28 #[.slice A0 n0 c0, .slice A1 n1 c1, .slice A2 n2 c2])) rfl ⟨rfl, ((Below.refl _ _).alloc (Nat.le_refl _) _).alloc (by simp) _⟩
set_option maxHeartbeats 800000 in
theorem refPlaceCheck_any (p : Pl) (v0 v1 v2 : Value) (w : World) (hi : Nat) (hin : PlIn w 0 hi p v0 v1 v2) (hhi : hi ≤ w.heap.size) :
    Calls Try.prog 16 #[.agg #[v0, v1, v2]] w fun e w' => e = .returned (.int .i64 (argErr p.ok)) ∧ Below w.heap.size w w' := by
  have k0 := PlKept.start (ty := 25) hin hhi
  obtain ⟨A0, n0, c0, rfl⟩ := hin.s.form
  obtain ⟨A1, n1, c1, rfl⟩ := hin.f.form
  obtain ⟨A2, n2, c2, rfl⟩ := hin.r.form
  have HC := Lib.hid (refIs_any p _ _ _ _ hi k0.i k0.hi)
  have hb0 := k0.bel
  clear k0 hin
  cases hok : p.ok with
  | true =>
    rw [hok] at HC
    clear hok
    go_enter Try.func16, Try.ntmps16
    go_wp2_with fail
    refine HC.out.mono ?_
    rintro e w1 ⟨rfl, b1⟩
    simp only [World.size_alloc] at b1
    go_wp2_with fail
    go_ret
    exact ⟨rfl, hb0.trans (b1.mono (by omega))⟩
  | false =>
    rw [hok] at HC
    clear hok
    go_enter Try.func16, Try.ntmps16
    go_wp2_with fail
    refine HC.out.mono ?_
    rintro e w1 ⟨rfl, b1⟩
    simp only [World.size_alloc] at b1
    go_wp2_with fail
    go_ret
    exact ⟨rfl, hb0.trans (b1.mono (by omega))⟩
end Go.Proofs.Ytmggccgjhjknpaa
