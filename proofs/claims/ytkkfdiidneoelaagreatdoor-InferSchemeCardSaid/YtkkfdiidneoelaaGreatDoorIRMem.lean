/-
  The reference's graph of nodes in memory: a box with a slice of nodes, three cells for each.
-/
import Derived.Test.YtkkfdiidneoelaaGreatDoorGQ
import Derived.Test.YtkkfdiidneoelaaGreatDoorGR
import Derived.Test.YtkkfdiidneoelaaGreatDoorGD
import Derived.Laws.OwnMore
namespace Go.Proofs.YtkkfdiidneoelaaGreatDoor
open Go.RowKit

def Nd.kd : Nd → Nat
  | .open_ => 0
  | .tree => 1
  | .arrow _ _ => 2
  | .link _ => 3
def Nd.fa : Nd → Nat
  | .arrow a _ => a
  | .link a => a
  | _ => 0
def Nd.fb : Nd → Nat
  | .arrow _ b => b
  | _ => 0
theorem Nd.kd_root (d : Nd) : d.root = true ↔ d.kd ≠ 3 := by cases d <;> simp [Nd.root, Nd.kd]
/-- The cells of nodes. -/
def ndCells : Gr → List Value
  | [] => []
  | d :: r => .int .i64 (d.kd : Int) :: .int .i64 (d.fa : Int) :: .int .i64 (d.fb : Int) :: ndCells r
theorem ndCells_len : ∀ (G : Gr), (ndCells G).length = G.length * 3
  | [] => rfl
  | d :: r => by simp only [ndCells, List.length_cons, ndCells_len r]; omega
theorem ndCells_at : ∀ {G : Gr} {x : Nat} {d : Nd}, G[x]? = some d → (ndCells G)[x * 3]? = some (.int .i64 (d.kd : Int)) ∧ (ndCells G)[x * 3 + 1]? = some (.int .i64 (d.fa : Int)) ∧ (ndCells G)[x * 3 + 2]? = some (.int .i64 (d.fb : Int))
  | [], x, d, h => by simp at h
  | e :: r, 0, d, h => by simp at h; subst h; exact ⟨rfl, rfl, rfl⟩
  | e :: r, x + 1, d, h => by
    have := ndCells_at (G := r) (x := x) (d := d) (by simpa using h)
    rw [show (x + 1) * 3 = x * 3 + 1 + 1 + 1 from by omega]
    simpa [ndCells] using this
theorem ndCells_snoc : ∀ (G : Gr) (d : Nd), ndCells (G ++ [d]) = ndCells G ++ [.int .i64 (d.kd : Int), .int .i64 (d.fa : Int), .int .i64 (d.fb : Int)]
  | [], d => rfl
  | e :: r, d => by simp [ndCells, ndCells_snoc r d]
theorem ndCells_set : ∀ (G : Gr) (x : Nat) (d : Nd), ndCells (G.set x d) = (((ndCells G).set (x * 3) (.int .i64 (d.kd : Int))).set (x * 3 + 1) (.int .i64 (d.fa : Int))).set (x * 3 + 2) (.int .i64 (d.fb : Int))
  | [], x, d => by simp [ndCells]
  | e :: r, 0, d => rfl
  | e :: r, x + 1, d => by
    rw [show (x + 1) * 3 + 2 = x * 3 + 2 + 1 + 1 + 1 from by omega, show (x + 1) * 3 + 1 = x * 3 + 1 + 1 + 1 + 1 from by omega, show (x + 1) * 3 = x * 3 + 1 + 1 + 1 from by omega]
    simp only [List.set_cons_succ, ndCells, ndCells_set r x d]
theorem ndCells_one : ∀ (G : Gr), ∀ u ∈ ndCells G, u.oneCell' = true
  | [], u, h => by simp [ndCells] at h
  | d :: r, u, h => by
    simp only [ndCells, List.mem_cons] at h
    rcases h with rfl | rfl | rfl | h
    · rfl
    · rfl
    · rfl
    · exact ndCells_one r u h

/-- The graph, by its box and its slice. -/
structure RG (p : Nat) (w : World) (G : Gr) (v : Value) : Prop where
  box : Blk w p 135 #[v]
  own : w.ownsRow 0 201 3 v G.length (ndCells G)
/-- What a call may turn of the graph. -/
structure RT (p : Nat) (w : World) (v : Value) (w' : World) (v' : Value) : Prop where
  sav : Saves (fun b => b = p ∨ v.ownBlock = some b) w w'
  at_ : ∀ b, v'.ownBlock = some b → v.ownBlock = some b ∨ w.heap.size ≤ b
section
variable {p : Nat} {w w' w'' : World} {G : Gr} {v v' v'' : Value}
theorem RG.lt (h : RG p w G v) {b : Nat} (hb : v.ownBlock = some b) : b < w.heap.size := (h.own.lt b hb).2
theorem RG.ne (h : RG p w G v) : v.ownBlock ≠ some p := own_ne h.own h.box (by decide)
theorem RG.form (h : RG p w G v) : ∃ A c, v = .slice A G.length c := by
  rcases h.own.2 with ⟨rfl, h0⟩ | ⟨g, cap, cur, rfl, _⟩
  · exact ⟨none, 0, by rw [h0]⟩
  · exact ⟨_, cap, rfl⟩
theorem RG.keep (h : RG p w G v) (h1 : w'.heap[p]? = w.heap[p]?) (h2 : ∀ b, v.ownBlock = some b → w'.heap[b]? = w.heap[b]?) : RG p w' G v :=
  ⟨h1.trans h.box, owns_kept3 h.own h2⟩
theorem RG.below (h : RG p w G v) (hb : Below w.heap.size w w') : RG p w' G v := h.keep (hb.block p h.box.lt) fun b hb' => hb.block b (h.lt hb')
theorem RG.alloc (h : RG p w G v) (o : Obj) : RG p (w.alloc o) G v := h.below ((Below.refl _ _).alloc (Nat.le_refl _) o)
theorem RG.drew (h : RG p w G v) : RG p w.drew G v := h.keep rfl fun _ _ => rfl
theorem RG.drewN (h : RG p w G v) (n : Nat) : RG p (w.drewN n) G v := h.keep rfl fun _ _ => rfl
/-- A node's cells. -/
theorem RG.cell (h : RG p w G v) {x : Nat} {d : Nd} (hx : G[x]? = some d) : ∃ g c, v = .slice (some ⟨g, 0, none⟩) G.length c ∧ g ≠ p ∧ g < w.heap.size ∧
    w.cell? ⟨g, x * 3, none⟩ = some (.int .i64 (d.kd : Int)) ∧ w.cell? ⟨g, x * 3 + 1, none⟩ = some (.int .i64 (d.fa : Int)) ∧ w.cell? ⟨g, x * 3 + 2, none⟩ = some (.int .i64 (d.fb : Int)) ∧ ∀ j, w.frozen? ⟨g, j, none⟩ = false := by
  have hl := (List.getElem?_eq_some_iff.1 hx).1
  obtain ⟨g1, g2, g3⟩ := ndCells_at hx
  have hne := h.ne
  have hlt := fun b hb => h.lt (b := b) hb
  have ho := h.own
  rcases ho.2 with ⟨rfl, h0⟩ | ⟨g, cap, cur, rfl, _⟩
  · omega
  · refine ⟨g, cap, rfl, fun e => hne (by rw [e]; rfl), hlt g rfl, ?_, ?_, ?_, fun j => ho.frozenAt j⟩
    · rw [ho.cellAt (x * 3) (by omega)]; exact g1
    · rw [ho.cellAt (x * 3 + 1) (by omega)]; exact g2
    · rw [ho.cellAt (x * 3 + 2) (by omega)]; exact g3
theorem RG.cells {g n c : Nat} (h : RG p w G (.slice (some ⟨g, 0, none⟩) n c)) {x : Nat} {d : Nd} (hx : G[x]? = some d) :
    w.cell? ⟨g, x * 3, none⟩ = some (.int .i64 (d.kd : Int)) ∧ w.cell? ⟨g, x * 3 + 1, none⟩ = some (.int .i64 (d.fa : Int)) ∧ w.cell? ⟨g, x * 3 + 2, none⟩ = some (.int .i64 (d.fb : Int)) := by
  obtain ⟨g', c', e, _, _, h1, h2, h3, _⟩ := h.cell hx
  injection e with e1 e2 e3
  injection e1 with e1
  injection e1 with e1 _ _
  subst e1
  exact ⟨h1, h2, h3⟩
/-- A node is put in the place of another one. -/
theorem RG.set_ {g c n : Nat} (h : RG p w G (.slice (some ⟨g, 0, none⟩) n c)) (x : Nat) (d : Nd) :
    RG p (((w.setCell ⟨g, x * 3, none⟩ (.int .i64 (d.kd : Int))).setCell ⟨g, x * 3 + 1, none⟩ (.int .i64 (d.fa : Int))).setCell ⟨g, x * 3 + 2, none⟩ (.int .i64 (d.fb : Int))) (G.set x d) (.slice (some ⟨g, 0, none⟩) n c) := by
  have hn : p ≠ g := fun e => h.ne (by rw [e]; rfl)
  obtain ⟨_, _, e⟩ := h.form
  injection e with e1 e2 e3
  subst e2
  refine ⟨((h.box.far (by exact hn) _).far (by exact hn) _).far (by exact hn) _, ?_⟩
  rw [List.length_set, ndCells_set]
  exact (((h.own.stored _ _).1.stored _ _).1.stored _ _).1
theorem RT.refl (p : Nat) (w : World) (v : Value) : RT p w v w v := ⟨Saves.refl _ _, fun _ h => .inl h⟩
theorem RT.trans (h : RT p w v w' v') (k : RT p w' v' w'' v'') : RT p w v w'' v'' := by
  have hz := h.sav.size
  refine ⟨⟨k.sav.os.trans h.sav.os, k.sav.tape.trans h.sav.tape, k.sav.output.trans h.sav.output, Nat.le_trans hz k.sav.size, fun b hb hn => ?_⟩, fun b hb => ?_⟩
  · refine (k.sav.block b (by omega) fun hm => hn ?_).trans (h.sav.block b hb hn)
    rcases hm with hm | hm
    · exact .inl hm
    · rcases h.at_ b hm with h1 | h1
      · exact .inr h1
      · omega
  · rcases k.at_ b hb with h1 | h1
    · exact h.at_ b h1
    · exact .inr (by omega)
theorem RT.of_below (hb : Below w.heap.size w w') : RT p w v w' v := ⟨Saves.of_below hb, fun _ h => .inl h⟩
theorem RT.below {B : Nat} (h : RT p w v w' v') (hB : B ≤ w.heap.size) (hp : B ≤ p) (hv : ∀ b, v.ownBlock = some b → B ≤ b) : Below B w w' :=
  h.sav.below hB fun k hk hm => by
    rcases hm with hm | hm
    · omega
    · have := hv k hm; omega
theorem RT.base {B : Nat} (h : RT p w v w' v') (hB : B ≤ w.heap.size) (hv : ∀ b, v.ownBlock = some b → B ≤ b) : ∀ b, v'.ownBlock = some b → B ≤ b := fun b hb => by
  rcases h.at_ b hb with h1 | h1
  · exact hv b h1
  · omega
/-- What lies in other blocks is kept. -/
theorem RT.block (h : RT p w v w' v') {b : Nat} (hb : b < w.heap.size) (hp : b ≠ p) (hv : v.ownBlock ≠ some b) : w'.heap[b]? = w.heap[b]? := h.sav.block b hb fun hm => by
  rcases hm with hm | hm
  · exact hp hm
  · exact hv hm
theorem RT.set_ {g c n x : Nat} (a b d : Value) : RT p w (.slice (some ⟨g, 0, none⟩) n c) (((w.setCell ⟨g, x, none⟩ a).setCell ⟨g, x + 1, none⟩ b).setCell ⟨g, x + 2, none⟩ d) (.slice (some ⟨g, 0, none⟩) n c) :=
  ⟨(((Saves.refl _ _).setCell (.inl (.inr rfl)) _).setCell (.inl (.inr rfl)) _).setCell (.inl (.inr rfl)) _, fun _ h => .inl h⟩
end
theorem node_info : (Tryz.prog.info? 201).map (fun i => (i.zero, i.size, i.bytes)) = some (some (.agg #[.int .i64 0, .int .i64 0, .int .i64 0]), 3, 24) := by kernel_rfl
/-- The graph with a new node. -/
def AddPost (p : Nat) (G : Gr) (v : Value) (d : Nd) (w : World) (e : Ending) (w' : World) : Prop :=
  e = .returned (.int .i64 (G.length : Int)) ∧ ∃ v', RG p w' (G ++ [d]) v' ∧ RT p w v w' v'
theorem AddPost.of {p : Nat} {G : Gr} {v : Value} {d : Nd} {w w2 : World} {o : Obj} {gg cap : Nat} (h : RG p w G v)
    (ho : w2.ownsRow 0 201 3 (.slice (some ⟨gg, 0, none⟩) (G.length + 1) cap) (G.length + 1) (ndCells G ++ [.int .i64 (d.kd : Int), .int .i64 (d.fa : Int), .int .i64 (d.fb : Int)]))
    (hg : (w.alloc o).grownBy w2 v.ownBlock) (hat : v.ownBlock = some gg ∨ gg = w.heap.size + 1) :
    RG p (w2.setCell ⟨p, 0, none⟩ (.slice (some ⟨gg, 0, none⟩) (G.length + 1) cap)) (G ++ [d]) (.slice (some ⟨gg, 0, none⟩) (G.length + 1) cap) ∧
      RT p w v (w2.setCell ⟨p, 0, none⟩ (.slice (some ⟨gg, 0, none⟩) (G.length + 1) cap)) (.slice (some ⟨gg, 0, none⟩) (G.length + 1) cap) := by
  have hp := h.box.lt
  have hz := hg.size
  simp only [World.size_alloc] at hz
  have hpg : p ≠ gg := by
    rintro rfl
    rcases hat with e | e
    · exact h.ne e
    · omega
  have hb2 : Blk w2 p 135 #[v] := (hg.block p (by simp; omega) (fun e => h.ne e.symm)).trans ((Below.heap_alloc w o p hp).trans h.box)
  refine ⟨⟨(hb2.set_ 0 _).eq_ rfl, ?_⟩, ⟨hg.os, hg.tape, hg.output, by simp [World.setCell]; omega, fun k hk hn => ?_⟩, fun b hb => ?_⟩
  · rw [List.length_append, ndCells_snoc]
    exact owns_kept3 ho fun b hb => Below.heap_setCell w2 ⟨p, 0, none⟩ _ b (fun e => hpg (by
      have e2 : b = p := e
      have e1 : gg = b := by simpa [Value.ownBlock] using hb
      rw [← e2, e1]))
  · rw [Below.heap_setCell w2 ⟨p, 0, none⟩ _ k (fun e => hn (.inl e)), hg.block k (by simp; omega) (fun e => hn (.inr e.symm)), Below.heap_alloc w o k hk]
  · have e : gg = b := by simpa [Value.ownBlock] using hb
    subst e
    rcases hat with e | e
    · exact .inl e
    · exact .inr (by omega)
end Go.Proofs.YtkkfdiidneoelaaGreatDoor
