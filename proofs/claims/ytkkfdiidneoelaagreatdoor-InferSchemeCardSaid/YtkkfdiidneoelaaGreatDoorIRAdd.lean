/-
  The reference's add, end and chain: contracts.
-/
import Derived.Test.YtkkfdiidneoelaaGreatDoorIRMem
import Derived.Test.YtkkfdiidneoelaaGreatDoorIRPure
namespace Go.Proofs.YtkkfdiidneoelaaGreatDoor
open Go.RowKit

set_option maxHeartbeats 1600000 in
theorem addR_any (p : Nat) (G : Gr) (v : Value) (d : Nd) (kd fa fb : Int) (w : World) (hk : kd = (d.kd : Int)) (ha : fa = (d.fa : Int)) (hb : fb = (d.fb : Int)) (h : RG p w G v) (hlen : G.length ≤ 1000000) :
    Calls Tryz.prog 71 #[.pointer (some (at0 p)), .int .i64 kd, .int .i64 fa, .int .i64 fb] w (AddPost p G v d w) := by
  obtain ⟨i0, hi0, hz0, hz1, hz2⟩ := info_parts node_info
  have HZ1 := Lib.hid hz1
  have HZ2 := Lib.hid hz2
  clear hz1 hz2
  obtain ⟨A, c, rfl⟩ := h.form
  have c0 := h.box.cell 0
  simp at c0
  have H := Lib.hid h
  have HK := Lib.hid (⟨hk, ha, hb⟩ : kd = (d.kd : Int) ∧ fa = (d.fa : Int) ∧ fb = (d.fb : Int))
  clear hk ha hb h
  go_enter Tryz.func71, Tryz.ntmps71
  go_wp2_with
    (at_builtin
     refine wpList_append_lies _ rfl _ _ _ rfl 0 201 i0 _ 3 24 Tryz.underlying133 hi0 hz0 HZ1.out HZ2.out rfl (by omega) (.slice A G.length c) _ (ndCells G) (by rfl) (H.out.own.alloc _)
       ⟨w.heap.size, 0, none⟩ 1 1 [.int .i64 kd, .int .i64 fa, .int .i64 fb] (by rfl) (by rfl) (World.news_of_block (cs := #[.int .i64 kd, .int .i64 fa, .int .i64 fb]) (t := 201) (fr := (0, 0)) (heap_alloc_new w _)) (by simp [Value.oneCell']) (by omega) (by simp only [maxLen]; omega) (by omega) (by simp) (w.heap.size + 1) (by simp) ?_
     intro gg cap w2 hown2 hgrow hat hlt2
     have HF : Hid (AddPost p G (.slice A G.length c) d w (.returned (.int .i64 (G.length : Int))) (w2.setCell ⟨p, 0, none⟩ (.slice (some ⟨gg, 0, none⟩) (G.length + 1) cap))) := by
       obtain ⟨rfl, rfl, rfl⟩ := HK.out
       exact Lib.hid ⟨rfl, _, AddPost.of H.out hown2 hgrow hat⟩
     have hb2 : Blk w2 p 135 #[.slice A G.length c] := (hgrow.block p (by have := H.out.box.lt; simp; omega) (fun e => H.out.ne e.symm)).trans ((Below.heap_alloc w _ p H.out.box.lt).trans H.out.box)
     have c2 := hb2.cell 0
     have f2 := hb2.frozen 0
     simp at c2
     clear hown2 hgrow hat hlt2)
  go_wp2_with fail
  go_ret
  exact HF.out
theorem Ends.inv {G : Gr} {x r k : Nat} (h : Ends G x r k) : (∃ d, x = r ∧ G[x]? = some d ∧ d.root = true) ∨ ∃ y j, k = j + 1 ∧ G[x]? = some (.link y) ∧ Ends G y r j := by
  cases h with
  | here h1 h2 => exact .inl ⟨_, rfl, h1, h2⟩
  | step h1 h2 => exact .inr ⟨_, _, rfl, h1, h2⟩
/-- The end of links. -/
def EndR (r : Nat) (w : World) (e : Ending) (w' : World) : Prop := e = .returned (.int .i64 (r : Int)) ∧ w = w'
set_option maxHeartbeats 1600000 in
theorem endR_any (p : Nat) (G : Gr) (v : Value) (x r k : Nat) (xi : Int) (w : World) (hxi : xi = (x : Int)) (h : RG p w G v) (he : Ends G x r k) :
    Calls Tryz.prog 124 #[.pointer (some (at0 p)), .int .i64 xi] w (EndR r w) := by
  subst hxi
  obtain ⟨d0, hd0⟩ : ∃ d, G[x]? = some d := ⟨_, List.getElem?_eq_getElem he.lt.1⟩
  obtain ⟨g, c, rfl, _⟩ := h.cell hd0
  have c0 := h.box.cell 0
  simp at c0
  have H := Lib.hid h
  have HE := Lib.hid he
  clear h he hd0
  go_enter Tryz.func124, Tryz.ntmps124
  go_wp2_with fail
  go_loopg [1] k (fun j n wr => ∃ y : Nat, n = .int .i64 (y : Int) ∧ Ends G y r j ∧ w = wr)
  case atStart => exact ⟨x, rfl, HE.out, rfl⟩
  case round =>
    obtain ⟨y, rfl, hy, rfl⟩ := hrel
    have hyl := hy.lt.1
    rcases hy.inv with ⟨d, rfl, h1, h2⟩ | ⟨z, j, hj, h1, h2⟩
    · obtain ⟨g0, g1, g2⟩ := H.out.cells h1
      have gk : (((d.kd : Nat) : Int) == 3) = false := by have := (Nd.kd_root d).1 h2; simp; omega
      clear h1 h2 hy
      go_wp2_with fail
      go_ret
      exact ⟨rfl, rfl⟩
    · obtain ⟨g0, g1, g2⟩ := H.out.cells h1
      have H2 := Lib.hid h2
      have HJ := Lib.hid hj
      simp only [Nd.kd, Nd.fa] at g0 g1
      clear h1 h2 g2 hy hj
      go_wp2_with fail
      go_roundg j
      case measure => have := HJ.out; omega
      case rel => exact ⟨z, rfl, H2.out, rfl⟩
/-- A slice of node numbers, kept beside the graph. -/
theorem Zs.rt {B p : Nat} {w w' : World} {l : List Int} {z v v' : Value} {G : Gr} (h : Zs B w l z) (hg : RG p w G v) (ht : RT p w v w' v') : Zs B w' l z :=
  owns_kept3 h fun b hb => ht.block (h.lt hb).2 (fun e => own_ne h hg.box (by decide) (by rw [← e]; exact hb)) (fun e => own_own_ne h hg.own (by decide) b hb e)
def nints (l : List Nat) : List Int := l.map fun (x : Nat) => (x : Int)
theorem nints_at {l : List Nat} {k x : Nat} (h : l[k]? = some x) : (nints l)[k]? = some (x : Int) := by simp [nints, h]
theorem nints_len (l : List Nat) : (nints l).length = l.length := by simp [nints]
/-- What chain answers. -/
def ChainPost (p : Nat) (G : Gr) (l : List Nat) (to_ : Nat) (v : Value) (w : World) (e : Ending) (w' : World) : Prop :=
  e = .returned (.int .i64 ((chainN G l to_).2 : Int)) ∧ ∃ v', RG p w' (chainN G l to_).1 v' ∧ RT p w v w' v'
/-- So much of the chain is made. -/
def ChnAt (p : Nat) (G : Gr) (l : List Nat) (to_ : Nat) (v fv : Value) (w : World) (t i : Value) (wr : World) : Prop :=
  ∃ (k : Nat) (v' : Value), k ≤ l.length ∧ i = .int .i64 ((k : Int) - 1) ∧ t = .int .i64 ((chainN G (l.drop k) to_).2 : Int) ∧ RG p wr (chainN G (l.drop k) to_).1 v' ∧ RT p w v wr v' ∧ Zs 0 wr (nints l) fv
set_option maxHeartbeats 1600000 in
theorem chainR_any (p : Nat) (G : Gr) (l : List Nat) (to_ : Nat) (v fv : Value) (ti : Int) (w : World) (hti : ti = (to_ : Int)) (h : RG p w G v) (hz : Zs 0 w (nints l) fv) (hlen : G.length + l.length ≤ 1000000) :
    Calls Tryz.prog 72 #[.pointer (some (at0 p)), fv, .int .i64 ti] w (ChainPost p G l to_ v w) := by
  subst hti
  obtain ⟨A, c, rfl, hlc, hcm⟩ := hz.form
  rw [nints_len] at hlc ⊢
  have H0 : Hid (ChnAt p G l to_ v (.slice A l.length c) w (.int .i64 (to_ : Int)) (.int .i64 ((l.length : Int) - 1)) w) := by
    rw [nints_len] at hz
    exact Lib.hid ⟨l.length, v, Nat.le_refl _, rfl, by simp [chainN], by simpa [chainN] using h, RT.refl _ _ _, hz⟩
  clear h hz
  go_enter Tryz.func72, Tryz.ntmps72
  go_wp2_with fail
  go_loopw [2, 7] (fun t i wr => ChnAt p G l to_ v (.slice A l.length c) w t i wr) (fun _ i _ => (intOf i + 1).toNat)
  case atStart => exact H0.out
  case round =>
    clear H0
    obtain ⟨k, v', hk, rfl, rfl, hg, ht, hz⟩ := hrel
    cases k with
    | zero =>
      have HF : Hid (ChainPost p G l to_ v w (.returned (.int .i64 ((chainN G l to_).2 : Int))) wr) := by
        simp only [List.drop_zero] at hg
        exact Lib.hid ⟨rfl, v', hg, ht⟩
      clear hg ht hz
      simp only [List.drop_zero]
      go_wp2_with fail
      go_ret
      exact HF.out
    | succ k =>
      have hx : l[k]? = some l[k] := List.getElem?_eq_getElem (by omega)
      obtain ⟨g, rfl, _, r0⟩ := hz.cell (nints_at hx)
      have hd : l.drop k = l[k] :: l.drop (k + 1) := List.drop_eq_getElem_cons (by omega)
      have hcl := chainN_len G to_ (l.drop (k + 1))
      have HC := Lib.hid (addR_any p _ v' (.arrow l[k] (chainN G (l.drop (k + 1)) to_).2) 2 (l[k] : Int) ((chainN G (l.drop (k + 1)) to_).2 : Int) wr rfl rfl rfl hg (by rw [hcl, List.length_drop]; omega))
      have HF : Hid (∀ w' u', RG p w' ((chainN G (l.drop (k + 1)) to_).1 ++ [.arrow l[k] (chainN G (l.drop (k + 1)) to_).2]) u' → RT p wr v' w' u' →
          ChnAt p G l to_ v (.slice (some ⟨g, 0, none⟩) l.length c) w (.int .i64 ((chainN G (l.drop (k + 1)) to_).1.length : Int)) (.int .i64 ((k : Int) - 1)) w') := by
        refine Lib.hid fun w' u' h1 h2 => ⟨k, u', by omega, rfl, by rw [hd]; rfl, by rw [hd]; exact h1, ht.trans h2, hz.rt hg h2⟩
      generalize l[k] = x at *
      generalize (chainN G (l.drop (k + 1)) to_).2 = tp at *
      generalize (chainN G (l.drop (k + 1)) to_).1 = G1 at *
      have hki : (((k + 1 : Nat) : Int) - 1) = (k : Int) := by omega
      rw [hki]
      clear hx hd hcl hg ht hz hki
      go_wp2_with fail
      refine HC.out.mono ?_
      rintro e w2 ⟨rfl, u', hg2, ht2⟩
      have HR := Lib.hid (HF.out w2 u' hg2 ht2)
      clear hg2 ht2
      go_wp2_with fail
      go_roundw
      case rel => exact HR.out
      case measure => simp [intOf]
end Go.Proofs.YtkkfdiidneoelaaGreatDoor
