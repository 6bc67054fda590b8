/-
  The reference's insert and Variables: the numbers of the variables, in increasing order, in an array of its own.
-/
import Derived.Test.YtmggccgjhjknpaaTVars
import Derived.Test.YtmggccgjhjknpaaTConcat
namespace Go.Proofs.Ytmggccgjhjknpaa
open Go.RowKit

/-- A slice of numbers, of an array of its own. -/
def Zs (B : Nat) (w : World) (l : List Int) (v : Value) : Prop := w.ownsRow B 3 1 v l.length (l.map (Value.int .i64))
theorem Zs.nil (B : Nat) (w : World) : Zs B w [] (.slice none 0 0) := ⟨by simp, .inl ⟨rfl, rfl⟩⟩
theorem Zs.lt {B : Nat} {w : World} {l : List Int} {v : Value} (h : Zs B w l v) {b : Nat} (hb : v.ownBlock = some b) : B ≤ b ∧ b < w.heap.size := World.ownsRow.lt h b hb
theorem Zs.below {B : Nat} {w w' : World} {l : List Int} {v : Value} (h : Zs B w l v) (hb : Below w.heap.size w w') : Zs B w' l v := owns_kept3 h (fun b hh => hb.block b (h.lt hh).2)
theorem Zs.less {B B' : Nat} {w : World} {l : List Int} {v : Value} (h : Zs B w l v) (hb : B' ≤ B) : Zs B' w l v := owns_less h hb
theorem Zs.form {B : Nat} {w : World} {l : List Int} {v : Value} (h : Zs B w l v) : ∃ A c, v = .slice A l.length c ∧ l.length ≤ c ∧ c ≤ 9223372036854775807 := by
  rcases h.2 with ⟨rfl, h0⟩ | ⟨g, cap, cur, rfl, _, _, h1, h2, _⟩
  · exact ⟨none, 0, by rw [h0], by omega, by omega⟩
  · exact ⟨_, cap, rfl, h1, by simpa [maxLen] using h2⟩
theorem Zs.cell {B : Nat} {w : World} {l : List Int} {A : Option Addr} {n c : Nat} (h : Zs B w l (.slice A n c)) {j : Nat} {x : Int} (hj : l[j]? = some x) : ∃ g, A = some ⟨g, 0, none⟩ ∧ g < w.heap.size ∧ w.cell? ⟨g, j, none⟩ = some (.int .i64 x) := by
  rcases h.2 with ⟨_, h0⟩ | ⟨g, cap, cur, he, _⟩
  · have : l = [] := List.eq_nil_of_length_eq_zero h0
    subst this; simp at hj
  · injection he with e1 e2 e3
    subst e1
    have hg := h.lt (b := g) rfl
    have hc := World.ownsRow.cells h (g := g) rfl j (.int .i64 x) (by simp [hj])
    refine ⟨g, rfl, hg.2, ?_⟩
    have he : (⟨g, 0, none⟩ : Addr).add j = ⟨g, j, none⟩ := by
      unfold Addr.add
      split
      · rename_i h0; rw [h0]
      · simp
    rwa [he] at hc
theorem Zs.cells {B : Nat} {w : World} {l : List Int} {g n c : Nat} (h : Zs B w l (.slice (some ⟨g, 0, none⟩) n c)) {j : Nat} {x : Int} (hj : l[j]? = some x) : w.cell? ⟨g, j, none⟩ = some (.int .i64 x) := by
  obtain ⟨g', he, _, hc⟩ := h.cell hj
  injection he with he
  injection he with he _ _
  rw [he]; exact hc

theorem Zs.rest {B : Nat} {w : World} {l : List Int} {g n c : Nat} (h : Zs B w l (.slice (some ⟨g, 0, none⟩) n c)) (j : Nat) : ∀ i u, ((l.drop j).map (Value.int .i64))[i]? = some u → w.cell? ((⟨g, j, none⟩ : Addr).add i) = some u := by
  intro i u hu
  rw [List.getElem?_map, List.getElem?_drop] at hu
  cases hx : l[j + i]? with
  | none => rw [hx] at hu; cases hu
  | some x =>
    rw [hx] at hu
    injection hu with hu
    subst hu
    have hc := h.cells hx
    have he : (⟨g, j, none⟩ : Addr).add i = ⟨g, j + i, none⟩ := by
      unfold Addr.add
      split
      · rename_i h0; rw [h0]; rfl
      · rfl
    rw [he]; exact hc
theorem ones_ints (l : List Int) : ∀ u ∈ l.map (Value.int .i64), u.oneCell' = true := by
  intro u hu
  obtain ⟨x, _, rfl⟩ := List.mem_map.1 hu
  rfl

theorem insZ_split {n : Int} : ∀ {l : List Int} {k : Nat}, (∀ x ∈ l.take k, x < n) → (∀ x, l[k]? = some x → n ≤ x) →
    insZ n l = l.take k ++ [n] ++ (if l[k]? = some n then l.drop (k + 1) else l.drop k)
  | [], k, _, _ => by simp [insZ]
  | a :: r, 0, _, h => by
    have := h a rfl
    unfold insZ
    rw [if_neg (by omega)]
    by_cases e : a = n
    · simp [e]
    · simp [e]
  | a :: r, k + 1, h1, h2 => by
    have ha := h1 a (by simp)
    unfold insZ
    rw [if_pos ha, insZ_split (l := r) (k := k) (fun x hx => h1 x (by simp [hx])) (fun x hx => h2 x (by simpa using hx))]
    simp

/-- What the loop of insert holds. -/
def Ins (B : Nat) (w : World) (l : List Int) (n : Int) (v i : Value) (wr : World) : Prop :=
  ∃ k : Nat, k ≤ l.length ∧ i = .int .i64 k ∧ (Hid (∀ x ∈ l.take k, x < n)) ∧ Zs B wr (l.take k) v ∧ Below B w wr

set_option maxRecDepth 100000 in
set_option maxHeartbeats 1600000 in
theorem insert_any (l : List Int) (n : Int) (v : Value) (B : Nat) (w : World) (h : Zs B w l v) (hlen : l.length ≤ 200000) :
    Calls Try.prog 88 #[v, .int .i64 n] w fun e w' => ∃ v', e = .returned v' ∧ Zs w.heap.size w' (insZ n l) v' ∧ Below w.heap.size w w' := by
  obtain ⟨i0, hi0, hz0, hz1, hz2⟩ := info_parts int_info
  obtain ⟨A, c, rfl, hlc, hc63⟩ := h.form
  have HZ1 := Lib.hid hz1
  have HZ2 := Lib.hid hz2
  clear hz1 hz2
  go_enter Try.func88, Try.ntmps88
  go_wp2_with fail
  go_loopw [5, 6] (fun v i wr => Ins w.heap.size w l n v i wr) (fun _ i _ => l.length - (intOf i).toNat)
  case atStart => exact ⟨0, Nat.zero_le _, rfl, Lib.hid (by simp), by simpa using Zs.nil _ _, Below.refl _ _⟩
  case round =>
    obtain ⟨k, hk, rfl, hall, hzs, hbel⟩ := hrel
    obtain ⟨A2, c2, hv, hlc2, hc2⟩ := hzs.form
    have hzr := hbel.size
    have hkl : (l.take k).length = k := by rw [List.length_take]; omega
    rw [hkl] at hv hlc2
    subst hv
    have HKL := Lib.hid hkl
    have hvb : ∀ b, (Value.slice A2 k c2).ownBlock = some b → w.heap.size ≤ b := fun b hb => (hzs.lt hb).1
    have h' := h.below hbel
    by_cases hlt : k < l.length
    · have hx : l[k]? = some l[k] := List.getElem?_eq_getElem hlt
      obtain ⟨g, rfl, hg, r0⟩ := h'.cell hx
      have hts : l.take (k + 1) = l.take k ++ [l[k]] := by rw [List.take_add_one, hx]; rfl
      by_cases hlx : l[k] < n
      · have HALL : Hid (∀ x ∈ l.take (k + 1), x < n) := Lib.hid (by
          rw [hts]
          intro x hx
          rcases List.mem_append.1 hx with hx | hx
          · exact hall.out x hx
          · rw [List.mem_singleton] at hx; omega)
        have HTS := Lib.hid hts
        have hown : wr.ownsRow w.heap.size 3 1 (.slice A2 k c2) (l.take k).length ((l.take k).map (Value.int .i64)) := hzs
        generalize l[k] = x at *
        clear hts hkl hx
        rw [HKL.out] at hown
        clear hzs
        go_wp2_with
          (at_builtin
           refine wpList_append_lies _ rfl _ _ _ rfl w.heap.size 3 i0 _ 1 8 Try.underlying47 hi0 hz0 HZ1.out HZ2.out rfl (by omega) (.slice A2 k c2) k _ (by rfl) (hown.alloc _)
             ⟨wr.heap.size, 0, none⟩ 1 1 [.int .i64 x] (by rfl) (by rfl) (World.news_of_block (cs := #[.int .i64 x]) (t := 3) (fr := (0, 0)) (heap_alloc_new wr _)) (by simp [Value.oneCell']) (by omega) (by simp only [maxLen]; omega) (by omega) (by simp; omega) (wr.heap.size + 1) (by simp) ?_
           intro gg cap2 w3 hown3 hgrow hat3 hlt3)
        go_roundw
        case rel =>
          refine ⟨k + 1, by omega, by go_num, HALL, ?_, ?_⟩
          · show World.ownsRow _ _ _ _ _ _ _
            rw [HTS.out, List.length_append, HKL.out, List.map_append]
            exact hown3
          · exact (hbel.alloc hzr _).grown hgrow (by simp; omega) hvb
        case measure => simp [intOf]; omega
      · have hge : n ≤ l[k] := by omega
        have hsp := insZ_split hall.out (fun x hx' => by rw [hx] at hx'; injection hx' with hx'; omega)
        rw [hx] at hsp
        have hown : wr.ownsRow w.heap.size 3 1 (.slice A2 k c2) (l.take k).length ((l.take k).map (Value.int .i64)) := hzs
        rw [HKL.out] at hown
        have hck0 : ¬ c = k := by omega
        have hr0 := fun (w' : World) (hb : Below w.heap.size w w') => (h.below hb).cells hx
        have HR0 := Lib.hid hr0
        generalize l[k] = x at *
        clear hts hkl hx hzs hr0
        by_cases heq : x = n
        · rw [heq] at hsp
          subst heq
          simp only [if_true] at hsp
          clear hlx hge
          by_cases hj : k + 1 = l.length
          · have HI : Hid (insZ x l = l.take k ++ [x]) := Lib.hid (by rw [hsp, List.drop_eq_nil_of_le (by omega), List.append_nil])
            have HJ := Lib.hid hj
            clear hsp hj
            by_cases hck : c = k + 1
            all_goals
              go_wp2_with (first
              | (at_builtin
                 refine wpList_append_lies _ rfl (.tmp 28) (.tmp 30) _ rfl w.heap.size 3 i0 _ 1 8 Try.underlying47 hi0 hz0 HZ1.out HZ2.out rfl (by omega) (.slice A2 k c2) k _ (by rfl) (hown.alloc _)
                   ⟨wr.heap.size, 0, none⟩ 1 1 [.int .i64 x] (by rfl) (by rfl) (World.news_of_block (cs := #[.int .i64 x]) (t := 3) (fr := (0, 0)) (heap_alloc_new wr _)) (by simp [Value.oneCell']) (by omega) (by simp only [maxLen]; omega) (by omega) (by simp; omega) (wr.heap.size + 1) (by simp) ?_
                 intro gg cap2 w3 hown3 hgrow hat3 hlt3
                 have hb3 : Below w.heap.size w w3 := (hbel.alloc hzr _).grown hgrow (by simp; omega) hvb
                 have hz3 := h.below hb3
                 have r3 := HR0.out w3 hb3)
              | (at_builtin
                 refine Lib.wpList_append_run _ rfl (.tmp 46) (.tmp 49) _ _ rfl _ _ rfl rfl _ _ (run_append_nothing2 w3 w.heap.size 47 _ 3 i0 1 Try.underlying47 hi0 _ (k + 1) _ hown3 _ _ _ (by have := HJ.out; omega)) ?_)
              )
              go_ret
              refine ⟨_, rfl, ?_, hb3⟩
              show World.ownsRow _ _ _ _ _ _ _
              rw [HI.out, List.length_append, HKL.out, List.map_append]
              exact hown3
          · have HI : Hid (insZ x l = l.take k ++ [x] ++ l.drop (k + 1)) := Lib.hid hsp
            have hj' : k + 1 < l.length := by omega
            have hck : ¬ c = k + 1 := by omega
            have HL : Hid ((l.take k ++ [x] ++ l.drop (k + 1)).length = k + 1 + (l.length - (k + 1))) := Lib.hid (by simp only [List.length_append, HKL.out, List.length_cons, List.length_nil, List.length_drop])
            clear hsp hj
            go_wp2_with (first
            | (at_builtin
               refine wpList_append_lies _ rfl (.tmp 28) (.tmp 30) _ rfl w.heap.size 3 i0 _ 1 8 Try.underlying47 hi0 hz0 HZ1.out HZ2.out rfl (by omega) (.slice A2 k c2) k _ (by rfl) (hown.alloc _)
                 ⟨wr.heap.size, 0, none⟩ 1 1 [.int .i64 x] (by rfl) (by rfl) (World.news_of_block (cs := #[.int .i64 x]) (t := 3) (fr := (0, 0)) (heap_alloc_new wr _)) (by simp [Value.oneCell']) (by omega) (by simp only [maxLen]; omega) (by omega) (by simp; omega) (wr.heap.size + 1) (by simp) ?_
               intro gg cap2 w3 hown3 hgrow hat3 hlt3
               have hb3 : Below w.heap.size w w3 := (hbel.alloc hzr _).grown hgrow (by simp; omega) hvb
               have hz3 := h.below hb3
               have r3 := HR0.out w3 hb3)
            | (at_builtin
               refine wpList_append_lies _ rfl (.tmp 46) (.tmp 49) _ rfl w.heap.size 3 i0 _ 1 8 Try.underlying47 hi0 hz0 HZ1.out HZ2.out rfl (by omega) (.slice (some ⟨gg, 0, none⟩) (k + 1) cap2) (k + 1) _ (by rfl) hown3
                 ⟨g, k + 1, none⟩ (l.length - (k + 1)) (c - (k + 1)) ((l.drop (k + 1)).map (Value.int .i64)) (by rfl) (by simp) (hz3.rest (k + 1)) (ones_ints _) (by omega) (by simp only [maxLen]; omega) (by omega) (by have := hb3.size; omega) w3.heap.size rfl ?_
               intro gg4 cap4 w4 hown4 hgrow4 hat4 hlt4)
            )
            go_ret
            refine ⟨_, rfl, ?_, hb3.grown hgrow4 (by have := hb3.size; omega) (fun b hb => by
              have e : gg = b := by simpa [Value.ownBlock] using hb
              have := (World.ownsRow.lt hown3 gg rfl).1
              omega)⟩
            show World.ownsRow _ _ _ _ _ _ _
            rw [HI.out, HL.out, List.map_append, List.map_append]
            exact hown4
        · have hsp' : insZ n l = l.take k ++ [n] ++ l.drop k := by
            rw [hsp, if_neg (by intro e; injection e with e; exact heq e)]
          have HI := Lib.hid hsp'
          have hxe : (x == n) = false := by simpa using heq
          have hxn : (x != n) = true := by simpa using heq
          have HL : Hid ((l.take k ++ [n] ++ l.drop k).length = k + 1 + (l.length - k)) := Lib.hid (by simp only [List.length_append, HKL.out, List.length_cons, List.length_nil, List.length_drop])
          clear hsp hsp' heq
          go_wp2_with (first
          | (at_builtin
             refine wpList_append_lies _ rfl (.tmp 28) (.tmp 30) _ rfl w.heap.size 3 i0 _ 1 8 Try.underlying47 hi0 hz0 HZ1.out HZ2.out rfl (by omega) (.slice A2 k c2) k _ (by rfl) (hown.alloc _)
               ⟨wr.heap.size, 0, none⟩ 1 1 [.int .i64 n] (by rfl) (by rfl) (World.news_of_block (cs := #[.int .i64 n]) (t := 3) (fr := (0, 0)) (heap_alloc_new wr _)) (by simp [Value.oneCell']) (by omega) (by simp only [maxLen]; omega) (by omega) (by simp; omega) (wr.heap.size + 1) (by simp) ?_
             intro gg cap2 w3 hown3 hgrow hat3 hlt3
             have hb3 : Below w.heap.size w w3 := (hbel.alloc hzr _).grown hgrow (by simp; omega) hvb
             have hz3 := h.below hb3
             have r3 := HR0.out w3 hb3)
          | (at_builtin
             refine wpList_append_lies _ rfl (.tmp 46) (.tmp 49) _ rfl w.heap.size 3 i0 _ 1 8 Try.underlying47 hi0 hz0 HZ1.out HZ2.out rfl (by omega) (.slice (some ⟨gg, 0, none⟩) (k + 1) cap2) (k + 1) _ (by rfl) hown3
               ⟨g, k, none⟩ (l.length - (k)) (c - (k)) ((l.drop (k)).map (Value.int .i64)) (by rfl) (by simp) (hz3.rest (k)) (ones_ints _) (by omega) (by simp only [maxLen]; omega) (by omega) (by have := hb3.size; omega) w3.heap.size rfl ?_
             intro gg4 cap4 w4 hown4 hgrow4 hat4 hlt4)
          )
          go_ret
          refine ⟨_, rfl, ?_, hb3.grown hgrow4 (by have := hb3.size; omega) (fun b hb => by
            have e : gg = b := by simpa [Value.ownBlock] using hb
            have := (World.ownsRow.lt hown3 gg rfl).1
            omega)⟩
          show World.ownsRow _ _ _ _ _ _ _
          rw [HI.out, HL.out, List.map_append, List.map_append]
          exact hown4
    · have hkk : k = l.length := by omega
      have hown : wr.ownsRow w.heap.size 3 1 (.slice A2 k c2) (l.take k).length ((l.take k).map (Value.int .i64)) := hzs
      rw [HKL.out] at hown
      have HI : Hid (insZ n l = l.take k ++ [n]) := Lib.hid (by
        rw [insZ_split hall.out (fun x hx => by rw [List.getElem?_eq_none (by omega)] at hx; cases hx), List.getElem?_eq_none (by omega), hkk]
        simp)
      clear hkl hzs
      subst hkk
      by_cases hck : c = l.length
      all_goals
        go_wp2_with (first
        | (at_builtin
           refine wpList_append_lies _ rfl (.tmp 28) (.tmp 30) _ rfl w.heap.size 3 i0 _ 1 8 Try.underlying47 hi0 hz0 HZ1.out HZ2.out rfl (by omega) (.slice A2 l.length c2) l.length _ (by rfl) (hown.alloc _)
             ⟨wr.heap.size, 0, none⟩ 1 1 [.int .i64 n] (by rfl) (by rfl) (World.news_of_block (cs := #[.int .i64 n]) (t := 3) (fr := (0, 0)) (heap_alloc_new wr _)) (by simp [Value.oneCell']) (by omega) (by simp only [maxLen]; omega) (by omega) (by simp; omega) (wr.heap.size + 1) (by simp) ?_
           intro gg cap2 w3 hown3 hgrow hat3 hlt3)
        | (at_builtin
           refine Lib.wpList_append_run _ rfl (.tmp 46) (.tmp 49) _ _ rfl _ _ rfl rfl _ _ (run_append_nothing2 w3 w.heap.size 47 _ 3 i0 1 Try.underlying47 hi0 _ (l.length + 1) _ hown3 _ _ _ (by first | rfl | omega)) ?_)
        )
        go_ret
        refine ⟨_, rfl, ?_, (hbel.alloc hzr _).grown hgrow (by simp; omega) hvb⟩
        show World.ownsRow _ _ _ _ _ _ _
        rw [HI.out, List.length_append, HKL.out, List.map_append]
        exact hown3
end Go.Proofs.Ytmggccgjhjknpaa
