/-
  term.appendEach and term.clone; the reference's Copy: what they return is the term, in memory of its own.
-/
import Derived.Test.YtmggccgjhjknpaaTMake
import Derived.Test.YtmggccgjhjknpaaTEq
import Derived.Deep.RegionLaw
import Derived.Deep.RegionHeld3
namespace Go.Proofs.Ytmggccgjhjknpaa
open Go.RowKit

/-- A term in memory of its own, returned. -/
def Made (t : T) (w : World) (e : Ending) (w' : World) : Prop :=
  ∃ v us, e = .returned (.agg #[.int .i64 t.kind, .int .i64 t.num, v]) ∧ Mk w.heap.size w' t.args v us ∧ Below w.heap.size w w'
theorem Mk.term {B : Nat} {w : World} {t : T} {v : Value} {us : List Value} (h : Mk B w t.args v us) : t.In w (fun b => B ≤ b ∧ b < w.heap.size) v := by
  obtain ⟨k, n, l⟩ := t
  exact T.InL.to h.in_

theorem hones (a b : Int) (u1 : Value) (h : u1.oneCell' = true) : ∀ u ∈ [Value.int .i64 a, .int .i64 b, u1], u.oneCell' = true := by
  intro u hu
  simp only [List.mem_cons, List.not_mem_nil, or_false] at hu
  rcases hu with rfl | rfl | rfl
  · rfl
  · rfl
  · exact h
theorem saves_grown {M : Nat → Prop} {w0 w w1 : World} {o : Obj} {v : Value} (h : Saves M w0 w) (hg : (w.alloc o).grownBy w1 v.ownBlock) (hv : ∀ b, v.ownBlock = some b → M b ∨ w0.heap.size ≤ b) : Saves M w0 w1 := by
  have hk := h.alloc o
  refine ⟨hg.os.trans hk.os, hg.tape.trans hk.tape, hg.output.trans hk.output, Nat.le_trans hk.size hg.size, fun b hb hm => (hg.block b (Nat.lt_of_lt_of_le hb hk.size) (fun e => ?_)).trans (hk.block b hb hm)⟩
  rcases hv b e.symm with h1 | h1
  · exact hm h1
  · omega
/-- What the loop of appendEach holds behind k rounds. -/
def Each (B : Nat) (w : World) (m l : List T) (f : T → T) (v0 : Value) (i v : Value) (wr : World) : Prop :=
  ∃ (k : Nat) (us : List Value), k ≤ l.length ∧ i = .int .i64 k ∧ Mk B wr (m ++ (l.take k).map f) v us ∧ Saves (fun b => v0.ownBlock = some b) w wr ∧ (v.ownBlock = v0.ownBlock ∨ ∀ g, v.ownBlock = some g → w.heap.size ≤ g)

set_option maxHeartbeats 1600000 in
theorem appendEach_any {F : Nat} {cap : Array Value} (hF : ∀ args w, (callFunc F args).run Try.prog w = .ok (.enter F args) w) (f : T → T) {B : Nat} {P : Nat → Prop} {w : World}
    (m l : List T) (v0 u0 : Value) (us0 : List Value) (h0 : Mk B w m v0 us0) (hB : B ≤ w.heap.size) (hin : T.InL w P l u0) (hold : Old P w) (hP : ∀ b, P b → v0.ownBlock ≠ some b) (hlen : m.length + l.length ≤ 100000)
    (hf : ∀ (x : T) (u : Value) (W : World), x ∈ l → x.In W P u → Saves (fun b => v0.ownBlock = some b) w W → Calls Try.prog F (#[.agg #[.int .i64 x.kind, .int .i64 x.num, u]] ++ cap) W (Made (f x) W)) :
    Calls Try.prog 90 #[v0, u0, .func (.func F) #[] cap] w fun e w' => ∃ v us, e = .returned v ∧ Mk B w' (m ++ l.map f) v us ∧ Saves (fun b => v0.ownBlock = some b) w w' := by
  obtain ⟨i0, hi0, hz0, hz1, hz2⟩ := info_parts term_info
  unfold T.InL at hin
  simp only [T.In] at hin
  obtain ⟨A, _, c, us, rfl, rfl, hnc, hc, hrd, hrow⟩ := hin
  have HG := Lib.hid (growT_any h0 hB l.length (by omega))
  obtain ⟨A0, c0, hv0⟩ := h0.form
  have HV0 := Lib.hid hv0
  clear hv0
  have HFF := Lib.hid hf
  clear hf
  go_enter Try.func90, Try.ntmps90
  go_wp2_with fail
  refine HG.out.mono ?_
  rintro e w1 ⟨v1, rfl, hm1, hb1, hat1⟩
  go_wp2_with fail
  go_loopw [15, 0] (fun i v wr => Each B w m l f v0 i v wr) (fun i _ _ => l.length - (intOf i).toNat)
  case atStart =>
    refine ⟨0, us0, Nat.zero_le _, rfl, by simpa using hm1, Saves.of_below hb1, ?_⟩
    rcases hat1 with h | ⟨g, h, h'⟩
    · exact .inl h
    · exact .inr (fun g' e => by rw [h] at e; injection e with e; omega)
  case round =>
    obtain ⟨k, vs, hk, rfl, hmk, hsv, hat⟩ := hrel
    have hzr := hsv.size
    by_cases hlt : k < l.length
    · have hx : l[k]? = some l[k] := List.getElem?_eq_getElem hlt
      have hmem : l[k] ∈ l := List.getElem_mem hlt
      obtain ⟨ad, u, rfl, hPa, hel, hinx⟩ := T.In.el hrd hrow hx
      obtain ⟨r0, r1, r2⟩ := hel.keep (hsv.block _ (hold _ hPa) (hP _ hPa))
      have hw2 : Below wr.heap.size wr (wr.alloc (.cells #[.int .i64 l[k].kind, .int .i64 l[k].num, u] 35)) := (Below.refl _ _).alloc (Nat.le_refl _) _
      have hinr := (hinx.saves hsv (fun b hb => ⟨hold b hb, hP b hb⟩)).below hw2 (fun b hb => Nat.lt_of_lt_of_le (hold b hb) hzr)
      have hct := HFF.out l[k] u _ hmem hinr (hsv.trans (Saves.of_below hw2))
      have hsnoc : m ++ (l.take (k + 1)).map f = (m ++ (l.take k).map f) ++ [f l[k]] := by rw [List.take_add_one, hx, List.map_append, List.append_assoc]; rfl
      obtain ⟨A', n', c', rfl⟩ := hinx.form
      have hkl : (m ++ (l.take k).map f).length = m.length + k := by simp; omega
      generalize m ++ (l.take k).map f = ml at *
      have HS := Lib.hid hsnoc
      have HL := Lib.hid hkl
      have HC := Lib.hid hct
      have HZ1 := Lib.hid hz1
      have HZ2 := Lib.hid hz2
      generalize l[k] = x at *
      have hvl : ∀ b, u0.ownBlock = some b → B ≤ b ∧ b < wr.heap.size := fun b hb => hmk.lt hb
      clear hx hel hsnoc hkl hct hmem
      go_wp2_with fail
      refine HC.out.mono ?_
      rintro e w2 ⟨u1, vs1, rfl, hm2, hb2⟩
      have hone : u1.oneCell' = true := by obtain ⟨A1, c1, rfl⟩ := hm2.form; rfl
      have hz2 := hb2.size
      simp only [World.size_alloc] at hz2 hb2
      have hin2 := hm2.nterm
      have hown1 : w2.ownsRow B 35 3 u0 ml.length vs := owns_kept3 hmk.own (fun b hb => (hb2.block b (by have := (hvl b hb).2; omega)).trans (Below.heap_alloc wr _ b (hvl b hb).2))
      go_wp2_with
        (at_builtin
         refine wpList_append_lies _ rfl _ _ _ rfl B 35 i0 _ 3 40 Try.underlying33 hi0 hz0 HZ1.out HZ2.out rfl (by omega) u0 _ vs (by rfl) (hown1.alloc _)
           ⟨w2.heap.size, 0, none⟩ 1 1 [.int .i64 (f x).kind, .int .i64 (f x).num, u1] (by rfl) (by rfl) (World.news_of_block (cs := #[.int .i64 (f x).kind, .int .i64 (f x).num, u1]) (t := 35) (fr := (0, 0)) (heap_alloc_new w2 _)) (hones _ _ _ hone) (by omega) (by rw [HL.out]; simp only [maxLen]; omega) (by rw [HL.out]; omega) (by simp; omega) (w2.heap.size + 1) (by simp) ?_
         intro gg cap2 w3 hown3 hgrow hat3 hlt3)
      go_roundw
      case rel => 
        refine ⟨k + 1, vs ++ [.int .i64 (f x).kind, .int .i64 (f x).num, u1], by omega, by go_num, ?_, ?_, ?_⟩
        · rw [HS.out]
          exact hmk.push (by omega) (w1 := w2) (fun b hb => (hb2.block b (by omega)).trans (Below.heap_alloc wr _ b hb)) (by omega) (hin2.more (fun b hb => ⟨by have := hb.1; simp at this; omega, hb.2⟩) _) hown3 hgrow hat3
        · exact saves_grown ((hsv.trans (Saves.of_below hw2)).trans (Saves.of_below (by simpa using hb2))) hgrow (fun b hb => by
            rcases hat with h | h
            · exact .inl (h ▸ hb)
            · exact .inr (h b hb))
        · rcases hat3 with h3 | h3
          · rcases hat with h | h
            · exact .inl (h3.symm.trans h)
            · exact .inr (fun g e => h g (h3.trans e))
          · exact .inr (fun g e => by have e' : gg = g := by simpa [Value.ownBlock] using e
                                      omega)
      case measure => simp [intOf]; omega
    · have hll : l.take k = l := List.take_of_length_le (by omega)
      rw [hll] at hmk
      clear hll
      go_wp2_with fail
      go_ret
      exact ⟨_, _, rfl, hmk, hsv⟩

theorem cloneT_results {tmps : Array Value} {w : World} {a : Nat} {x y z : Value} (h2 : tmps.getD 2 undef = .pointer (some ⟨a, 0, none⟩))
    (ha : Blk w a 35 #[x, y, z]) : (results Try.f69 tmps).run Try.prog w = .ok (.agg #[x, y, z]) w := by
  have h4 := ha.cell 0
  have h5 := ha.cell 1
  have h6 := ha.cell 2
  simp at h4 h5 h6
  have h2' : tmps[2]?.getD undef = .pointer (some ⟨a, 0, none⟩) := by simpa using h2
  simp [results, Try.results69, go_sem, h2', h4, h5, h6]

set_option maxHeartbeats 1600000 in
theorem cloneT_any (K : Nat) : ∀ (t : T) (v : Value) (w : World) (P : Nat → Prop), t.count ≤ K → t.count ≤ 100000 → t.In w P v → Old P w →
    Calls Try.prog 69 #[.agg #[.int .i64 t.kind, .int .i64 t.num, v]] w (Made t w) := by
  induction K with
  | zero => intro t; have := t.count_pos; omega
  | succ K ih =>
    intro t v w P hK hm hin hold
    obtain ⟨kd, nm, l⟩ := t
    simp only [T.kind, T.num]
    have hlen := T.length_le l
    simp only [T.count] at hm
    have hw2 : Below w.heap.size w (((w.alloc (.cells #[.int .i64 kd, .int .i64 nm, v] 35)).alloc (.cells #[.int .i64 0, .int .i64 0, .slice none 0 0] 35)).drew) := (((Below.refl _ _).alloc (Nat.le_refl _) _).alloc (by simp) _).drew
    have hb1 : Blk (((w.alloc (.cells #[.int .i64 kd, .int .i64 nm, v] 35)).alloc (.cells #[.int .i64 0, .int .i64 0, .slice none 0 0] 35)).drew) w.heap.size 35 #[.int .i64 kd, .int .i64 nm, v] := ((Blk.new _ _ _).alloc _).drew
    have hb2 : Blk (((w.alloc (.cells #[.int .i64 kd, .int .i64 nm, v] 35)).alloc (.cells #[.int .i64 0, .int .i64 0, .slice none 0 0] 35)).drew) (w.heap.size + 1) 35 #[.int .i64 0, .int .i64 0, .slice none 0 0] := by
      have := (Blk.new (w.alloc (.cells #[.int .i64 kd, .int .i64 nm, v] 35)) 35 #[.int .i64 0, .int .i64 0, .slice none 0 0]).drew
      simpa using this
    have hinl : T.InL (((w.alloc (.cells #[.int .i64 kd, .int .i64 nm, v] 35)).alloc (.cells #[.int .i64 0, .int .i64 0, .slice none 0 0] 35)).drew) P l v := (T.InL.of (hin.old hold hw2) :)
    have hct := appendEach_any (F := 69) (cap := #[]) Try.call69 id (B := w.heap.size + 2) [] l (.slice none 0 0) v [] (Mk.nil _ _) (by simp [World.drew]) hinl (hold.bel hw2) (fun _ _ => by simp [Value.ownBlock]) (by simp; omega)
      (fun x u W hx hxin hsv => by
        have hxc : x.count ≤ T.countL l := by
          obtain ⟨k, hk⟩ := List.getElem?_of_mem hx
          have := T.count_lt (a := 0) (b := 0) hk
          simp only [T.count] at this; omega
        exact ih x u W P (by simp only [T.count] at hK; omega) (by omega) hxin ((hold.bel hw2).le hsv.size))
    have HC := Lib.hid hct
    obtain ⟨A, n, c, rfl⟩ := hin.form
    clear hct ih
    go_enter Try.func69, Try.ntmps69
    go_wp2_with fail
    go_region_held3 (fun w' => w'.cell? ⟨w.heap.size, 0, none⟩ = some (.int .i64 kd) ∧ w'.cell? ⟨w.heap.size, 1, none⟩ = some (.int .i64 nm) ∧ w'.cell? ⟨w.heap.size, 2, none⟩ = some (.slice A n c))
      (first
        | go_keep
        | assumption)
      (first
        | (go_at_call 90
           refine HC.out.mono ?_
           rintro e w1 ⟨v1, us1, rfl, hm1, hs1⟩
           have k1 := hb1.saves hs1 (by simp [Value.ownBlock])
           have k2 := hb2.saves hs1 (by simp [Value.ownBlock])
           have q0 := k1.cell 0
           have q1 := k1.cell 1
           have q2 := k1.cell 2
           have p0 := k2.cell 0
           have p1 := k2.cell 1
           have p2 := k2.cell 2
           have f0 := k2.frozen 0
           have f1 := k2.frozen 1
           have f2 := k2.frozen 2
           simp at q0 q1 q2 p0 p1 p2
           have Q : w1.cell? ⟨w.heap.size, 0, none⟩ = some (.int .i64 kd) ∧ w1.cell? ⟨w.heap.size, 1, none⟩ = some (.int .i64 nm) ∧ w1.cell? ⟨w.heap.size, 2, none⟩ = some (.slice A n c) := ⟨q0, q1, q2⟩
           obtain ⟨A1, c1, rfl⟩ := hm1.form))
    go_wp2_with fail
    refine bodyPost_ret (cloneT_results rfl ((((k2.set_ 0 _).set_ 1 _).set_ 2 _).eq_ (by simp; exact ⟨rfl, rfl, rfl⟩))) rfl ⟨_, us1, rfl, ?_, ?_⟩
    · have hl : [] ++ List.map id l = l := by simp
      rw [hl] at hm1
      exact (((hm1.set (by simp) _).set (by simp) _).set (by simp) _).less (by omega)
    · exact (((hw2.trans (hs1.below (B := w.heap.size) (by simp [World.drew]; omega) (fun _ _ => by simp [Value.ownBlock]))).setCell (by simp) _).setCell (by simp) _).setCell (by simp) _
end Go.Proofs.Ytmggccgjhjknpaa
