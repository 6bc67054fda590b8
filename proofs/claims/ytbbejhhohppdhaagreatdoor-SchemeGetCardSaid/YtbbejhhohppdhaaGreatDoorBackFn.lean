/-
  slices.Backward and scheme.numbers at functions: contracts.
-/
import Derived.RangeFuncNested
import Derived.RangeFuncBound
import Derived.RangeFuncCalls
import Derived.RangeFuncLeaves
import Derived.RangeFuncBox
import Derived.Shelf.Abstract
import Derived.Shelf.RegionOpen
import Derived.WalkKit
import Derived.OwnWalkIn
import Derived.TacticsInMore
import Derived.LoopNIn
import Derived.LoopIn
import Derived.Maps.OwnIn
import Derived.Test.YtbbejhhohppdhaaGreatDoorNums
import Derived.Test.YtbbejhhohppdhaaGreatDoorGD
namespace Go.Proofs.YtbbejhhohppdhaaGreatDoor
open Go.RowKit Go.Shelf
attribute [local go_sem] Oper.semAt_some

/-- An element, with its number. -/
structure FnX where
  i : Nat
  name : ByteArray
  hs : name.size ≤ maxLen
  hi : i ≤ 100000
  a1 : Option Addr
  n1 : Nat
  c1 : Nat
  kd : Int
  nu : Int
  a2 : Option Addr
  n2 : Nat
  c2 : Nat
def FnX.cells (x : FnX) : Array Value := #[.string x.name, .slice x.a1 x.n1 x.c1, .int .i64 x.kd, .int .i64 x.nu, .slice x.a2 x.n2 x.c2]
def FnX.enc (x : FnX) : Array Value := #[.int .i64 (x.i : Int), .agg x.cells]
/-- The elements lie in a row. -/
def FnX.Row (W : World) (A : Option Addr) (n₀ : Nat) (zs : List FnX) : Prop :=
  ∀ (k : Nat) (x : FnX), zs[k]? = some x → x.i = k ∧ ∃ ad, A = some ad ∧ ad.block < n₀ ∧ W.cell? (ad.add (k * 5)) = some (.string x.name) ∧ W.cell? ⟨(ad.add (k * 5)).block, (ad.add (k * 5)).off + 1, none⟩ = some (.slice x.a1 x.n1 x.c1) ∧ W.cell? ⟨(ad.add (k * 5)).block, (ad.add (k * 5)).off + 2, none⟩ = some (.int .i64 x.kd) ∧ W.cell? ⟨(ad.add (k * 5)).block, (ad.add (k * 5)).off + 3, none⟩ = some (.int .i64 x.nu) ∧ W.cell? ⟨(ad.add (k * 5)).block, (ad.add (k * 5)).off + 4, none⟩ = some (.slice x.a2 x.n2 x.c2)
theorem FnX.Row.below {W W' : World} {A : Option Addr} {n₀ : Nat} {zs : List FnX} (h : FnX.Row W A n₀ zs) (hb : Below n₀ W W') : FnX.Row W' A n₀ zs := fun k x hx => by
  obtain ⟨h1, ad, h2, h3, h4⟩ := h k x hx
  exact ⟨h1, ad, h2, h3, (hb.cell (by rw [block_of_add]; exact h3)).trans h4.1, (hb.cell (by show (ad.add (k * 5)).block < n₀; rw [block_of_add]; exact h3)).trans h4.2.1, (hb.cell (by show (ad.add (k * 5)).block < n₀; rw [block_of_add]; exact h3)).trans h4.2.2.1, (hb.cell (by show (ad.add (k * 5)).block < n₀; rw [block_of_add]; exact h3)).trans h4.2.2.2.1, (hb.cell (by show (ad.add (k * 5)).block < n₀; rw [block_of_add]; exact h3)).trans h4.2.2.2.2⟩
/-- What a round keeps: what lies below n₀, and the slice's box. -/
structure FnX.Kp (n₀ Bs : Nat) (W W' : World) : Prop where
  bel : Below n₀ W W'
  box : W'.heap[Bs]? = W.heap[Bs]?
theorem FnX.Kp.trans {n₀ Bs : Nat} {A B C : World} (h : FnX.Kp n₀ Bs A B) (k : FnX.Kp n₀ Bs B C) : FnX.Kp n₀ Bs A C := ⟨h.bel.trans k.bel, k.box.trans h.box⟩
theorem FnX.Kp.put {n₀ Bs : Nat} {w : World} (hn : n₀ ≤ w.heap.size) (hB : Bs < w.heap.size) (W : World) (l : Nat) (o o' : Obj) (hl : w.heap.size ≤ l) (h : W.heap[l]? = some o) (h1 : o.isCells = false) (h2 : o.isWalk = false) : FnX.Kp n₀ Bs W (W.putObj l o') :=
  ⟨belowK_b hn W l o o' hl h h1 h2, (grownBy_putObj' W l o').block Bs (by have := (Array.getElem?_eq_some_iff.1 h).1; omega) (fun e => by injection e with e; omega)⟩

set_option maxRecDepth 100000 in
set_option maxHeartbeats 2000000 in
theorem fn_back1 (F : Fence) (n : Nat) (hF : F.fn 156) (hro : F.round = none) (hn : 1 ≤ n) (l Bs n₀ : Nat) (A : Option Addr) (cap : Nat) (zs : List FnX) (hlen : zs.length ≤ cap) (hcap : cap ≤ 9223372036854775807) (J Jx : List FnX → World → Prop)
    (hY : ∀ pre x W, J pre W → pre.length < zs.length → YieldAt F (n - 1) Tryz.prog l (FnX.enc x) W fun e W' =>
      (e = .returned (.bool true) ∧ J (pre ++ [x]) W' ∧ FnX.Kp n₀ Bs W W') ∨ (e = .returned (.bool false) ∧ Jx (pre ++ [x]) W'))
    (W : World) (hBs : Blk W Bs 23 #[.slice A zs.length cap]) (hc : FnX.Row W A n₀ zs) (h0 : J [] W) :
    CallsIn F n Tryz.prog 156 #[.func (.yield l) #[] #[], .pointer (some ⟨Bs, 0, none⟩)] W fun e W' => (∃ v, e = .returned v) ∧
      ((∃ ys, ys = zs.reverse ∧ J ys W') ∨ (∃ pre, True ∧ Jx pre W')) := by
  refine callsIn_of_wp Tryz.func156 rfl hF ?_ hro
  simp only [Tryz.ntmps156, List.size_toArray, List.length_cons, List.length_nil, Nat.reduceAdd, Nat.reduceSub, Array.replicate_succ, Array.replicate_zero, List.push_toArray, List.append_toArray, List.nil_append, List.cons_append]
  have hb0 := hBs.cell 0
  simp at hb0
  gi_wp2
  gi_loopw [3] (fun p wr => ∃ k : Nat, k ≤ zs.length ∧ p = .int .i64 ((zs.length : Int) - 1 - (k : Int)) ∧ J (zs.reverse.take k) wr ∧ FnX.Kp n₀ Bs W wr) (fun p _ => (intOf p + 1).toNat)
  case atStart => exact ⟨0, Nat.zero_le _, by simp, by simpa using h0, Below.refl _ _, rfl⟩
  case round =>
    obtain ⟨k, hk, rfl, hJs, hkp⟩ := hrel
    have hbx : Blk wr Bs 23 #[.slice A zs.length cap] := hkp.box.trans hBs
    have hcx := hbx.cell 0
    simp at hcx
    by_cases hlt : k < zs.length
    · obtain ⟨m, hm⟩ : ∃ m : Nat, m + k + 1 = zs.length := ⟨zs.length - k - 1, by omega⟩
      have hx : zs[m]? = some zs[m] := List.getElem?_eq_getElem (by omega)
      obtain ⟨hi, ad, rfl, had, hat⟩ := (hc.below hkp.bel) m zs[m] hx
      have hrev : zs.reverse.take (k + 1) = zs.reverse.take k ++ [zs[m]] := by
        rw [List.take_add_one, List.getElem?_reverse (by omega), show zs.length - 1 - k = m from by omega, hx]; rfl
      obtain ⟨fn, tmps, assign, body, hy, hR⟩ := hY _ zs[m] wr hJs (by simp; omega)
      have hidx : (zs.length : Int) - 1 - (k : Int) = (m : Int) := by omega
      have hml : m < zs.length := by omega
      have hge : decide ((0 : Int) ≤ (m : Int)) = true := decide_eq_true (by omega)
      rw [← hrev] at hR
      dsimp only [FnX.enc, FnX.cells] at hy
      generalize zs[m] = x at *
      obtain ⟨xi, xname, xhs, xhi, xa1, xn1, xc1, xkd, xnu, xa2, xn2, xc2⟩ := x
      simp only at hi hat hy
      subst hi
      obtain ⟨q0, q1, q2, q3, q4⟩ := hat
      rw [hidx]
      clear hx hrev
      gi_wp2
      refine hR.mono ?_
      rintro e W3 (⟨rfl, hJ3, hk3⟩ | ⟨rfl, hJx3⟩)
      · gi_wp2
        go_roundw
        case rel => exact ⟨k + 1, by omega, by congr 1; omega, hJ3, hkp.trans hk3⟩
        case measure => simp [intOf]
      · gi_wp2
        refine bodyPost_ret (results_none rfl _ _ _) rfl ?_
        exact ⟨⟨_, rfl⟩, .inr ⟨_, trivial, hJx3⟩⟩
    · obtain rfl : k = zs.length := by omega
      have hidx : (zs.length : Int) - 1 - (zs.length : Int) = -1 := by omega
      rw [hidx]
      rw [show zs.reverse.take zs.length = zs.reverse from List.take_of_length_le (by simp)] at hJs
      gi_wp2
      go_end0
      exact ⟨⟨_, rfl⟩, .inl ⟨_, rfl, hJs⟩⟩

set_option maxHeartbeats 1000000 in
theorem fn_back (F : Fence) (n : Nat) (hF : F.fn 116) (hro : F.round = none) (A : Option Addr) (len cap : Nat) (w : World) :
    CallsIn F n Tryz.prog 116 #[.slice A len cap] w fun e w' => e = .returned (.func (.func 156) #[] #[.pointer (some ⟨w.heap.size, 0, none⟩)]) ∧ w' = w.alloc (.cells #[.slice A len cap] 23) := by
  refine callsIn_of_wp Tryz.func116 rfl hF ?_ hro
  simp only [Tryz.ntmps116, List.size_toArray, List.length_cons, List.length_nil, Nat.reduceAdd, Nat.reduceSub, Array.replicate_succ, Array.replicate_zero, List.push_toArray, List.append_toArray, List.nil_append, List.cons_append]
  gi_wp2
  go_ret
  exact ⟨rfl, rfl⟩

theorem fn_stops (F : Fence) (n : Nat) (hF : F.fn 156) (hro : F.round = none) (hn : 1 ≤ n) (Bs n₀ : Nat) (A : Option Addr) (cap : Nat) (zs : List FnX) (hlen : zs.length ≤ cap) (hcap : cap ≤ 9223372036854775807) (w : World) (hn₀ : n₀ ≤ w.heap.size)
    (hBs : Blk w Bs 23 #[.slice A zs.length cap]) (hc : FnX.Row w A n₀ zs) :
    SeqStopsK F n Tryz.prog 156 #[.pointer (some ⟨Bs, 0, none⟩)] FnX.enc (FnX.Kp n₀ Bs) (fun ys => ys = zs.reverse) (fun _ => True) zs.length w := fun l J Jx W hW _ _ hY h0 =>
  fn_back1 F n hF hro hn l Bs n₀ A cap zs hlen hcap J Jx hY W (hBs.below hW hBs.lt) (hc.below (hW.mono hn₀)) h0

/-- What has been put. -/
def FnX.look (pre : List FnX) : List UInt8 → Option Nat := pre.foldl (fun f x => putN f x.name.data.toList x.i) (fun _ => none)
theorem FnX.look_snoc (pre : List FnX) (x : FnX) : FnX.look (pre ++ [x]) = putN (FnX.look pre) x.name.data.toList x.i := by simp [FnX.look]
theorem fn_blk_own {β : Type} (m g : Nat) (t : TypeId) (cs : Array Value) : OwnFrom m (fun (_ : β) W => Blk W g t cs) := fun _ X Y row hs hg hr =>
  (hg.block g hs.lt (fun e => by
    obtain ⟨_, o, ho, hc⟩ := hr g e.symm
    rw [show X.heap[g]? = _ from hs] at ho
    cases ho; cases hc)).trans hs

set_option maxRecDepth 100000 in
set_option maxHeartbeats 4000000 in
theorem fn_numbers (A : Option Addr) (cap : Nat) (zs : List FnX) (hlen : zs.length ≤ cap) (hcap : cap ≤ 9223372036854775807) (w : World) (hc : FnX.Row w A w.heap.size zs) :
    Calls Tryz.prog 68 #[.slice A zs.length cap, .func (.func 69) #[] #[]] w fun e W' => e = .returned (.map (some (w.heap.size + 1))) ∧ MapN W' (w.heap.size + 1) zs.length (FnX.look zs.reverse) ∧ Below w.heap.size w W' := by
  have hmm := @run_makeMap Tryz.prog
  refine (callsIn_wide (n := 6)).1 ?_
  refine callsIn_of_wp_marks Tryz.func68 rfl trivial ?_ rfl
  simp only [Tryz.ntmps68, List.size_toArray, List.length_cons, List.length_nil, Nat.reduceAdd, Nat.reduceSub, Array.replicate_succ, Array.replicate_zero, List.push_toArray, List.append_toArray, List.nil_append, List.cons_append]
  gi_wp2_with (refine ⟨trivial, ?_⟩; gi_at_call 116; refine (fn_back _ _ trivial rfl _ _ _ _).mono ?_; rintro e w' ⟨rfl, rfl⟩)
  have b0 : Blk ((((w.alloc (.cells #[.func (.func 69) #[] #[]] 111)).alloc (.map #[] 0)).alloc (.cells #[.map (some (w.heap.size + 1))] 52)).alloc (.cells #[.slice A zs.length cap] 23)) w.heap.size 111 #[.func (.func 69) #[] #[]] := (((Blk.new _ _ _).alloc _).alloc _).alloc _
  have b2 : Blk ((((w.alloc (.cells #[.func (.func 69) #[] #[]] 111)).alloc (.map #[] 0)).alloc (.cells #[.map (some (w.heap.size + 1))] 52)).alloc (.cells #[.slice A zs.length cap] 23)) (w.heap.size + 1 + 1) 52 #[.map (some (w.heap.size + 1))] := by
    have := (Blk.new ((w.alloc (.cells #[.func (.func 69) #[] #[]] 111)).alloc (.map #[] 0)) 52 #[.map (some (w.heap.size + 1))]).alloc (.cells #[.slice A zs.length cap] 23)
    simpa using this
  have b3 : Blk ((((w.alloc (.cells #[.func (.func 69) #[] #[]] 111)).alloc (.map #[] 0)).alloc (.cells #[.map (some (w.heap.size + 1))] 52)).alloc (.cells #[.slice A zs.length cap] 23)) (w.heap.size + 1 + 1 + 1) 23 #[.slice A zs.length cap] := by
    have := Blk.new (((w.alloc (.cells #[.func (.func 69) #[] #[]] 111)).alloc (.map #[] 0)).alloc (.cells #[.map (some (w.heap.size + 1))] 52)) 23 #[.slice A zs.length cap]
    simpa using this
  have hm0 : MapN ((((w.alloc (.cells #[.func (.func 69) #[] #[]] 111)).alloc (.map #[] 0)).alloc (.cells #[.map (some (w.heap.size + 1))] 52)).alloc (.cells #[.slice A zs.length cap] 23)) (w.heap.size + 1) 0 (fun _ => none) := by
    have h1 := MapN.made (w.alloc (.cells #[.func (.func 69) #[] #[]] 111))
    simp only [World.size_alloc] at h1
    exact (h1.kept (World.grownBy_alloc _ _ none) (by simp)).kept (World.grownBy_alloc _ _ none) (by simp)
  have hB0 : Below w.heap.size w ((((w.alloc (.cells #[.func (.func 69) #[] #[]] 111)).alloc (.map #[] 0)).alloc (.cells #[.map (some (w.heap.size + 1))] 52)).alloc (.cells #[.slice A zs.length cap] 23)) :=
    ((((Below.refl _ _).alloc (Nat.le_refl _) _).alloc (by simp) _).alloc (by simp; omega) _).alloc (by simp; omega) _
  have hsz : ((((w.alloc (.cells #[.func (.func 69) #[] #[]] 111)).alloc (.map #[] 0)).alloc (.cells #[.map (some (w.heap.size + 1))] 52)).alloc (.cells #[.slice A zs.length cap] 23)).heap.size = w.heap.size + 4 := by simp
  obtain ⟨W0, hW0⟩ : ∃ W0, ((((w.alloc (.cells #[.func (.func 69) #[] #[]] 111)).alloc (.map #[] 0)).alloc (.cells #[.map (some (w.heap.size + 1))] 52)).alloc (.cells #[.slice A zs.length cap] 23)) = W0 := ⟨_, rfl⟩
  rw [hW0] at b0 b2 b3 hm0 hB0 hsz ⊢
  clear hW0 hmm
  refine wpIn_rangeFunc_ownH rfl (by omega) (gf := 156) (lb := #[.pointer (some ⟨w.heap.size + 1 + 1 + 1, 0, none⟩)]) rfl trivial (enters_of Tryz.func156 (by kernel_rfl) rfl)
    (fn_stops Fence.wide 5 trivial rfl (by omega) (w.heap.size + 1 + 1 + 1) w.heap.size A cap zs hlen hcap W0 (by omega) b3 (hc.below hB0)) FnX.Kp.trans (FnX.Kp.put (by omega) (by omega)) (Below.refl _ _) (fun _ => rfl)
    (fun pre W => (Blk W w.heap.size 111 #[.func (.func 69) #[] #[]] ∧ (Blk W (w.heap.size + 1 + 1) 52 #[.map (some (w.heap.size + 1))] ∧ Blk W (w.heap.size + 1 + 1 + 1) 23 #[.slice A zs.length cap])) ∧ (MapN W (w.heap.size + 1) pre.length (FnX.look pre) ∧ Below w.heap.size w W))
    (fun _ _ _ => False)
    (OwnFrom.and (OwnFrom.and (fn_blk_own _ _ _ _) (OwnFrom.and (fn_blk_own _ _ _ _) (fn_blk_own _ _ _ _))) (OwnFrom.and (fun s X Y row hs hg hr => hs.kept hg (fun e => by have := (hr _ e.symm).1; omega)) (ownFrom_below (Nat.le_refl _) (by omega))))
    (fun _ _ _ _ _ hs _ _ => hs)
    ⟨⟨b0, b2, b3⟩, hm0, hB0⟩
    (fun x a' W => ∃ Bx, w.heap.size + 1 + 1 + 1 < Bx ∧ Blk W Bx 64 x.cells ∧ a' = { tmps := #[.slice A zs.length cap, .func (.func 69) #[] #[], undef, .pointer (some ⟨w.heap.size, 0, none⟩), .map none, .pointer (some ⟨w.heap.size + 1 + 1, 0, none⟩), .int .i64 (x.i : Int), .pointer (some ⟨Bx, 0, none⟩), .map (some (w.heap.size + 1)), .slice A zs.length cap, .func (.func 156) #[] #[.pointer (some ⟨w.heap.size + 1 + 1 + 1, 0, none⟩)], .int .i64 (x.i : Int), .agg x.cells, undef, undef, undef, undef, undef, undef], defers := [] })
    (fun x a' _ X Y row hs hg hr => by obtain ⟨Bx, h1, h2, h3⟩ := hs; exact ⟨Bx, h1, fn_blk_own (β := Unit) W0.heap.size Bx _ _ () X Y row h2 hg hr, h3⟩)
    ?assign ?body ?done ?stop
  case assign =>
    rintro l pre x W K ⟨⟨c0, c2, c3⟩, cm, cB⟩ hK
    have hz := cB.size
    have hl3 := c3.lt
    obtain ⟨xi, xname, xhs, xhi, xa1, xn1, xc1, xkd, xnu, xa2, xn2, xc2⟩ := x
    dsimp only [FnX.enc, FnX.cells] at hK ⊢
    gi_wp2
    exact hK _ _ ((KeepsOthers.alloc _ _).from _) ⟨(Below.refl _ W).alloc hz _, Below.heap_alloc _ _ _ hl3⟩ ⟨⟨c0.alloc _, c2.alloc _, c3.alloc _⟩, cm.kept (World.grownBy_alloc _ _ none) (by simp), cB.alloc hz _⟩ ⟨W.heap.size, hl3, Blk.new _ _ _, rfl⟩
  case body =>
    rintro l pre x a' W hl ⟨r, hr⟩ ⟨⟨c0, c2, c3⟩, cm, cB⟩ ⟨Bx, hBx, bX, rfl⟩ hlt
    have hz := cB.size
    have hl3 := c3.lt
    obtain ⟨xi, xname, xhs, xhi, xa1, xn1, xc1, xkd, xnu, xa2, xn2, xc2⟩ := x
    dsimp only [FnX.cells] at bX ⊢
    have d0 := c0.cell 0
    have d2 := c2.cell 0
    have x0 := bX.cell 0
    have x1 := bX.cell 1
    have x2 := bX.cell 2
    have x3 := bX.cell 3
    have x4 := bX.cell 4
    simp at d0 d2 x0 x1 x2 x3 x4
    have hlk : ∀ W', Below W.heap.size W W' → (W'.cell? ⟨w.heap.size, 0, none⟩ = some (.func (.func 69) #[] #[]) ∧ W'.cell? ⟨w.heap.size + 1 + 1, 0, none⟩ = some (.map (some (w.heap.size + 1)))) ∧ W'.cell? ⟨Bx, 0, none⟩ = some (.string xname) ∧ ∃ w2, (Instr.mapUpdate 52 (.map (some (w.heap.size + 1))) (.string xname) (.int .i64 (xi : Int))).run Tryz.prog W' = .ok () w2 ∧ MapN w2 (w.heap.size + 1) (pre.length + 1) (putN (FnX.look pre) xname.data.toList xi) ∧ W'.grownBy w2 (some (w.heap.size + 1)) := fun W' hB => by
      have e0 := (c0.below hB c0.lt).cell 0
      have e2 := (c2.below hB c2.lt).cell 0
      have eX := bX.below hB bX.lt
      have hm := cm.same (hB.block _ cm.lt)
      exact ⟨⟨e0, e2⟩, eX.cell 0, hm.put (by simp only [maxLen]; omega) xname xhs xi (by omega)⟩
    have hmx : Tryz.prog.follows .mixedOrders = true := by kernel_rfl
    gi_wp2
    gi_region_with_o
      (refine ⟨trivial, ?_⟩
       gi_at_call 69
       refine (CallsIn.inRound l (callsIn_wide.2 (funName_any ⟨xname, .mk [], .mk xkd xnu []⟩ (.slice xa1 xn1 xc1) (.slice xa2 xn2 xc2) ⟨_, _, _, rfl⟩ ⟨_, _, _, rfl⟩ _))).mono ?_
       rintro e w' ⟨rfl, hB⟩
       have hBW : Below W.heap.size W w' := (Below.refl W.heap.size W).drew.trans hB
       clear hB
       obtain ⟨⟨e0, e2⟩, eX, w2, hput, hm2, hg2⟩ := hlk w' hBW)
    all_goals gi_wp2
    all_goals
      exact ⟨KeepsFrom.trans ⟨hBW.size, fun k o _ hk _ => (hBW.block k (Array.getElem?_eq_some_iff.1 hk).1).trans hk⟩ (KeepsFrom.of_grownBy hg2 (fun j e => by injection e with e; omega)),
        ⟨(hBW.mono hz).grown hg2 (Nat.le_trans hz hBW.size) (fun j e => by injection e with e; omega), (hg2.block _ (by have := hBW.size; omega) (fun e => by injection e with e; omega)).trans (hBW.block _ hl3)⟩,
        ⟨(hg2.block _ (by have := hBW.size; omega) (fun e => by injection e with e; omega)).trans (c0.below hBW c0.lt), (hg2.block _ (by have := hBW.size; omega) (fun e => by injection e with e; omega)).trans (c2.below hBW c2.lt), (hg2.block _ (by have := hBW.size; omega) (fun e => by injection e with e; omega)).trans (c3.below hBW c3.lt)⟩,
        by rw [FnX.look_snoc, List.length_append]; exact hm2, (cB.trans (hBW.mono hz)).grown hg2 (Nat.le_trans hz hBW.size) (fun j e => by injection e with e; omega)⟩
  case done =>
    rintro D ys W hD rfl ⟨⟨c0, c2, c3⟩, cm, cB⟩ hK
    have d2 := c2.cell 0
    simp at d2
    gi_wp2
    refine ⟨by simp, .inl ⟨_, _, rfl, run_takeDeferred hK, ?_⟩⟩
    refine ⟨_, results_tmp rfl _ _ _, rfl, ?_, cB.trans (belowK_b (w := w) (Nat.le_refl _) W D _ _ (by omega) hK rfl rfl)⟩
    have := cm.kept (grownBy_putObj' W D (.deferred none)) (fun e => by injection e with e; omega)
    simpa using this
  case stop =>
    rintro D c pre W _ _ h _
    exact h.elim
end Go.Proofs.YtbbejhhohppdhaaGreatDoor
