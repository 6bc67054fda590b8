/-
  What the search for sorts comes to: the smallest assignment, or that there is none.
-/
import Derived.Test.YtkkfdiidneoelaaDoorIGraph
namespace Go.Proofs.YtkkfdiidneoelaaDoor

/-- One out of three lists, by kind and number. -/
def pickA {α : Type} (l0 l1 l2 : List α) (k n : Int) : Option α :=
  if n < 0 then none else if k = 0 then l0[n.toNat]? else if k = 1 then l1[n.toNat]? else if k = 2 then l2[n.toNat]? else none
theorem pickA_map {α β : Type} (f : α → β) (l0 l1 l2 : List α) (k n : Int) : pickA (l0.map f) (l1.map f) (l2.map f) k n = (pickA l0 l1 l2 k n).map f := by
  unfold pickA
  repeat' split
  all_goals simp
theorem pickA_H (l0 l1 l2 : List S) (k n : Int) : pickA l0 l1 l2 k n = pickH l0 l1 l2 k n := rfl
theorem pickA_mem {α : Type} {P : α → Prop} {l0 l1 l2 : List α} (h0 : ∀ x ∈ l0, P x) (h1 : ∀ x ∈ l1, P x) (h2 : ∀ x ∈ l2, P x) {k n : Int} {x : α} (h : pickA l0 l1 l2 k n = some x) : P x := by
  unfold pickA at h
  repeat' split at h
  · cases h
  · exact h0 x (List.mem_of_getElem? h)
  · exact h1 x (List.mem_of_getElem? h)
  · exact h2 x (List.mem_of_getElem? h)
  · cases h

/-- The trees of heads, by those of nodes. -/
def hvOf (hs : Int → Int → Option Nat) (v : Nat → D) (k n : Int) : Option D := (hs k n).map v
theorem hvOf_eq {hs : Int → Int → Option Nat} {v u : Nat → D} {m : Nat} (hm : ∀ k n x, hs k n = some x → x < m) (h : ∀ x, x < m → u x = v x) : hvOf hs u = hvOf hs v := by
  funext k n
  unfold hvOf
  cases hk : hs k n with
  | none => rfl
  | some x => simp [h x (hm k n x hk)]

/-- A graph goes on: what is new takes no trees away. -/
structure On (G G' : Gr) (v v' : Nat → D) : Prop where
  sol : Sol G' v'
  old : ∀ x, x < G.length → v' x = v x
  fin : (∀ x, x < G.length → (v x).fin) → ∀ x, x < G'.length → (v' x).fin
theorem On.refl {G : Gr} {v : Nat → D} (h : Sol G v) : On G G v v := ⟨h, fun _ _ => rfl, fun h => h⟩
theorem On.trans {G G1 G2 : Gr} {v v1 v2 : Nat → D} (hl : G.length ≤ G1.length) (h : On G G1 v v1) (k : On G1 G2 v1 v2) : On G G2 v v2 :=
  ⟨k.sol, fun x hx => (k.old x (by omega)).trans (h.old x hx), fun hf => k.fin (h.fin hf)⟩

/-- A term's node. -/
structure Typed (G G' : Gr) (hs : Int → Int → Option Nat) (t : T) (r : Nat) : Prop where
  good : Good G'
  len : G.length ≤ G'.length
  lt : r < G'.length
  back : ∀ v, Sol G' v → Sol G v ∧ t.has (hvOf hs v) (v r)
  on : ∀ v s, Sol G v → t.has (hvOf hs v) s → ∃ v', On G G' v v' ∧ v' r = s
/-- The node behind some arguments. -/
structure TypedL (G G' : Gr) (hs : Int → Int → Option Nat) (l : List T) (g r : Nat) : Prop where
  good : Good G'
  len : G.length ≤ G'.length
  lt : r < G'.length
  back : ∀ v, Sol G' v → Sol G v ∧ T.hasL (hvOf hs v) l (v g) (v r)
  on : ∀ v s, Sol G v → T.hasL (hvOf hs v) l (v g) s → ∃ v', On G G' v v' ∧ v' r = s
theorem TypedL.nil {G : Gr} (hg : Good G) {hs : Int → Int → Option Nat} {g : Nat} (h : g < G.length) : TypedL G G hs [] g g :=
  ⟨hg, Nat.le_refl _, h, fun _ hv => ⟨hv, rfl⟩, fun v _ hv hs => ⟨v, .refl hv, hs⟩⟩
theorem TypedL.typed {G G' : Gr} {hs : Int → Int → Option Nat} {k n : Int} {l : List T} {g r : Nat} (hk : hs k n = some g) (h : TypedL G G' hs l g r) : Typed G G' hs (.mk k n l) r := by
  refine ⟨h.good, h.len, h.lt, fun v hv => ⟨(h.back v hv).1, ?_⟩, fun v s hv ht => ?_⟩
  · simp only [T.has]
    exact ⟨v g, by simp [hvOf, hk], (h.back v hv).2⟩
  · simp only [T.has] at ht
    obtain ⟨d, h1, h2⟩ := ht
    simp [hvOf, hk] at h1
    subst h1
    exact h.on v s hv h2
/-- A term of no tree. -/
def NoTy (G : Gr) (hs : Int → Int → Option Nat) (t : T) : Prop := ∀ v s, Sol G v → ¬ t.has (hvOf hs v) s
def NoTyL (G : Gr) (hs : Int → Int → Option Nat) (l : List T) (g : Nat) : Prop := ∀ v s, Sol G v → ¬ T.hasL (hvOf hs v) l (v g) s
theorem NoTyL.no {G : Gr} {hs : Int → Int → Option Nat} {k n : Int} {l : List T} {g : Nat} (hk : hs k n = some g) (h : NoTyL G hs l g) : NoTy G hs (.mk k n l) := by
  intro v s hv ht
  simp only [T.has] at ht
  obtain ⟨d, h1, h2⟩ := ht
  simp [hvOf, hk] at h1
  subst h1
  exact h v s hv h2
section
variable {G G1 G2 G3 : Gr} {hs : Int → Int → Option Nat} {l : List T} {x : T} {g r a : Nat}
/-- The two nodes of an argument. -/
def withArg (G : Gr) (a : Nat) : Gr := (G ++ [.open_]) ++ [.arrow a G.length]
theorem withArg_len (G : Gr) (a : Nat) : (withArg G a).length = G.length + 2 := by simp [withArg]
theorem withArg_good (h : Good G) (ha : a < G.length) : Good (withArg G a) := by
  refine (h.more (d := .open_) rfl fun _ _ h => by cases h).more rfl fun p q h => ?_
  cases h
  simp
  omega
theorem withArg_sol {v : Nat → D} : Sol (withArg G a) v ↔ Sol G v ∧ v (G.length + 1) = D.arr (v a) (v G.length) := by
  unfold withArg
  rw [Sol.more, Sol.more]
  simp [Nd.says]
theorem TypedL.snoc (hm : ∀ k n x, hs k n = some x → x < G.length) (h : TypedL G G1 hs l g r) (hx : Typed G1 G2 hs x a) (j : Joined (withArg G2 a) G3 r (G2.length + 1) true) :
    TypedL G G3 hs (l ++ [x]) g G2.length := by
  have hl3 := j.len
  rw [withArg_len] at hl3
  have hl1 := h.len
  have hl2 := hx.len
  refine ⟨j.good, by omega, by omega, fun v hv => ?_, fun v s hv ht => ?_⟩
  · obtain ⟨h1, h2⟩ := (j.yes rfl v).1 hv
    obtain ⟨h3, h4⟩ := withArg_sol.1 h1
    obtain ⟨h5, h6⟩ := hx.back v h3
    obtain ⟨h7, h8⟩ := h.back v h5
    exact ⟨h7, T.hasL_append.2 ⟨_, h8, T.hasL_one.2 ⟨_, h6, h2.trans h4⟩⟩⟩
  · obtain ⟨e, h1, h2⟩ := T.hasL_append.1 ht
    obtain ⟨a', h3, rfl⟩ := T.hasL_one.1 h2
    obtain ⟨v1, o1, e1⟩ := h.on v _ hv h1
    rw [← hvOf_eq hm o1.old] at h3
    obtain ⟨v2, o2, e2⟩ := hx.on v1 a' o1.sol h3
    have hr : r < G2.length := by have := h.lt; omega
    have ha := hx.lt
    let v3 : Nat → D := fun y => if y = G2.length then s else if y = G2.length + 1 then D.arr a' s else v2 y
    have q : ∀ y, y < G2.length → v3 y = v2 y := fun y hy => by
      show (if y = G2.length then s else if y = G2.length + 1 then D.arr a' s else v2 y) = _
      rw [if_neg (by omega), if_neg (by omega)]
    have q1 : v3 G2.length = s := by show (if _ then _ else _) = _; rw [if_pos rfl]
    have q2 : v3 (G2.length + 1) = D.arr a' s := by show (if _ then _ else _) = _; rw [if_neg (by omega), if_pos rfl]
    have s3 : Sol (withArg G2 a) v3 := withArg_sol.2 ⟨o2.sol.congr hx.good q, by rw [q1, q2, q a ha, e2]⟩
    refine ⟨v3, ⟨(j.yes rfl v3).2 ⟨s3, ?_⟩, fun y hy => ?_, fun hf y hy => ?_⟩, q1⟩
    · rw [q r hr, q2, o2.old r h.lt, e1]
    · rw [q y (by omega), o2.old y (by omega), o1.old y hy]
    · have hf1 := o1.fin hf
      have hf2 := o2.fin hf1
      have hs := hf1 r h.lt
      rw [e1] at hs
      rcases Nat.lt_or_ge y G2.length with hlt | hge
      · rw [q y hlt]; exact hf2 y hlt
      · rcases Nat.eq_or_lt_of_le hge with rfl | hgt
        · rw [q1]; exact (D.fin_parts hs).2
        · have : y = G2.length + 1 := by omega
          subst this
          rw [q2]; exact hs
theorem NoTyL.arg (hm : ∀ k n x, hs k n = some x → x < G.length) (h : TypedL G G1 hs l g r) (hx : NoTy G1 hs x) (rest : List T) : NoTyL G hs (l ++ x :: rest) g := by
  intro v s hv ht
  obtain ⟨e, h1, h2⟩ := T.hasL_append.1 ht
  simp only [T.hasL] at h2
  obtain ⟨a', b', h3, rfl, _⟩ := h2
  obtain ⟨v1, o1, e1⟩ := h.on v _ hv h1
  rw [← hvOf_eq hm o1.old] at h3
  exact hx v1 a' o1.sol h3
theorem NoTyL.join (hm : ∀ k n x, hs k n = some x → x < G.length) (h : TypedL G G1 hs l g r) (hx : Typed G1 G2 hs x a) (j : Joined (withArg G2 a) G3 r (G2.length + 1) false) (rest : List T) :
    NoTyL G hs (l ++ x :: rest) g := by
  intro v s hv ht
  have hl1 := h.len
  have hl2 := hx.len
  obtain ⟨e, h1, h2⟩ := T.hasL_append.1 ht
  simp only [T.hasL] at h2
  obtain ⟨a', b', h3, rfl, _⟩ := h2
  obtain ⟨v1, o1, e1⟩ := h.on v _ hv h1
  rw [← hvOf_eq hm o1.old] at h3
  obtain ⟨v2, o2, e2⟩ := hx.on v1 a' o1.sol h3
  have hr : r < G2.length := by have := h.lt; omega
  have ha := hx.lt
  let v3 : Nat → D := fun y => if y = G2.length then b' else if y = G2.length + 1 then D.arr a' b' else v2 y
  have q : ∀ y, y < G2.length → v3 y = v2 y := fun y hy => by
    show (if y = G2.length then b' else if y = G2.length + 1 then D.arr a' b' else v2 y) = _
    rw [if_neg (by omega), if_neg (by omega)]
  have q1 : v3 G2.length = b' := by show (if _ then _ else _) = _; rw [if_pos rfl]
  have q2 : v3 (G2.length + 1) = D.arr a' b' := by show (if _ then _ else _) = _; rw [if_neg (by omega), if_pos rfl]
  have s3 : Sol (withArg G2 a) v3 := withArg_sol.2 ⟨o2.sol.congr hx.good q, by rw [q1, q2, q a ha, e2]⟩
  exact j.no rfl v3 s3 (by rw [q r hr, q2, o2.old r h.lt, e1])
end

/-- A function without a sort: how many parameters, and its body. -/
abbrev Lo := Nat × T
/-- An assignment. -/
def Asg (ls : List Lo) (rs : List Nat) (a : List S) : Prop :=
  a.length = ls.length ∧ ∀ (j : Nat) (l : Lo) (s : S), ls[j]? = some l → a[j]? = some s → s.args.length = l.1 ∧ l.2.ty (pickH s.args a (rs.map rankS)) = some (.mk [])
/-- The smallest assignment, or that there is none. -/
def Solves (ls : List Lo) (rs : List Nat) : Option (List S) → Prop
  | none => ∀ a, ¬ Asg ls rs a
  | some a => Asg ls rs a ∧ ∀ b, Asg ls rs b → ∀ (j : Nat) (s t : S), a[j]? = some s → b[j]? = some t → s.emb.le t.emb
theorem Solves.one {ls : List Lo} {rs : List Nat} {o p : Option (List S)} (ho : Solves ls rs o) (hp : Solves ls rs p) : o = p := by
  cases o with
  | none =>
    cases p with
    | none => rfl
    | some b => exact (ho b hp.1).elim
  | some a =>
    cases p with
    | none => exact (hp a ho.1).elim
    | some b =>
      congr 1
      refine List.ext_getElem? fun j => ?_
      have hl := ho.1.1
      have hl2 := hp.1.1
      rcases Nat.lt_or_ge j a.length with hlt | hge
      · have h1 : a[j]? = some a[j] := List.getElem?_eq_getElem hlt
        have h2 : b[j]? = some (b[j]'(by omega)) := List.getElem?_eq_getElem (by omega)
        rw [h1, h2]
        congr 1
        exact S.emb_inj (D.le_antisymm (ho.2 b hp.1 j _ _ h1 h2) (hp.2 a ho.1 j _ _ h2 h1))
      · rw [List.getElem?_eq_none hge, List.getElem?_eq_none (by omega)]

/-- The trees of a function and of what is in its body fit. -/
def BodyFits (fs ss : List Nat) (v : Nat → D) (f : Nat) (l : Lo) : Prop :=
  ∃ ds : List D, ds.length = l.1 ∧ v f = chainD ds D.o ∧ l.2.has (pickA ds (fs.map v) (ss.map v)) D.o
/-- The heads' nodes, ahead of the bodies. -/
structure Begun (ls : List Lo) (rs : List Nat) (fs ss : List Nat) (G : Gr) : Prop where
  good : Good G
  lf : fs.length = ls.length
  ls_ : ss.length = rs.length
  ltf : ∀ x ∈ fs, x < G.length
  lts : ∀ x ∈ ss, x < G.length
  syms : ∀ v, Sol G v → ∀ (j x r : Nat), ss[j]? = some x → rs[j]? = some r → v x = (rankS r).emb
  funs : ∀ v, Sol G v → ∀ (j f : Nat) (l : Lo), fs[j]? = some f → ls[j]? = some l → ∃ ds : List D, ds.length = l.1 ∧ v f = chainD ds D.o
  on : ∀ a : List S, a.length = ls.length → (∀ (j : Nat) (s : S) (l : Lo), a[j]? = some s → ls[j]? = some l → s.args.length = l.1) →
    ∃ v, Sol G v ∧ (∀ (j f : Nat) (s : S), fs[j]? = some f → a[j]? = some s → v f = s.emb) ∧ ∀ x, x < G.length → (v x).fin
/-- So many bodies are done. -/
structure Going (ls : List Lo) (fs ss : List Nat) (G0 : Gr) (i : Nat) (G : Gr) : Prop where
  good : Good G
  len : G0.length ≤ G.length
  back : ∀ v, Sol G v → Sol G0 v ∧ ∀ (j f : Nat) (l : Lo), j < i → fs[j]? = some f → ls[j]? = some l → BodyFits fs ss v f l
  on : ∀ v, Sol G0 v → (∀ (j f : Nat) (l : Lo), j < i → fs[j]? = some f → ls[j]? = some l → BodyFits fs ss v f l) → ∃ v', On G0 G v v'
theorem Going.start {ls : List Lo} {fs ss : List Nat} {G : Gr} (hg : Good G) : Going ls fs ss G 0 G :=
  ⟨hg, Nat.le_refl _, fun v hv => ⟨hv, fun j _ _ hj => absurd hj (by omega)⟩, fun v hv _ => ⟨v, .refl hv⟩⟩
theorem Going.alike {ls : List Lo} {fs ss : List Nat} {G0 G G' : Gr} {i : Nat} (h : Going ls fs ss G0 i G) (ha : Alike G G') : Going ls fs ss G0 i G' := by
  have hl := ha.len
  refine ⟨ha.good, by have := h.len; omega, fun v hv => h.back v ((ha.sol v).1 hv), fun v hv hb => ?_⟩
  obtain ⟨v', o⟩ := h.on v hv hb
  exact ⟨v', (ha.sol v').2 o.sol, o.old, fun hf x hx => o.fin hf x (by omega)⟩
theorem map_eq_of {l : List Nat} {v u : Nat → D} {m : Nat} (hl : ∀ x ∈ l, x < m) (h : ∀ x, x < m → u x = v x) : l.map u = l.map v :=
  List.map_congr_left fun x hx => h x (hl x hx)
theorem BodyFits.congr {fs ss : List Nat} {v u : Nat → D} {m f : Nat} {l : Lo} (hf : ∀ x ∈ fs, x < m) (hs : ∀ x ∈ ss, x < m) (hff : f < m) (h : ∀ x, x < m → u x = v x) (hb : BodyFits fs ss v f l) : BodyFits fs ss u f l := by
  obtain ⟨ds, h1, h2, h3⟩ := hb
  exact ⟨ds, h1, (h f hff).trans h2, by rw [map_eq_of hf h, map_eq_of hs h]; exact h3⟩
section
variable {ls : List Lo} {rs fs ss qs : List Nat} {G0 G G1 Gx G2 : Gr} {i f r z : Nat} {l : Lo}
theorem hv_pick {qs fs ss : List Nat} {v : Nat → D} : hvOf (pickA qs fs ss) v = pickA (qs.map v) (fs.map v) (ss.map v) := by
  funext k n
  unfold hvOf
  rw [pickA_map]
/-- A body's node is o. -/
theorem Going.body (h0 : Begun ls rs fs ss G0) (h : Going ls fs ss G0 i G) (hf : fs[i]? = some f) (hl : ls[i]? = some l) (has : qs.length = l.1)
    (hchain : ∀ v, Sol G v → ∃ e, v f = chainD (qs.map v) e) (ht : Typed G G1 (pickA qs fs ss) l.2 r)
    (hxl : G1.length ≤ Gx.length) (hxb : ∀ v, Sol Gx v → Sol G1 v ∧ v z = D.o) (hxo : ∀ v, Sol G1 v → ∃ v', On G1 Gx v v')
    (j : Joined Gx G2 r z true) : Going ls fs ss G0 (i + 1) G2 := by
  have hl2 := j.len
  have hlG := h.len
  have hlG1 := ht.len
  have hfm : f ∈ fs := List.mem_of_getElem? hf
  have hfl := h0.ltf f hfm
  have hds : ∀ v, Sol G v → ∀ ds : List D, ds.length = l.1 → v f = chainD ds D.o → qs.map v = ds := by
    intro v hv ds hd1 hd2
    obtain ⟨e, he⟩ := hchain v hv
    exact (chainD_inj (by simp [has, hd1]) (he.symm.trans hd2)).1
  refine ⟨j.good, by omega, fun v hv => ?_, fun v hv hb => ?_⟩
  · obtain ⟨h1, h2⟩ := (j.yes rfl v).1 hv
    obtain ⟨h3, h4⟩ := hxb v h1
    obtain ⟨h5, h6⟩ := ht.back v h3
    obtain ⟨h7, h8⟩ := h.back v h5
    refine ⟨h7, fun k f' l' hk hf' hl' => ?_⟩
    rcases Nat.lt_or_ge k i with hlt | hge
    · exact h8 k f' l' hlt hf' hl'
    · have : k = i := by omega
      subst this
      rw [hf] at hf'
      rw [hl] at hl'
      cases hf'; cases hl'
      obtain ⟨ds, hd1, hd2⟩ := h0.funs v h7 k f l hf hl
      refine ⟨ds, hd1, hd2, ?_⟩
      have e := hds v h5 ds hd1 hd2
      rw [hv_pick, e, h2, h4] at h6
      exact h6
  · obtain ⟨v1, o1⟩ := h.on v hv fun k f' l' hk => hb k f' l' (by omega)
    have hb' := (hb i f l (by omega) hf hl).congr h0.ltf h0.lts hfl o1.old
    obtain ⟨ds, hd1, hd2, hd3⟩ := hb'
    have e := hds v1 o1.sol ds hd1 hd2
    rw [← e, ← hv_pick] at hd3
    obtain ⟨v2, o2, e2⟩ := ht.on v1 D.o o1.sol hd3
    obtain ⟨v3, o3⟩ := hxo v2 o2.sol
    have o := (o1.trans hlG (o2.trans hlG1 o3))
    have hjs := (j.yes rfl v3).2 ⟨o3.sol, by rw [o3.old r ht.lt, e2, (hxb v3 o3.sol).2]⟩
    exact ⟨v3, hjs, o.old, fun hfi x hx => o.fin hfi x (by omega)⟩
theorem Begun.fits (h0 : Begun ls rs fs ss G0) {a : List S} (ha : Asg ls rs a) : ∃ v, Sol G0 v ∧ (∀ x, x < G0.length → (v x).fin) ∧ (∀ (j f : Nat) (s : S), fs[j]? = some f → a[j]? = some s → v f = s.emb) ∧
    ∀ (j f : Nat) (l : Lo), fs[j]? = some f → ls[j]? = some l → BodyFits fs ss v f l := by
  obtain ⟨ha1, ha2⟩ := ha
  obtain ⟨v, hv1, hv2, hv3⟩ := h0.on a ha1 fun j s l hs hl => (ha2 j l s hl hs).1
  refine ⟨v, hv1, hv3, hv2, fun j f l hf hl => ?_⟩
  have hja : j < a.length := by rw [ha1]; exact (List.getElem?_eq_some_iff.1 hl).1
  have hs : a[j]? = some a[j] := List.getElem?_eq_getElem hja
  obtain ⟨h1, h2⟩ := ha2 j l _ hl hs
  refine ⟨a[j].args.map S.emb, by simp [h1], by rw [hv2 j f _ hf hs, ← emb_chain, S.eta], ?_⟩
  have e1 : fs.map v = a.map S.emb := by
    refine List.ext_getElem? fun k => ?_
    simp only [List.getElem?_map]
    rcases Nat.lt_or_ge k fs.length with hlt | hge
    · have hk : fs[k]? = some fs[k] := List.getElem?_eq_getElem hlt
      have hk2 : a[k]? = some (a[k]'(by rw [ha1, ← h0.lf]; exact hlt)) := List.getElem?_eq_getElem _
      rw [hk, hk2]
      simp [hv2 k _ _ hk hk2]
    · rw [List.getElem?_eq_none hge, List.getElem?_eq_none (by rw [ha1, ← h0.lf]; exact hge)]; rfl
  have e2 : ss.map v = (rs.map rankS).map S.emb := by
    refine List.ext_getElem? fun k => ?_
    simp only [List.getElem?_map]
    rcases Nat.lt_or_ge k ss.length with hlt | hge
    · have hk : ss[k]? = some ss[k] := List.getElem?_eq_getElem hlt
      have hk2 : rs[k]? = some (rs[k]'(by rw [← h0.ls_]; exact hlt)) := List.getElem?_eq_getElem _
      rw [hk, hk2]
      simp [h0.syms v hv1 k _ _ hk hk2]
    · rw [List.getElem?_eq_none hge, List.getElem?_eq_none (by rw [← h0.ls_]; exact hge)]; rfl
  rw [e1, e2]
  exact (T.has_ty fun k n => by rw [pickA_map, pickA_H]).2 ⟨_, h2, by simp [S.emb, S.embL]⟩
/-- No assignment, where a body has no tree, or one other than o. -/
theorem Going.no_ (h0 : Begun ls rs fs ss G0) (h : Going ls fs ss G0 i G) (hf : fs[i]? = some f) (hl : ls[i]? = some l)
    (hno : ∀ v, Sol G v → ¬ BodyFits fs ss v f l) : Solves ls rs none := by
  intro a ha
  obtain ⟨v, hv1, _, _, hfit⟩ := h0.fits ha
  obtain ⟨v', o⟩ := h.on v hv1 fun j f l _ => hfit j f l
  exact hno v' o.sol ((hfit i f l hf hl).congr h0.ltf h0.lts (h0.ltf f (List.mem_of_getElem? hf)) o.old)
theorem Going.fails (h0 : Begun ls rs fs ss G0) (h : Going ls fs ss G0 i G) (hf : fs[i]? = some f) (hl : ls[i]? = some l) (has : qs.length = l.1)
    (hchain : ∀ v, Sol G v → ∃ e, v f = chainD (qs.map v) e) (hn : NoTy G (pickA qs fs ss) l.2) : Solves ls rs none := by
  refine h.no_ h0 hf hl fun v hv hb => ?_
  obtain ⟨ds, hd1, hd2, hd3⟩ := hb
  obtain ⟨e, he⟩ := hchain v hv
  have e := (chainD_inj (by simp [has, hd1]) (he.symm.trans hd2)).1
  rw [← e, ← hv_pick] at hd3
  exact hn v _ hv hd3
theorem Going.differs (h0 : Begun ls rs fs ss G0) (h : Going ls fs ss G0 i G) (hf : fs[i]? = some f) (hl : ls[i]? = some l) (has : qs.length = l.1)
    (hchain : ∀ v, Sol G v → ∃ e, v f = chainD (qs.map v) e) (ht : Typed G G1 (pickA qs fs ss) l.2 r)
    (hxb : ∀ v, Sol Gx v → v z = D.o) (hxo : ∀ v, Sol G1 v → ∃ v', On G1 Gx v v')
    (j : Joined Gx G2 r z false) : Solves ls rs none := by
  refine h.no_ h0 hf hl fun v hv hb => ?_
  obtain ⟨ds, hd1, hd2, hd3⟩ := hb
  obtain ⟨e, he⟩ := hchain v hv
  have e := (chainD_inj (by simp [has, hd1]) (he.symm.trans hd2)).1
  rw [← e, ← hv_pick] at hd3
  obtain ⟨v2, o2, e2⟩ := ht.on v D.o hv hd3
  obtain ⟨v3, o3⟩ := hxo v2 o2.sol
  exact j.no rfl v3 o3.sol (by rw [o3.old r ht.lt, e2, hxb v3 o3.sol])
/-- No assignment, where a node's tree is endless. -/
theorem Going.endless (h0 : Begun ls rs fs ss G0) (h : Going ls fs ss G0 ls.length G) {x : Nat} (hx : x < G.length) (hinf : ∀ v, Sol G v → ¬ (v x).fin) : Solves ls rs none := by
  intro a ha
  obtain ⟨v, hv1, hv2, _, hfit⟩ := h0.fits ha
  obtain ⟨v', o⟩ := h.on v hv1 fun j f l _ => hfit j f l
  exact hinf v' o.sol (o.fin hv2 x hx)
/-- The smallest assignment, where all functions' trees end. -/
theorem Going.found (h0 : Begun ls rs fs ss G0) (h : Going ls fs ss G0 ls.length G) {v : Nat → D} (hv : Can G v) {a : List S} (hla : a.length = fs.length)
    (ha : ∀ (j f : Nat) (s : S), fs[j]? = some f → a[j]? = some s → v f = s.emb) : Solves ls rs (some a) := by
  have hb := (h.back v hv.sol).2
  have e1 : fs.map v = a.map S.emb := by
    refine List.ext_getElem? fun k => ?_
    simp only [List.getElem?_map]
    rcases Nat.lt_or_ge k fs.length with hlt | hge
    · have hk : fs[k]? = some fs[k] := List.getElem?_eq_getElem hlt
      have hk2 : a[k]? = some (a[k]'(by omega)) := List.getElem?_eq_getElem _
      rw [hk, hk2]
      simp [ha k _ _ hk hk2]
    · rw [List.getElem?_eq_none hge, List.getElem?_eq_none (by omega)]; rfl
  have e2 : ss.map v = (rs.map rankS).map S.emb := by
    refine List.ext_getElem? fun k => ?_
    simp only [List.getElem?_map]
    rcases Nat.lt_or_ge k ss.length with hlt | hge
    · have hk : ss[k]? = some ss[k] := List.getElem?_eq_getElem hlt
      have hk2 : rs[k]? = some (rs[k]'(by rw [← h0.ls_]; exact hlt)) := List.getElem?_eq_getElem _
      rw [hk, hk2]
      simp [h0.syms v (h.back v hv.sol).1 k _ _ hk hk2]
    · rw [List.getElem?_eq_none hge, List.getElem?_eq_none (by rw [← h0.ls_]; exact hge)]; rfl
  refine ⟨⟨hla.trans h0.lf, fun j l s hl hs => ?_⟩, fun b hb j s t hs ht => ?_⟩
  · have hjl := (List.getElem?_eq_some_iff.1 hl).1
    have hf : fs[j]? = some (fs[j]'(by rw [h0.lf]; exact hjl)) := List.getElem?_eq_getElem _
    obtain ⟨ds, h1, h2, h3⟩ := hb j _ l hjl hf hl
    have e := chain_emb (h2.symm.trans (ha j _ s hf hs))
    refine ⟨by rw [← h1, e]; simp, ?_⟩
    rw [e, e1, e2] at h3
    obtain ⟨u, hu1, hu2⟩ := (T.has_ty (pick := pickH s.args a (rs.map rankS)) fun k n => by rw [pickA_map, pickA_H]).1 h3
    rw [hu1, S.emb_o hu2.symm]
  · obtain ⟨u, hu1, _, hu3, hfit⟩ := h0.fits hb
    obtain ⟨u', o⟩ := h.on u hu1 fun j f l _ => hfit j f l
    have hj : j < fs.length := by rw [← hla]; exact (List.getElem?_eq_some_iff.1 hs).1
    have hf : fs[j]? = some fs[j] := List.getElem?_eq_getElem hj
    have hlt := h0.ltf _ (List.mem_of_getElem? hf)
    have hlG := h.len
    intro p hp
    rw [← ha j _ s hf hs] at hp
    have := hv.le h.good o.sol p _ (by omega) hp
    rw [o.old _ hlt, hu3 j _ t hf ht] at this
    exact this
end
end Go.Proofs.YtkkfdiidneoelaaDoor
