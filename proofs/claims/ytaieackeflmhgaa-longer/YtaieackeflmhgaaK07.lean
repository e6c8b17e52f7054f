/-
  What happens in a model, plainly: events that wait, done one behind the other. Nothing of the program.
-/
import Derived.Test.YtaieackeflmhgaaK05
import Derived.Test.YtaieackeflmhgaaK06
namespace Go.Proofs.Ytaieackeflmhgaa
open Go.RowKit Go.Sort Go.Maps

structure Ev where
  it : It
  p : Int
  c : Int
structure Dn where
  it : It
  st : Int
structure Cs where
  wait : List Ev
  states : List Int
  seqs : List Int
  done : List (List Dn)
  causes : List (List Int)
  all : Nat

def np (m : Mdl) : Nat := m.procs.toNat
def initEv (i : Nat) (s : MStart) : Ev := ⟨⟨s.t, -1, i, s.l⟩, s.p, -1⟩
def c0 (m : Mdl) : Cs := ⟨m.starts.mapIdx initEv, List.replicate (np m) 0, List.replicate (np m) 0, List.replicate (np m) [], List.replicate (np m) [], 0⟩
def ruleAt (m : Mdl) (p s l : Int) : Option MRule := m.rules.find? (ruleFor p s l)
def linkTo (m : Mdl) (k : Int) : Int := match m.links[k.toNat]? with
  | some x => x.t
  | none => 0
def emit1 (m : Mdl) (e : Ev) (seq cause : Int) (i : Nat) (x : MEmit) : Ev := ⟨⟨e.it.t + x.d, e.p, seq + i, x.l⟩, linkTo m x.k, cause⟩
def emitted (m : Mdl) (e : Ev) (seq cause : Int) (es : List MEmit) : List Ev := es.mapIdx (emit1 m e seq cause)

/-- the j-th event that waits, e, is done -/
def doEv (m : Mdl) (c : Cs) (j : Nat) (e : Ev) : Cs :=
  match ruleAt m e.p (c.states.getD e.p.toNat 0) e.it.l with
  | none => ⟨c.wait.eraseIdx j, c.states, c.seqs, c.done.set e.p.toNat (c.done.getD e.p.toNat [] ++ [⟨e.it, c.states.getD e.p.toNat 0⟩]), c.causes.set e.p.toNat (c.causes.getD e.p.toNat [] ++ [e.c]), c.all + 1⟩
  | some r => ⟨c.wait.eraseIdx j ++ emitted m e (c.seqs.getD e.p.toNat 0) (c.done.getD e.p.toNat []).length r.es, c.states.set e.p.toNat r.n, c.seqs.set e.p.toNat (c.seqs.getD e.p.toNat 0 + r.es.length),
      c.done.set e.p.toNat (c.done.getD e.p.toNat [] ++ [⟨e.it, r.n⟩]), c.causes.set e.p.toNat (c.causes.getD e.p.toNat [] ++ [e.c]), c.all + 1⟩

def IsNx (en : Int) (wait : List Ev) (j : Nat) : Prop := ∃ e, wait[j]? = some e ∧ e.it.t < en ∧ ∀ y ∈ wait, y.it.t < en → ¬ y.it.lt e.it

def nxB (en : Int) (wait : List Ev) (j : Nat) : Bool := match wait[j]? with
  | some e => decide (e.it.t < en) && wait.all (fun y => !(decide (y.it.t < en)) || !(y.it.aheadB e.it))
  | none => false
def nx (en : Int) (wait : List Ev) : Option Nat := (List.range wait.length).find? (nxB en wait)

theorem nxB_iff {en : Int} {wait : List Ev} {j : Nat} : nxB en wait j = true ↔ IsNx en wait j := by
  unfold nxB IsNx
  cases hj : wait[j]? with
  | none => simp
  | some e =>
    have hb : ∀ y : Ev, (!(decide (y.it.t < en)) || !(y.it.aheadB e.it)) = true ↔ (y.it.t < en → ¬ y.it.lt e.it) := by
      intro y
      rw [← It.aheadB_iff]
      by_cases h1 : y.it.t < en <;> cases h2 : y.it.aheadB e.it <;> simp [h1]
    simp only [Bool.and_eq_true, decide_eq_true_eq, List.all_eq_true, hb, Option.some.injEq]
    constructor
    · rintro ⟨h1, h2⟩; exact ⟨e, rfl, h1, h2⟩
    · rintro ⟨e', rfl, h1, h2⟩; exact ⟨h1, h2⟩

def stepF (m : Mdl) (en : Int) (c : Cs) : Cs :=
  match nx en c.wait with
  | none => c
  | some j => match c.wait[j]? with
    | none => c
    | some e => doEv m c j e

def atK (m : Mdl) (en : Int) : Nat → Cs
  | 0 => c0 m
  | k + 1 => stepF m en (atK m en k)

def evKey (e : Ev) : Int × Int := (e.it.f, e.it.s)

theorem It.lt_total {x y : It} (h1 : ¬ x.lt y) (h2 : ¬ y.lt x) : x.f = y.f ∧ x.s = y.s := by
  unfold It.lt at *; omega

theorem nodup_idx {α β : Type} {f : α → β} {l : List α} (h : (l.map f).Nodup) {i j : Nat} {x y : α} (hi : l[i]? = some x) (hj : l[j]? = some y) (e : f x = f y) : i = j := by
  have hi' := get_lt hi
  have hj' := get_lt hj
  rw [List.nodup_iff_pairwise_ne, List.pairwise_iff_getElem] at h
  rw [List.getElem?_eq_getElem hi', Option.some.injEq] at hi
  rw [List.getElem?_eq_getElem hj', Option.some.injEq] at hj
  rcases Nat.lt_trichotomy i j with k | k | k
  · exact absurd (by rw [List.getElem_map, List.getElem_map, hi, hj]; exact e) (h i j (by simpa using hi') (by simpa using hj') k)
  · exact k
  · exact absurd (by rw [List.getElem_map, List.getElem_map, hi, hj]; exact e.symm) (h j i (by simpa using hj') (by simpa using hi') k)

theorem IsNx.unique {en : Int} {wait : List Ev} (h : (wait.map evKey).Nodup) {i j : Nat} (hi : IsNx en wait i) (hj : IsNx en wait j) : i = j := by
  obtain ⟨x, hx, tx, lx⟩ := hi
  obtain ⟨y, hy, ty, ly⟩ := hj
  have h1 := lx y (List.mem_of_getElem? hy) ty
  have h2 := ly x (List.mem_of_getElem? hx) tx
  obtain ⟨e1, e2⟩ := It.lt_total h2 h1
  exact nodup_idx h hx hy (by simp [evKey, e1, e2])

theorem nx_some {en : Int} {wait : List Ev} (h : (wait.map evKey).Nodup) {j : Nat} (hj : IsNx en wait j) : nx en wait = some j := by
  unfold nx
  cases hf : (List.range wait.length).find? (nxB en wait) with
  | none =>
    have hl : j < wait.length := by
      obtain ⟨e, he, _⟩ := hj
      exact get_lt he
    exact absurd (nxB_iff.2 hj) (List.find?_eq_none.1 hf j (by simpa using hl))
  | some i =>
    have := List.find?_some hf
    rw [IsNx.unique h (nxB_iff.1 this) hj]

theorem nx_none {en : Int} {wait : List Ev} (h : ∀ e ∈ wait, en ≤ e.it.t) : nx en wait = none := by
  unfold nx
  rw [List.find?_eq_none]
  intro j _ hj
  obtain ⟨e, he, ht, _⟩ := nxB_iff.1 hj
  have := h e (List.mem_of_getElem? he)
  omega

theorem stepF_some {m : Mdl} {en : Int} {c : Cs} {j : Nat} {e : Ev} (h : nx en c.wait = some j) (he : c.wait[j]? = some e) : stepF m en c = doEv m c j e := by
  simp only [stepF, h, he]

/-- the invariant of the course -/
structure Inv (m : Mdl) (c : Cs) : Prop where
  ls : c.states.length = np m
  lq : c.seqs.length = np m
  ld : c.done.length = np m
  lc : c.causes.length = np m
  sq : ∀ (p : Nat) (q : Int), c.seqs[p]? = some q → 0 ≤ q ∧ q ≤ 4 * (c.all : Int)
  ev : ∀ e ∈ c.wait, 0 ≤ e.p ∧ e.p < m.procs ∧ 0 ≤ e.it.t ∧ e.it.t ≤ 260 ∧ ((e.it.f = -1) ∨ (0 ≤ e.it.f ∧ ∃ q, c.seqs[e.it.f.toNat]? = some q ∧ e.it.s < q))
  keys : (c.wait.map evKey).Nodup
  len : c.wait.length ≤ 12 + 4 * c.all
  dl : ∀ (p : Nat) (l : List Dn), c.done[p]? = some l → l.length ≤ c.all
  cl : ∀ (p : Nat) (l : List Int), c.causes[p]? = some l → l.length ≤ c.all

theorem Right.start {m : Mdl} (h : Right m) {j : Nat} {s : MStart} (hs : m.starts[j]? = some s) : 0 ≤ s.p ∧ s.p < m.procs ∧ 0 ≤ s.t ∧ s.t ≤ 200 ∧ 0 ≤ s.l ∧ s.l < m.loads := by
  have := h.starts j s hs
  simp only [startBad, isP, isL, withinB, Bool.or_eq_false_iff, Bool.not_eq_false', Bool.and_eq_true, decide_eq_true_eq] at this
  omega

theorem ruleAt_mem {m : Mdl} {p s l : Int} {r : MRule} (h : ruleAt m p s l = some r) : ∃ i : Nat, m.rules[i]? = some r ∧ ruleFor p s l r = true := by
  unfold ruleAt at h
  have h1 := List.mem_of_find?_eq_some h
  obtain ⟨i, hi⟩ := List.getElem?_of_mem h1
  exact ⟨i, hi, List.find?_some h⟩

theorem ruleOk_of_good {m : Mdl} {i : Nat} {r : MRule} (hr : m.rules[i]? = some r) (h : goodRule m i = true) : ruleOk m r = true := by
  rw [goodRule_at hr, Bool.and_eq_true] at h
  exact h.1

theorem Right.rule {m : Mdl} (h : Right m) {i : Nat} {r : MRule} (hr : m.rules[i]? = some r) : ruleOk m r = true := ruleOk_of_good hr (h.rules i (get_lt hr))

theorem ruleOk_iff {m : Mdl} {r : MRule} (h : ruleOk m r = true) : (0 ≤ r.p ∧ r.p < m.procs) ∧ (0 ≤ r.s ∧ r.s < m.states) ∧ (0 ≤ r.l ∧ r.l < m.loads) ∧ (0 ≤ r.n ∧ r.n < m.states) ∧ r.es.length ≤ 4 ∧ ∀ x ∈ r.es, emitOk m r.p x = true := by
  simp only [ruleOk, isP, isS, isL, withinB, Bool.and_eq_true, decide_eq_true_eq, List.all_eq_true] at h
  obtain ⟨⟨⟨⟨⟨⟨a, b⟩, c, d⟩, e, f⟩, g, i⟩, j⟩, k⟩ := h
  exact ⟨⟨a, by omega⟩, ⟨c, by omega⟩, ⟨e, by omega⟩, ⟨g, by omega⟩, j, k⟩

theorem emitOk_iff {m : Mdl} {p : Int} {x : MEmit} (h : emitOk m p x = true) : ∃ y, m.links[x.k.toNat]? = some y ∧ 0 ≤ x.k ∧ x.k < m.links.length ∧ y.f = p ∧ y.a ≤ x.d ∧ x.d ≤ 60 ∧ 0 ≤ x.l ∧ x.l < m.loads := by
  unfold emitOk at h
  by_cases hk : withinB x.k 0 ((m.links.length : Int) - 1) = true
  · rw [if_pos hk] at h
    have hk2 := withinB_iff.1 hk
    cases hy : m.links[x.k.toNat]? with
    | none => rw [hy] at h; cases h
    | some y =>
      rw [hy] at h
      simp only [isL, withinB, Bool.and_eq_true, decide_eq_true_eq] at h
      obtain ⟨⟨a, b, c⟩, d, e⟩ := h
      exact ⟨y, rfl, hk2.1, by omega, a, b, c, d, by omega⟩
  · rw [if_neg hk] at h; cases h

theorem Right.link {m : Mdl} (h : Right m) {j : Nat} {y : MLink} (hy : m.links[j]? = some y) : 0 ≤ y.f ∧ y.f < m.procs ∧ 0 ≤ y.t ∧ y.t < m.procs ∧ 1 ≤ y.a ∧ y.a ≤ 50 := by
  have := h.links j y hy
  simp only [linkBad, isP, withinB, Bool.or_eq_false_iff, Bool.not_eq_false', Bool.and_eq_true, decide_eq_true_eq] at this
  omega

theorem linkTo_at {m : Mdl} {k : Int} {y : MLink} (h : m.links[k.toNat]? = some y) : linkTo m k = y.t := by simp [linkTo, h]

theorem emitted_get {m : Mdl} {e : Ev} {seq cause : Int} {es : List MEmit} {i : Nat} {y : Ev} (h : (emitted m e seq cause es)[i]? = some y) : ∃ x, es[i]? = some x ∧ y = emit1 m e seq cause i x := by
  unfold emitted at h
  rw [List.getElem?_mapIdx] at h
  obtain ⟨x, hx, rfl⟩ := Option.map_eq_some_iff.1 h
  exact ⟨x, hx, rfl⟩

theorem inv_c0 {m : Mdl} (h : Right m) : Inv m (c0 m) := by
  have hn := h.lim.ns
  refine ⟨by simp [c0], by simp [c0], by simp [c0], by simp [c0], ?_, ?_, ?_, by simp [c0]; omega, ?_, ?_⟩
  · intro p q hq
    have := List.mem_of_getElem? hq
    simp only [c0, List.mem_replicate] at this
    have := this.2; simp [c0]; omega
  · intro e he
    obtain ⟨i, hi⟩ := List.getElem?_of_mem he
    simp only [c0, List.getElem?_mapIdx] at hi
    obtain ⟨s, hs, rfl⟩ := Option.map_eq_some_iff.1 hi
    have := h.start hs
    exact ⟨this.1, this.2.1, this.2.2.1, by simp only [initEv]; omega, .inl rfl⟩
  · rw [List.nodup_iff_pairwise_ne, List.pairwise_iff_getElem]
    intro i j hi hj hij
    simp only [c0, List.getElem_map, List.getElem_mapIdx, evKey, initEv]
    intro e
    simp only [Prod.mk.injEq] at e
    omega
  · intro p l hl
    have := List.mem_of_getElem? hl
    simp only [c0, List.mem_replicate] at this
    rw [this.2]; simp
  · intro p l hl
    have := List.mem_of_getElem? hl
    simp only [c0, List.mem_replicate] at this
    rw [this.2]; simp

theorem nodup_append' {α : Type} {a b : List α} (ha : a.Nodup) (hb : b.Nodup) (h : ∀ x ∈ a, x ∉ b) : (a ++ b).Nodup := by
  rw [List.nodup_append]
  exact ⟨ha, hb, fun x hx y hy e => h x hx (e ▸ hy)⟩

theorem set_get {α : Type} {l : List α} {i j : Nat} {v x : α} (h : (l.set i v)[j]? = some x) : (j = i ∧ x = v) ∨ (j ≠ i ∧ l[j]? = some x) := by
  by_cases e : j = i
  · subst e
    have := get_lt h
    rw [List.length_set] at this
    rw [List.getElem?_set_self this] at h
    cases h
    exact .inl ⟨rfl, rfl⟩
  · rw [List.getElem?_set_ne (by omega)] at h
    exact .inr ⟨e, h⟩

theorem inv_do {m : Mdl} {c : Cs} (hm : Right m) (h : Inv m c) {en : Int} (hen : en ≤ 200) {j : Nat} {e : Ev} (he : c.wait[j]? = some e) (ht : e.it.t < en) : Inv m (doEv m c j e) := by
  have hmem : ∀ y ∈ c.wait.eraseIdx j, y ∈ c.wait := fun y hy => (List.eraseIdx_sublist _ _).subset hy
  have hk : ((c.wait.eraseIdx j).map evKey).Nodup := (((List.eraseIdx_sublist c.wait j).map evKey).nodup h.keys)
  have hj := get_lt he
  have hlen : (c.wait.eraseIdx j).length = c.wait.length - 1 := List.length_eraseIdx_of_lt hj
  obtain ⟨ep0, ep1, et0, et1, -⟩ := h.ev e (List.mem_of_getElem? he)
  have hp2 := hm.lim.p2
  have hpn : e.p.toNat < np m := by unfold np; omega
  have hL := h.len
  unfold doEv
  split
  · refine ⟨h.ls, h.lq, by simp [h.ld], by simp [h.lc], ?_, ?_, hk, ?_, ?_, ?_⟩
    · intro p q hq
      have := h.sq p q hq
      simp only
      omega
    · intro y hy
      exact h.ev y (hmem y hy)
    · simp only; rw [hlen]; omega
    · intro p l hl
      simp only at hl ⊢
      rcases set_get hl with ⟨e1, e2⟩ | ⟨e1, e2⟩
      · rw [e2, List.length_append]
        have : (c.done.getD e.p.toNat []).length ≤ c.all := by
          obtain ⟨z, hz⟩ := get_of_lt (d := c.done) (k := e.p.toNat) (by rw [h.ld]; exact hpn)
          rw [List.getD_eq_getElem?_getD, hz]
          exact h.dl _ _ hz
        simp only [List.length_cons, List.length_nil]; omega
      · have := h.dl p l e2; omega
    · intro p l hl
      simp only at hl ⊢
      rcases set_get hl with ⟨e1, e2⟩ | ⟨e1, e2⟩
      · rw [e2, List.length_append]
        have : (c.causes.getD e.p.toNat []).length ≤ c.all := by
          obtain ⟨z, hz⟩ := get_of_lt (d := c.causes) (k := e.p.toNat) (by rw [h.lc]; exact hpn)
          rw [List.getD_eq_getElem?_getD, hz]
          exact h.cl _ _ hz
        simp only [List.length_cons, List.length_nil]; omega
      · have := h.cl p l e2; omega
  · rename_i r hr
    obtain ⟨ri, hri, hrf⟩ := ruleAt_mem hr
    have hro := ruleOk_iff (hm.rule hri)
    simp only [ruleFor, Bool.and_eq_true, decide_eq_true_eq] at hrf
    obtain ⟨sq, hsq⟩ := get_of_lt (d := c.seqs) (k := e.p.toNat) (by rw [h.lq]; exact hpn)
    have hsd : c.seqs.getD e.p.toNat 0 = sq := by rw [List.getD_eq_getElem?_getD, hsq]; rfl
    have hsb := h.sq _ _ hsq
    rw [hsd]
    have hset : (c.seqs.set e.p.toNat (sq + (r.es.length : Int)))[e.p.toNat]? = some (sq + (r.es.length : Int)) := by
      rw [List.getElem?_set_self (get_lt hsq)]
    refine ⟨by simp [h.ls], by simp [h.lq], by simp [h.ld], by simp [h.lc], ?_, ?_, ?_, ?_, ?_, ?_⟩
    · intro p q hq
      simp only at hq ⊢
      rcases set_get hq with ⟨e1, e2⟩ | ⟨e1, e2⟩
      · have := hro.2.2.2.2.1; omega
      · have := h.sq p q e2; omega
    · intro y hy
      simp only at hy ⊢
      rcases List.mem_append.1 hy with hy | hy
      · obtain ⟨a1, a2, a3, a4, a5⟩ := h.ev y (hmem y hy)
        refine ⟨a1, a2, a3, a4, ?_⟩
        rcases a5 with a5 | ⟨a5, q, a6, a7⟩
        · exact .inl a5
        · refine .inr ⟨a5, ?_⟩
          by_cases hf : y.it.f.toNat = e.p.toNat
          · rw [hf] at a6 ⊢
            rw [hsq] at a6
            cases a6
            exact ⟨_, hset, by omega⟩
          · exact ⟨q, by rw [List.getElem?_set_ne (by omega)]; exact a6, a7⟩
      · obtain ⟨i, hi⟩ := List.getElem?_of_mem hy
        obtain ⟨x, hx, rfl⟩ := emitted_get hi
        have hxl := get_lt hx
        obtain ⟨z, z1, z2, z3, z4, z5, z6, _⟩ := emitOk_iff (hro.2.2.2.2.2 x (List.mem_of_getElem? hx))
        have hz := hm.link z1
        refine ⟨by simp only [emit1, linkTo_at z1]; omega, by simp only [emit1, linkTo_at z1]; omega, by simp only [emit1]; omega, by simp only [emit1]; omega, .inr ⟨ep0, _, hset, by simp only [emit1]; omega⟩⟩
    · simp only [List.map_append]
      refine nodup_append' hk ?_ ?_
      · rw [List.nodup_iff_pairwise_ne, List.pairwise_iff_getElem]
        intro i k hi hk' hik
        simp only [emitted, List.getElem_map, List.getElem_mapIdx, evKey, emit1]
        intro e'
        simp only [Prod.mk.injEq] at e'
        omega
      · intro kx hkx hky
        obtain ⟨y, hy, rfl⟩ := List.mem_map.1 hkx
        obtain ⟨z, hz, hzy⟩ := List.mem_map.1 hky
        obtain ⟨i, hi⟩ := List.getElem?_of_mem hz
        obtain ⟨x, hx, rfl⟩ := emitted_get hi
        simp only [evKey, emit1, Prod.mk.injEq] at hzy
        obtain ⟨_, _, _, _, a5⟩ := h.ev y (hmem y hy)
        rcases a5 with a5 | ⟨a5, q, a6, a7⟩
        · omega
        · rw [← hzy.1, hsq] at a6
          cases a6
          omega
    · simp only [List.length_append]
      rw [hlen]
      have : (emitted m e sq (c.done.getD e.p.toNat []).length r.es).length = r.es.length := by simp [emitted]
      rw [this]
      have := hro.2.2.2.2.1
      omega
    · intro p l hl
      simp only at hl ⊢
      rcases set_get hl with ⟨e1, e2⟩ | ⟨e1, e2⟩
      · rw [e2, List.length_append]
        have : (c.done.getD e.p.toNat []).length ≤ c.all := by
          obtain ⟨z, hz⟩ := get_of_lt (d := c.done) (k := e.p.toNat) (by rw [h.ld]; exact hpn)
          rw [List.getD_eq_getElem?_getD, hz]
          exact h.dl _ _ hz
        simp only [List.length_cons, List.length_nil]; omega
      · have := h.dl p l e2; omega
    · intro p l hl
      simp only at hl ⊢
      rcases set_get hl with ⟨e1, e2⟩ | ⟨e1, e2⟩
      · rw [e2, List.length_append]
        have : (c.causes.getD e.p.toNat []).length ≤ c.all := by
          obtain ⟨z, hz⟩ := get_of_lt (d := c.causes) (k := e.p.toNat) (by rw [h.lc]; exact hpn)
          rw [List.getD_eq_getElem?_getD, hz]
          exact h.cl _ _ hz
        simp only [List.length_cons, List.length_nil]; omega
      · have := h.cl p l e2; omega

theorem doEv_all (m : Mdl) (c : Cs) (j : Nat) (e : Ev) : (doEv m c j e).all = c.all + 1 := by
  unfold doEv; split <;> rfl

/-- never stuck below k -/
def Live (m : Mdl) (en : Int) (k : Nat) : Prop := ∀ i, i < k → nx en (atK m en i).wait ≠ none

/-- no more than 300 events -/
def Few (m : Mdl) (en : Int) : Prop := ∃ k, k ≤ 300 ∧ nx en (atK m en k).wait = none

theorem few_not {m : Mdl} {en : Int} (h : Live m en 301) : ¬ Few m en := fun ⟨k, hk, e⟩ => h k (by omega) e

end Go.Proofs.Ytaieackeflmhgaa

