/-
  What happens in a model, plainly: events that wait, done one behind the other. Nothing of the program.
  Without, item, same.
  Rows of one's own, of whatever is encoded in a fixed number of cells.
  A queue beside its list: what both hold.
-/
import Derived.Test.YtaieackeflmhgaaJ06
namespace Go.Proofs.Ytaieackeflmhgaa
open Go.RowKit Go.Sort Go.Maps

structure Ev where
  it : It
  p : Int
  c : Int
structure Dn where
  it : It
  st : Int
structure Cs where
  wait : List Ev
  states : List Int
  seqs : List Int
  done : List (List Dn)
  causes : List (List Int)
  all : Nat

def np (m : Mdl) : Nat := m.procs.toNat
def initEv (i : Nat) (s : MStart) : Ev := ⟨⟨s.t, -1, i, s.l⟩, s.p, -1⟩
def c0 (m : Mdl) : Cs := ⟨m.starts.mapIdx initEv, List.replicate (np m) 0, List.replicate (np m) 0, List.replicate (np m) [], List.replicate (np m) [], 0⟩
def ruleAt (m : Mdl) (p s l : Int) : Option MRule := m.rules.find? (ruleFor p s l)
def linkTo (m : Mdl) (k : Int) : Int := match m.links[k.toNat]? with
  | some x => x.t
  | none => 0
def emit1 (m : Mdl) (e : Ev) (seq cause : Int) (i : Nat) (x : MEmit) : Ev := ⟨⟨e.it.t + x.d, e.p, seq + i, x.l⟩, linkTo m x.k, cause⟩
def emitted (m : Mdl) (e : Ev) (seq cause : Int) (es : List MEmit) : List Ev := es.mapIdx (emit1 m e seq cause)

/-- the j-th event that waits, e, is done -/
def doEv (m : Mdl) (c : Cs) (j : Nat) (e : Ev) : Cs :=
  match ruleAt m e.p (c.states.getD e.p.toNat 0) e.it.l with
  | none => ⟨c.wait.eraseIdx j, c.states, c.seqs, c.done.set e.p.toNat (c.done.getD e.p.toNat [] ++ [⟨e.it, c.states.getD e.p.toNat 0⟩]), c.causes.set e.p.toNat (c.causes.getD e.p.toNat [] ++ [e.c]), c.all + 1⟩
  | some r => ⟨c.wait.eraseIdx j ++ emitted m e (c.seqs.getD e.p.toNat 0) (c.done.getD e.p.toNat []).length r.es, c.states.set e.p.toNat r.n, c.seqs.set e.p.toNat (c.seqs.getD e.p.toNat 0 + r.es.length),
      c.done.set e.p.toNat (c.done.getD e.p.toNat [] ++ [⟨e.it, r.n⟩]), c.causes.set e.p.toNat (c.causes.getD e.p.toNat [] ++ [e.c]), c.all + 1⟩

def IsNx (en : Int) (wait : List Ev) (j : Nat) : Prop := ∃ e, wait[j]? = some e ∧ e.it.t < en ∧ ∀ y ∈ wait, y.it.t < en → ¬ y.it.lt e.it

def nxB (en : Int) (wait : List Ev) (j : Nat) : Bool := match wait[j]? with
  | some e => decide (e.it.t < en) && wait.all (fun y => !(decide (y.it.t < en)) || !(y.it.aheadB e.it))
  | none => false
def nx (en : Int) (wait : List Ev) : Option Nat := (List.range wait.length).find? (nxB en wait)

theorem nxB_iff {en : Int} {wait : List Ev} {j : Nat} : nxB en wait j = true ↔ IsNx en wait j := by
  unfold nxB IsNx
  cases hj : wait[j]? with
  | none => simp
  | some e =>
    have hb : ∀ y : Ev, (!(decide (y.it.t < en)) || !(y.it.aheadB e.it)) = true ↔ (y.it.t < en → ¬ y.it.lt e.it) := by
      intro y
      rw [← It.aheadB_iff]
      by_cases h1 : y.it.t < en <;> cases h2 : y.it.aheadB e.it <;> simp [h1]
    simp only [Bool.and_eq_true, decide_eq_true_eq, List.all_eq_true, hb, Option.some.injEq]
    constructor
    · rintro ⟨h1, h2⟩; exact ⟨e, rfl, h1, h2⟩
    · rintro ⟨e', rfl, h1, h2⟩; exact ⟨h1, h2⟩

def stepF (m : Mdl) (en : Int) (c : Cs) : Cs :=
  match nx en c.wait with
  | none => c
  | some j => match c.wait[j]? with
    | none => c
    | some e => doEv m c j e

def atK (m : Mdl) (en : Int) : Nat → Cs
  | 0 => c0 m
  | k + 1 => stepF m en (atK m en k)

def evKey (e : Ev) : Int × Int := (e.it.f, e.it.s)

theorem It.lt_total {x y : It} (h1 : ¬ x.lt y) (h2 : ¬ y.lt x) : x.f = y.f ∧ x.s = y.s := by
  unfold It.lt at *; omega

theorem nodup_idx {α β : Type} {f : α → β} {l : List α} (h : (l.map f).Nodup) {i j : Nat} {x y : α} (hi : l[i]? = some x) (hj : l[j]? = some y) (e : f x = f y) : i = j := by
  have hi' := get_lt hi
  have hj' := get_lt hj
  rw [List.nodup_iff_pairwise_ne, List.pairwise_iff_getElem] at h
  rw [List.getElem?_eq_getElem hi', Option.some.injEq] at hi
  rw [List.getElem?_eq_getElem hj', Option.some.injEq] at hj
  rcases Nat.lt_trichotomy i j with k | k | k
  · exact absurd (by rw [List.getElem_map, List.getElem_map, hi, hj]; exact e) (h i j (by simpa using hi') (by simpa using hj') k)
  · exact k
  · exact absurd (by rw [List.getElem_map, List.getElem_map, hi, hj]; exact e.symm) (h j i (by simpa using hj') (by simpa using hi') k)

theorem IsNx.unique {en : Int} {wait : List Ev} (h : (wait.map evKey).Nodup) {i j : Nat} (hi : IsNx en wait i) (hj : IsNx en wait j) : i = j := by
  obtain ⟨x, hx, tx, lx⟩ := hi
  obtain ⟨y, hy, ty, ly⟩ := hj
  have h1 := lx y (List.mem_of_getElem? hy) ty
  have h2 := ly x (List.mem_of_getElem? hx) tx
  obtain ⟨e1, e2⟩ := It.lt_total h2 h1
  exact nodup_idx h hx hy (by simp [evKey, e1, e2])

theorem nx_some {en : Int} {wait : List Ev} (h : (wait.map evKey).Nodup) {j : Nat} (hj : IsNx en wait j) : nx en wait = some j := by
  unfold nx
  cases hf : (List.range wait.length).find? (nxB en wait) with
  | none =>
    have hl : j < wait.length := by
      obtain ⟨e, he, _⟩ := hj
      exact get_lt he
    exact absurd (nxB_iff.2 hj) (List.find?_eq_none.1 hf j (by simpa using hl))
  | some i =>
    have := List.find?_some hf
    rw [IsNx.unique h (nxB_iff.1 this) hj]

theorem nx_none {en : Int} {wait : List Ev} (h : ∀ e ∈ wait, en ≤ e.it.t) : nx en wait = none := by
  unfold nx
  rw [List.find?_eq_none]
  intro j _ hj
  obtain ⟨e, he, ht, _⟩ := nxB_iff.1 hj
  have := h e (List.mem_of_getElem? he)
  omega

theorem stepF_some {m : Mdl} {en : Int} {c : Cs} {j : Nat} {e : Ev} (h : nx en c.wait = some j) (he : c.wait[j]? = some e) : stepF m en c = doEv m c j e := by
  simp only [stepF, h, he]

/-- the invariant of the course -/
structure Inv (m : Mdl) (c : Cs) : Prop where
  ls : c.states.length = np m
  lq : c.seqs.length = np m
  ld : c.done.length = np m
  lc : c.causes.length = np m
  sq : ∀ (p : Nat) (q : Int), c.seqs[p]? = some q → 0 ≤ q ∧ q ≤ 4 * (c.all : Int)
  ev : ∀ e ∈ c.wait, 0 ≤ e.p ∧ e.p < m.procs ∧ 0 ≤ e.it.t ∧ e.it.t ≤ 260 ∧ ((e.it.f = -1) ∨ (0 ≤ e.it.f ∧ ∃ q, c.seqs[e.it.f.toNat]? = some q ∧ e.it.s < q))
  keys : (c.wait.map evKey).Nodup
  len : c.wait.length ≤ 12 + 4 * c.all
  dl : ∀ (p : Nat) (l : List Dn), c.done[p]? = some l → l.length ≤ c.all
  cl : ∀ (p : Nat) (l : List Int), c.causes[p]? = some l → l.length ≤ c.all

theorem Right.start {m : Mdl} (h : Right m) {j : Nat} {s : MStart} (hs : m.starts[j]? = some s) : 0 ≤ s.p ∧ s.p < m.procs ∧ 0 ≤ s.t ∧ s.t ≤ 200 ∧ 0 ≤ s.l ∧ s.l < m.loads := by
  have := h.starts j s hs
  simp only [startBad, isP, isL, withinB, Bool.or_eq_false_iff, Bool.not_eq_false', Bool.and_eq_true, decide_eq_true_eq] at this
  omega

theorem ruleAt_mem {m : Mdl} {p s l : Int} {r : MRule} (h : ruleAt m p s l = some r) : ∃ i : Nat, m.rules[i]? = some r ∧ ruleFor p s l r = true := by
  unfold ruleAt at h
  have h1 := List.mem_of_find?_eq_some h
  obtain ⟨i, hi⟩ := List.getElem?_of_mem h1
  exact ⟨i, hi, List.find?_some h⟩

theorem ruleOk_of_good {m : Mdl} {i : Nat} {r : MRule} (hr : m.rules[i]? = some r) (h : goodRule m i = true) : ruleOk m r = true := by
  rw [goodRule_at hr, Bool.and_eq_true] at h
  exact h.1

theorem Right.rule {m : Mdl} (h : Right m) {i : Nat} {r : MRule} (hr : m.rules[i]? = some r) : ruleOk m r = true := ruleOk_of_good hr (h.rules i (get_lt hr))

theorem ruleOk_iff {m : Mdl} {r : MRule} (h : ruleOk m r = true) : (0 ≤ r.p ∧ r.p < m.procs) ∧ (0 ≤ r.s ∧ r.s < m.states) ∧ (0 ≤ r.l ∧ r.l < m.loads) ∧ (0 ≤ r.n ∧ r.n < m.states) ∧ r.es.length ≤ 4 ∧ ∀ x ∈ r.es, emitOk m r.p x = true := by
  simp only [ruleOk, isP, isS, isL, withinB, Bool.and_eq_true, decide_eq_true_eq, List.all_eq_true] at h
  obtain ⟨⟨⟨⟨⟨⟨a, b⟩, c, d⟩, e, f⟩, g, i⟩, j⟩, k⟩ := h
  exact ⟨⟨a, by omega⟩, ⟨c, by omega⟩, ⟨e, by omega⟩, ⟨g, by omega⟩, j, k⟩

theorem emitOk_iff {m : Mdl} {p : Int} {x : MEmit} (h : emitOk m p x = true) : ∃ y, m.links[x.k.toNat]? = some y ∧ 0 ≤ x.k ∧ x.k < m.links.length ∧ y.f = p ∧ y.a ≤ x.d ∧ x.d ≤ 60 ∧ 0 ≤ x.l ∧ x.l < m.loads := by
  unfold emitOk at h
  by_cases hk : withinB x.k 0 ((m.links.length : Int) - 1) = true
  · rw [if_pos hk] at h
    have hk2 := withinB_iff.1 hk
    cases hy : m.links[x.k.toNat]? with
    | none => rw [hy] at h; cases h
    | some y =>
      rw [hy] at h
      simp only [isL, withinB, Bool.and_eq_true, decide_eq_true_eq] at h
      obtain ⟨⟨a, b, c⟩, d, e⟩ := h
      exact ⟨y, rfl, hk2.1, by omega, a, b, c, d, by omega⟩
  · rw [if_neg hk] at h; cases h

theorem Right.link {m : Mdl} (h : Right m) {j : Nat} {y : MLink} (hy : m.links[j]? = some y) : 0 ≤ y.f ∧ y.f < m.procs ∧ 0 ≤ y.t ∧ y.t < m.procs ∧ 1 ≤ y.a ∧ y.a ≤ 50 := by
  have := h.links j y hy
  simp only [linkBad, isP, withinB, Bool.or_eq_false_iff, Bool.not_eq_false', Bool.and_eq_true, decide_eq_true_eq] at this
  omega

theorem linkTo_at {m : Mdl} {k : Int} {y : MLink} (h : m.links[k.toNat]? = some y) : linkTo m k = y.t := by simp [linkTo, h]

theorem emitted_get {m : Mdl} {e : Ev} {seq cause : Int} {es : List MEmit} {i : Nat} {y : Ev} (h : (emitted m e seq cause es)[i]? = some y) : ∃ x, es[i]? = some x ∧ y = emit1 m e seq cause i x := by
  unfold emitted at h
  rw [List.getElem?_mapIdx] at h
  obtain ⟨x, hx, rfl⟩ := Option.map_eq_some_iff.1 h
  exact ⟨x, hx, rfl⟩

theorem inv_c0 {m : Mdl} (h : Right m) : Inv m (c0 m) := by
  have hn := h.lim.ns
  refine ⟨by simp [c0], by simp [c0], by simp [c0], by simp [c0], ?_, ?_, ?_, by simp [c0]; omega, ?_, ?_⟩
  · intro p q hq
    have := List.mem_of_getElem? hq
    simp only [c0, List.mem_replicate] at this
    have := this.2; simp [c0]; omega
  · intro e he
    obtain ⟨i, hi⟩ := List.getElem?_of_mem he
    simp only [c0, List.getElem?_mapIdx] at hi
    obtain ⟨s, hs, rfl⟩ := Option.map_eq_some_iff.1 hi
    have := h.start hs
    exact ⟨this.1, this.2.1, this.2.2.1, by simp only [initEv]; omega, .inl rfl⟩
  · rw [List.nodup_iff_pairwise_ne, List.pairwise_iff_getElem]
    intro i j hi hj hij
    simp only [c0, List.getElem_map, List.getElem_mapIdx, evKey, initEv]
    intro e
    simp only [Prod.mk.injEq] at e
    omega
  · intro p l hl
    have := List.mem_of_getElem? hl
    simp only [c0, List.mem_replicate] at this
    rw [this.2]; simp
  · intro p l hl
    have := List.mem_of_getElem? hl
    simp only [c0, List.mem_replicate] at this
    rw [this.2]; simp

theorem nodup_append' {α : Type} {a b : List α} (ha : a.Nodup) (hb : b.Nodup) (h : ∀ x ∈ a, x ∉ b) : (a ++ b).Nodup := by
  rw [List.nodup_append]
  exact ⟨ha, hb, fun x hx y hy e => h x hx (e ▸ hy)⟩

theorem set_get {α : Type} {l : List α} {i j : Nat} {v x : α} (h : (l.set i v)[j]? = some x) : (j = i ∧ x = v) ∨ (j ≠ i ∧ l[j]? = some x) := by
  by_cases e : j = i
  · subst e
    have := get_lt h
    rw [List.length_set] at this
    rw [List.getElem?_set_self this] at h
    cases h
    exact .inl ⟨rfl, rfl⟩
  · rw [List.getElem?_set_ne (by omega)] at h
    exact .inr ⟨e, h⟩

theorem inv_do {m : Mdl} {c : Cs} (hm : Right m) (h : Inv m c) {en : Int} (hen : en ≤ 200) {j : Nat} {e : Ev} (he : c.wait[j]? = some e) (ht : e.it.t < en) : Inv m (doEv m c j e) := by
  have hmem : ∀ y ∈ c.wait.eraseIdx j, y ∈ c.wait := fun y hy => (List.eraseIdx_sublist _ _).subset hy
  have hk : ((c.wait.eraseIdx j).map evKey).Nodup := (((List.eraseIdx_sublist c.wait j).map evKey).nodup h.keys)
  have hj := get_lt he
  have hlen : (c.wait.eraseIdx j).length = c.wait.length - 1 := List.length_eraseIdx_of_lt hj
  obtain ⟨ep0, ep1, et0, et1, -⟩ := h.ev e (List.mem_of_getElem? he)
  have hp2 := hm.lim.p2
  have hpn : e.p.toNat < np m := by unfold np; omega
  have hL := h.len
  unfold doEv
  split
  · refine ⟨h.ls, h.lq, by simp [h.ld], by simp [h.lc], ?_, ?_, hk, ?_, ?_, ?_⟩
    · intro p q hq
      have := h.sq p q hq
      simp only
      omega
    · intro y hy
      exact h.ev y (hmem y hy)
    · simp only; rw [hlen]; omega
    · intro p l hl
      simp only at hl ⊢
      rcases set_get hl with ⟨e1, e2⟩ | ⟨e1, e2⟩
      · rw [e2, List.length_append]
        have : (c.done.getD e.p.toNat []).length ≤ c.all := by
          obtain ⟨z, hz⟩ := get_of_lt (d := c.done) (k := e.p.toNat) (by rw [h.ld]; exact hpn)
          rw [List.getD_eq_getElem?_getD, hz]
          exact h.dl _ _ hz
        simp only [List.length_cons, List.length_nil]; omega
      · have := h.dl p l e2; omega
    · intro p l hl
      simp only at hl ⊢
      rcases set_get hl with ⟨e1, e2⟩ | ⟨e1, e2⟩
      · rw [e2, List.length_append]
        have : (c.causes.getD e.p.toNat []).length ≤ c.all := by
          obtain ⟨z, hz⟩ := get_of_lt (d := c.causes) (k := e.p.toNat) (by rw [h.lc]; exact hpn)
          rw [List.getD_eq_getElem?_getD, hz]
          exact h.cl _ _ hz
        simp only [List.length_cons, List.length_nil]; omega
      · have := h.cl p l e2; omega
  · rename_i r hr
    obtain ⟨ri, hri, hrf⟩ := ruleAt_mem hr
    have hro := ruleOk_iff (hm.rule hri)
    simp only [ruleFor, Bool.and_eq_true, decide_eq_true_eq] at hrf
    obtain ⟨sq, hsq⟩ := get_of_lt (d := c.seqs) (k := e.p.toNat) (by rw [h.lq]; exact hpn)
    have hsd : c.seqs.getD e.p.toNat 0 = sq := by rw [List.getD_eq_getElem?_getD, hsq]; rfl
    have hsb := h.sq _ _ hsq
    rw [hsd]
    have hset : (c.seqs.set e.p.toNat (sq + (r.es.length : Int)))[e.p.toNat]? = some (sq + (r.es.length : Int)) := by
      rw [List.getElem?_set_self (get_lt hsq)]
    refine ⟨by simp [h.ls], by simp [h.lq], by simp [h.ld], by simp [h.lc], ?_, ?_, ?_, ?_, ?_, ?_⟩
    · intro p q hq
      simp only at hq ⊢
      rcases set_get hq with ⟨e1, e2⟩ | ⟨e1, e2⟩
      · have := hro.2.2.2.2.1; omega
      · have := h.sq p q e2; omega
    · intro y hy
      simp only at hy ⊢
      rcases List.mem_append.1 hy with hy | hy
      · obtain ⟨a1, a2, a3, a4, a5⟩ := h.ev y (hmem y hy)
        refine ⟨a1, a2, a3, a4, ?_⟩
        rcases a5 with a5 | ⟨a5, q, a6, a7⟩
        · exact .inl a5
        · refine .inr ⟨a5, ?_⟩
          by_cases hf : y.it.f.toNat = e.p.toNat
          · rw [hf] at a6 ⊢
            rw [hsq] at a6
            cases a6
            exact ⟨_, hset, by omega⟩
          · exact ⟨q, by rw [List.getElem?_set_ne (by omega)]; exact a6, a7⟩
      · obtain ⟨i, hi⟩ := List.getElem?_of_mem hy
        obtain ⟨x, hx, rfl⟩ := emitted_get hi
        have hxl := get_lt hx
        obtain ⟨z, z1, z2, z3, z4, z5, z6, _⟩ := emitOk_iff (hro.2.2.2.2.2 x (List.mem_of_getElem? hx))
        have hz := hm.link z1
        refine ⟨by simp only [emit1, linkTo_at z1]; omega, by simp only [emit1, linkTo_at z1]; omega, by simp only [emit1]; omega, by simp only [emit1]; omega, .inr ⟨ep0, _, hset, by simp only [emit1]; omega⟩⟩
    · simp only [List.map_append]
      refine nodup_append' hk ?_ ?_
      · rw [List.nodup_iff_pairwise_ne, List.pairwise_iff_getElem]
        intro i k hi hk' hik
        simp only [emitted, List.getElem_map, List.getElem_mapIdx, evKey, emit1]
        intro e'
        simp only [Prod.mk.injEq] at e'
        omega
      · intro kx hkx hky
        obtain ⟨y, hy, rfl⟩ := List.mem_map.1 hkx
        obtain ⟨z, hz, hzy⟩ := List.mem_map.1 hky
        obtain ⟨i, hi⟩ := List.getElem?_of_mem hz
        obtain ⟨x, hx, rfl⟩ := emitted_get hi
        simp only [evKey, emit1, Prod.mk.injEq] at hzy
        obtain ⟨_, _, _, _, a5⟩ := h.ev y (hmem y hy)
        rcases a5 with a5 | ⟨a5, q, a6, a7⟩
        · omega
        · rw [← hzy.1, hsq] at a6
          cases a6
          omega
    · simp only [List.length_append]
      rw [hlen]
      have : (emitted m e sq (c.done.getD e.p.toNat []).length r.es).length = r.es.length := by simp [emitted]
      rw [this]
      have := hro.2.2.2.2.1
      omega
    · intro p l hl
      simp only at hl ⊢
      rcases set_get hl with ⟨e1, e2⟩ | ⟨e1, e2⟩
      · rw [e2, List.length_append]
        have : (c.done.getD e.p.toNat []).length ≤ c.all := by
          obtain ⟨z, hz⟩ := get_of_lt (d := c.done) (k := e.p.toNat) (by rw [h.ld]; exact hpn)
          rw [List.getD_eq_getElem?_getD, hz]
          exact h.dl _ _ hz
        simp only [List.length_cons, List.length_nil]; omega
      · have := h.dl p l e2; omega
    · intro p l hl
      simp only at hl ⊢
      rcases set_get hl with ⟨e1, e2⟩ | ⟨e1, e2⟩
      · rw [e2, List.length_append]
        have : (c.causes.getD e.p.toNat []).length ≤ c.all := by
          obtain ⟨z, hz⟩ := get_of_lt (d := c.causes) (k := e.p.toNat) (by rw [h.lc]; exact hpn)
          rw [List.getD_eq_getElem?_getD, hz]
          exact h.cl _ _ hz
        simp only [List.length_cons, List.length_nil]; omega
      · have := h.cl p l e2; omega

theorem doEv_all (m : Mdl) (c : Cs) (j : Nat) (e : Ev) : (doEv m c j e).all = c.all + 1 := by
  unfold doEv; split <;> rfl

/-- never stuck below k -/
def Live (m : Mdl) (en : Int) (k : Nat) : Prop := ∀ i, i < k → nx en (atK m en i).wait ≠ none

/-- no more than 300 events -/
def Few (m : Mdl) (en : Int) : Prop := ∃ k, k ≤ 300 ∧ nx en (atK m en k).wait = none

theorem few_not {m : Mdl} {en : Int} (h : Live m en 301) : ¬ Few m en := fun ⟨k, hk, e⟩ => h k (by omega) e

end Go.Proofs.Ytaieackeflmhgaa

namespace Go.Proofs.Ytaieackeflmhgaa
open Go.RowKit Go.Sort Go.Maps

theorem info_ritem : (Try.prog.info? 47).map (fun i => (i.zero, i.size, i.bytes)) = some (some (.agg #[.int .i64 0, .int .i64 0, .int .i64 0, .int .i64 0]), 4, 32) := by kernel_rfl

set_option maxRecDepth 100000 in
set_option maxHeartbeats 400000 in
theorem item_any (x : It) (w : World) :
    Calls Try.prog 47 #[.agg #[.int .i64 x.t, .int .i64 x.f, .int .i64 x.s, .int .i64 x.l]] w fun e w' => e = .returned (.agg #[.int .i64 x.t, .int .i64 x.f, .int .i64 x.s, .int .i64 x.l]) ∧ Below w.heap.size w w' := by
  go_enter Try.func47, Try.ntmps47
  go_wp2
  refine bodyPost_ret (v := .agg #[.int .i64 x.t, .int .i64 x.f, .int .i64 x.s, .int .i64 x.l]) (by simp [results, Try.results47, go_sem]) rfl ⟨rfl, ?_⟩
  exact ((Below.refl _ _).alloc (Nat.le_refl _) _).alloc (by simp) _

set_option maxRecDepth 100000 in
set_option maxHeartbeats 1000000 in
theorem same_any (x : It) (w : World) :
    Calls Try.prog 50 #[.agg #[.int .i64 x.t, .int .i64 x.f, .int .i64 x.s, .int .i64 x.l], .agg #[.int .i64 x.t, .int .i64 x.f, .int .i64 x.s, .int .i64 x.l]] w fun e w' => e = .returned (.bool true) ∧ Below w.heap.size w w' := by
  go_enter Try.func50, Try.ntmps50
  go_wp2
  go_ret
  exact ⟨rfl, ((Below.refl _ _).alloc (Nat.le_refl _) _).alloc (by simp) _⟩

set_option maxRecDepth 100000 in
set_option maxHeartbeats 4000000 in
theorem without_any (w : World) (B g cap : Nat) (l : List It) (i : Nat) (h : ISl w B (.slice (some ⟨g, 0, none⟩) l.length cap) l) (hcap : l.length ≤ cap) (hn : l.length ≤ 2932031007317) (hi : i < l.length) :
    Calls Try.prog 51 #[.slice (some ⟨g, 0, none⟩) l.length cap, .int .i64 i] w fun e w' => ∃ v', e = .returned v' ∧ ISl w' w.heap.size v' (l.eraseIdx i) ∧ Below w.heap.size w w' := by
  obtain ⟨i0, hi0, hz0, hz1, hz2⟩ := info_parts info_ritem
  have hcells : ∀ j u, (itsC (l.take i))[j]? = some u → w.cell? ((⟨g, 0, none⟩ : Addr).add j) = some u := by
    intro j u hu
    have hj := get_lt hu
    rw [itsC_length] at hj
    rw [itsC_take] at hu
    have h4 : j < i * 4 := by have := List.length_take_le i l; omega
    rw [List.getElem?_take_of_lt h4] at hu
    have ha : ((⟨g, 0, none⟩ : Addr).add j) = ⟨g, j, none⟩ := by simp [Addr.add]; omega
    rw [ha, World.ownsRow.cellAt h j (by omega)]
    exact hu
  have hlt : (l.take i).length = i := by simp; omega
  have hone := itsC_one (l.take i)
  have hone2 := itsC_one (l.drop (i + 1))
  go_enter Try.func51, Try.ntmps51
  go_wp2_with (at_builtin; refine wpList_append_ownX rfl (.tmp 6) (.tmp 9) 50 rfl w.heap.size 47 i0 _ 4 32 Try.underlying50 hi0 hz0 hz1 hz2 rfl (by decide) (.slice none 0 0) 0 [] rfl ?own ⟨g, 0, none⟩ i cap (itsC (l.take i)) rfl ?len ?cells ?one ?b1 ?b2 ?hb ?k)
  case own => exact World.ownsRow_nil _ _ _ _
  case len => rw [itsC_length, hlt]
  case cells => exact hcells
  case one => exact hone
  case b1 => unfold maxLen; omega
  case b2 => omega
  case hb => exact Nat.le_refl _
  case k =>
    intro v1 w1 hown1 hgr1 hfr1
    have hK1 : Below w.heap.size w w1 := (Below.refl _ _).grown hgr1 (Nat.le_refl _) (fun k hk => by simp [Value.ownBlock] at hk)
    have hle : (l.eraseIdx i).length = i + (l.length - (i + 1)) := by rw [List.length_eraseIdx]; rw [if_pos hi]; omega
    have heq : itsC (l.eraseIdx i) = itsC (l.take i) ++ itsC (l.drop (i + 1)) := by rw [List.eraseIdx_eq_take_drop_succ, itsC_append]
    have hg := (h.lt (g := g) rfl).2
    have hcell2 : ∀ o, w1.cell? ⟨g, o, none⟩ = w.cell? ⟨g, o, none⟩ := fun o => hK1.cell (p := ⟨g, o, none⟩) hg
    clear hcells hone
    by_cases hce : cap = i + 1
    · have hl0 : l.length - (i + 1) = 0 := by omega
      have hdr : l.drop (i + 1) = [] := List.eq_nil_of_length_eq_zero (by rw [List.length_drop]; exact hl0)
      have hle' : (l.eraseIdx i).length = i + 0 := by rw [hle, hl0]
      have heq' : itsC (l.eraseIdx i) = itsC (l.take i) ++ [] := by rw [heq, hdr]; rfl
      have Hle : Hid ((l.eraseIdx i).length = i + 0) := hle'
      have Heq : Hid (itsC (l.eraseIdx i) = itsC (l.take i) ++ []) := heq'
      clear hl0 hdr hle heq hle' heq'
      subst hce
      go_wp2_with (at_builtin; refine wpList_append_ownX rfl (.tmp 11) (.tmp 15) 50 rfl w.heap.size 47 i0 _ 4 32 Try.underlying50 hi0 hz0 hz1 hz2 rfl (by decide) v1 i (itsC (l.take i)) rfl ?own2 ⟨g, 0, none⟩ 0 0 [] rfl rfl ?cells2 ?one2 ?b12 ?b22 ?hb2 ?k2)
      case own2 => exact hown1
      case cells2 => intro j u hu; simp at hu
      case one2 => intro u hu; simp at hu
      case b12 => unfold maxLen; omega
      case b22 => omega
      case hb2 => exact hgr1.size
      case k2 =>
        intro v2 w2 hown2 hgr2 hfr2
        go_wp2
        go_ret
        refine ⟨v2, rfl, ?_, ?_⟩
        · unfold ISl
          rw [Hle.out, Heq.out, Nat.add_zero, List.append_nil]
          exact hown2
        · refine hK1.trans (KeptF.below (F := fun k => w.heap.size ≤ k) (KeptF.of_grown hgr2 (fun k hk _ => ?_)) hgr1.size (fun i h => h))
          exact World.ownsRow_ge hown1 k hk
    · have hcs : ∀ j u, (itsC (l.drop (i + 1)))[j]? = some u → w1.cell? ((⟨g, (i + 1) * 4, none⟩ : Addr).add j) = some u := by
        intro j u hu
        have hj := get_lt hu
        rw [itsC_length, List.length_drop] at hj
        rw [itsC_drop, List.getElem?_drop] at hu
        have ha : ((⟨g, (i + 1) * 4, none⟩ : Addr).add j) = ⟨g, (i + 1) * 4 + j, none⟩ := by simp [Addr.add]
        rw [ha, hcell2, World.ownsRow.cellAt h _ (by omega)]
        exact hu
      clear hcell2
      go_wp2_with (at_builtin; refine wpList_append_ownX rfl (.tmp 11) (.tmp 15) 50 rfl w.heap.size 47 i0 _ 4 32 Try.underlying50 hi0 hz0 hz1 hz2 rfl (by decide) v1 i (itsC (l.take i)) rfl ?own2 ⟨g, (i + 1) * 4, none⟩ (l.length - (i + 1)) (cap - (i + 1)) (itsC (l.drop (i + 1))) rfl ?len2 ?cells2 ?one2 ?b12 ?b22 ?hb2 ?k2)
      case own2 => exact hown1
      case len2 => rw [itsC_length, List.length_drop]
      case cells2 => exact hcs
      case one2 => exact hone2
      case b12 => unfold maxLen; omega
      case b22 => omega
      case hb2 => exact hgr1.size
      case k2 =>
        intro v2 w2 hown2 hgr2 hfr2
        go_wp2
        go_ret
        refine ⟨v2, rfl, ?_, ?_⟩
        · unfold ISl
          rw [hle, heq]
          exact hown2
        · refine hK1.trans (KeptF.below (F := fun k => w.heap.size ≤ k) (KeptF.of_grown hgr2 (fun k hk _ => ?_)) hgr1.size (fun i h => h))
          exact World.ownsRow_ge hown1 k hk

end Go.Proofs.Ytaieackeflmhgaa

namespace Go.Proofs.Ytaieackeflmhgaa
open Go.RowKit Go.Sort Go.Maps

structure Enc (α : Type) where
  sz : Nat
  T : TypeId
  enc : α → List Value
  len : ∀ x, (enc x).length = sz
  pos : 0 < sz
  one : ∀ x, ∀ u ∈ enc x, u.oneCell' = true

variable {α : Type}

def flat (E : Enc α) : List α → List Value
  | [] => []
  | x :: l => E.enc x ++ flat E l

theorem flat_length (E : Enc α) : ∀ l : List α, (flat E l).length = l.length * E.sz
  | [] => by simp [flat]
  | x :: l => by simp only [flat, List.length_append, flat_length E l, List.length_cons, E.len, Nat.add_mul]; omega
theorem flat_append (E : Enc α) : ∀ (l l' : List α), flat E (l ++ l') = flat E l ++ flat E l'
  | [], l' => rfl
  | x :: l, l' => by simp only [List.cons_append, flat, flat_append E l l', List.append_assoc]
theorem flat_get (E : Enc α) : ∀ (l : List α) (j : Nat) (x : α) (k : Nat), l[j]? = some x → k < E.sz → (flat E l)[j * E.sz + k]? = (E.enc x)[k]?
  | [], j, x, k, h, _ => by simp at h
  | a :: l, 0, x, k, h, hk => by
    simp only [List.getElem?_cons_zero, Option.some.injEq] at h
    subst h
    simp only [flat, Nat.zero_mul, Nat.zero_add]
    rw [List.getElem?_append_left (by rw [E.len]; exact hk)]
  | a :: l, j + 1, x, k, h, hk => by
    simp only [List.getElem?_cons_succ] at h
    simp only [flat]
    have e : (j + 1) * E.sz = E.sz + j * E.sz := by rw [Nat.add_mul]; omega
    rw [List.getElem?_append_right (by rw [E.len, e]; omega)]
    have : (j + 1) * E.sz + k - (E.enc a).length = j * E.sz + k := by rw [E.len, e]; omega
    rw [this]
    exact flat_get E l j x k h hk
theorem flat_one (E : Enc α) : ∀ (l : List α), ∀ u ∈ flat E l, u.oneCell' = true
  | [], u, h => by simp [flat] at h
  | x :: l, u, h => by
    simp only [flat, List.mem_append] at h
    rcases h with h | h
    · exact E.one x u h
    · exact flat_one E l u h
theorem flat_take (E : Enc α) (l : List α) (n : Nat) : flat E (l.take n) = (flat E l).take (n * E.sz) := by
  induction l generalizing n with
  | nil => simp [flat]
  | cons a l ih =>
    cases n with
    | zero => simp [flat]
    | succ n =>
      simp only [List.take_succ_cons, flat, ih]
      rw [List.take_append, E.len, List.take_of_length_le (l := E.enc a) (by rw [E.len, Nat.add_mul]; omega)]
      have : (n + 1) * E.sz - E.sz = n * E.sz := by rw [Nat.add_mul]; omega
      rw [this]
theorem flat_drop (E : Enc α) (l : List α) (n : Nat) : flat E (l.drop n) = (flat E l).drop (n * E.sz) := by
  induction l generalizing n with
  | nil => simp [flat]
  | cons a l ih =>
    cases n with
    | zero => simp [flat]
    | succ n =>
      simp only [List.drop_succ_cons, flat, ih]
      rw [List.drop_append, E.len, List.drop_of_length_le (l := E.enc a) (by rw [E.len, Nat.add_mul]; omega), List.nil_append]
      have : (n + 1) * E.sz - E.sz = n * E.sz := by rw [Nat.add_mul]; omega
      rw [this]

def Own (E : Enc α) (w : World) (B : Nat) (v : Value) (l : List α) : Prop := w.ownsRow B E.T E.sz v l.length (flat E l)

theorem Own.nil (E : Enc α) (w : World) (B : Nat) : Own E w B (.slice none 0 0) [] := World.ownsRow_nil w B _ _
theorem Own.keep {E : Enc α} {F : Nat → Prop} {w w' : World} {B : Nat} {v : Value} {l : List α} (h : Own E w B v l) (k : KeptF F w w') (hF : ∀ g, v.ownBlock = some g → ¬ F g) : Own E w' B v l := ownsRow_keep h k hF
theorem Own.mono {E : Enc α} {w : World} {B B' : Nat} {v : Value} {l : List α} (h : Own E w B v l) (hB : B' ≤ B) : Own E w B' v l := World.ownsRow_mono h hB
theorem Own.form {E : Enc α} {w : World} {B : Nat} {v : Value} {l : List α} (h : Own E w B v l) : (v = .slice none 0 0 ∧ l = []) ∨ ∃ g cap, v = .slice (some ⟨g, 0, none⟩) l.length cap ∧ l.length ≤ cap := by
  rcases h.2 with ⟨h1, h2⟩ | ⟨g, cap, cur, h1, _, _, h3, _⟩
  · exact .inl ⟨h1, List.eq_nil_of_length_eq_zero h2⟩
  · exact .inr ⟨g, cap, h1, h3⟩
theorem Own.form' {E : Enc α} {w : World} {B : Nat} {v : Value} {l : List α} (h : Own E w B v l) : ∃ ao cap, v = .slice ao l.length cap ∧ l.length ≤ cap := by
  rcases h.form with ⟨h1, h2⟩ | ⟨g, cap, h1, h2⟩
  · subst h2; exact ⟨none, 0, h1, Nat.le_refl _⟩
  · exact ⟨_, _, h1, h2⟩
theorem Own.cell {E : Enc α} {w : World} {B : Nat} {g : Nat} {len cap : Nat} {l : List α} (h : Own E w B (.slice (some ⟨g, 0, none⟩) len cap) l) {j : Nat} {x : α} (hx : l[j]? = some x) {k : Nat} {u : Value} (hu : (E.enc x)[k]? = some u) :
    w.cell? ⟨g, j * E.sz + k, none⟩ = some u := by
  have hj := get_lt hx
  have hk : k < E.sz := by have := get_lt hu; rw [E.len] at this; exact this
  have hlen : len = l.length := by
    rcases h.form with ⟨h1, _⟩ | ⟨g', cap', h1, _⟩
    · cases h1
    · cases h1; rfl
  subst hlen
  have hle : j * E.sz + k < l.length * E.sz := by
    have : (j + 1) * E.sz ≤ l.length * E.sz := Nat.mul_le_mul_right _ hj
    rw [Nat.add_mul] at this; omega
  rw [World.ownsRow.cellAt h (j * E.sz + k) hle, flat_get E l j x k hx hk, hu]
theorem Own.cellAt {E : Enc α} {w : World} {B g len cap : Nat} {l : List α} (h : Own E w B (.slice (some ⟨g, 0, none⟩) len cap) l) (o : Nat) (ho : o < l.length * E.sz) : w.cell? ⟨g, o, none⟩ = (flat E l)[o]? := by
  have hlen : len = l.length := by
    rcases h.form with ⟨h1, _⟩ | ⟨g', cap', h1, _⟩
    · cases h1
    · cases h1; rfl
  subst hlen
  exact World.ownsRow.cellAt h o ho
theorem Own.takeCells {E : Enc α} {w : World} {B g len cap : Nat} {l : List α} (h : Own E w B (.slice (some ⟨g, 0, none⟩) len cap) l) (j : Nat) (hj : j ≤ l.length) : ∀ o u, (flat E (l.take j))[o]? = some u → w.cell? ((⟨g, 0, none⟩ : Addr).add o) = some u := by
  intro o u hu
  have ho := get_lt hu
  rw [flat_length, List.length_take, Nat.min_eq_left hj] at ho
  rw [flat_take, List.getElem?_take_of_lt ho] at hu
  have ha : ((⟨g, 0, none⟩ : Addr).add o) = ⟨g, o, none⟩ := by simp [Addr.add]; omega
  have h2 : j * E.sz ≤ l.length * E.sz := Nat.mul_le_mul_right _ hj
  rw [ha, h.cellAt o (by omega)]
  exact hu
theorem Own.dropCells {E : Enc α} {w : World} {B g len cap : Nat} {l : List α} (h : Own E w B (.slice (some ⟨g, 0, none⟩) len cap) l) (j k : Nat) (hk : k = j * E.sz) : ∀ o u, (flat E (l.drop j))[o]? = some u → w.cell? ((⟨g, k, none⟩ : Addr).add o) = some u := by
  intro o u hu
  subst hk
  have ho := get_lt hu
  rw [flat_length, List.length_drop, Nat.sub_mul] at ho
  rw [flat_drop, List.getElem?_drop] at hu
  have ha : ((⟨g, j * E.sz, none⟩ : Addr).add o) = ⟨g, j * E.sz + o, none⟩ := by simp [Addr.add]
  rw [ha, h.cellAt _ (by omega)]
  exact hu
theorem Own.at_ {E : Enc α} {w : World} {B : Nat} {v : Value} {l : List α} (h : Own E w B v l) {j : Nat} {x : α} (hx : l[j]? = some x) : ∃ g cap, v = .slice (some ⟨g, 0, none⟩) l.length cap ∧ l.length ≤ cap := by
  rcases h.form with ⟨_, h2⟩ | h
  · rw [h2] at hx; simp at hx
  · exact h
theorem Own.lt {E : Enc α} {w : World} {B : Nat} {v : Value} {l : List α} (h : Own E w B v l) {g : Nat} (hg : v.ownBlock = some g) : B ≤ g ∧ g < w.heap.size := World.ownsRow.lt h g hg

theorem Own.snoc {E : Enc α} {w : World} {B : Nat} {v : Value} {l : List α} {x : α} (h : w.ownsRow B E.T E.sz v (l.length + 1) (flat E l ++ E.enc x)) : Own E w B v (l ++ [x]) := by
  unfold Own
  rw [flat_append, List.length_append]
  have : flat E [x] = E.enc x := by simp [flat]
  rw [this]
  exact h
theorem newCells (W : World) (l : List Value) (T : TypeId) : ∀ j u, l[j]? = some u → ((W.alloc (.cells l.toArray T)).drew).cell? ((⟨W.heap.size, 0, none⟩ : Addr).add j) = some u := by
  intro j u hu
  have hb : Blk (W.alloc (.cells l.toArray T)).drew W.heap.size l.toArray T := heap_alloc_new W _
  have ha : ((⟨W.heap.size, 0, none⟩ : Addr).add j) = ⟨W.heap.size, j, none⟩ := by simp [Addr.add]; omega
  rw [ha, hb.cell, ← hu]
  simp
theorem set_same {l : List α} {p : Nat} {v : α} (h : l[p]? = some v) : l.set p v = l := by
  apply List.ext_getElem?
  intro i
  by_cases e : i = p
  · subst e
    rw [List.getElem?_set_self (get_lt h), h]
  · rw [List.getElem?_set_ne (by omega)]
/-- worlds in which all cells of w stand as they did, but for one block's and one cell -/
def Sp (w : World) (b0 o0 : Nat) (own : Option Nat) (W : World) : Prop := w.heap.size ≤ W.heap.size ∧ ∀ b o, b < w.heap.size → own ≠ some b → ¬ (b = b0 ∧ o = o0) → W.cell? ⟨b, o, none⟩ = w.cell? ⟨b, o, none⟩
theorem Sp.cell {w : World} {b0 o0 : Nat} {own : Option Nat} {b o : Nat} {v : Value} (hc : w.cell? ⟨b, o, none⟩ = some v) (h1 : own ≠ some b) (h2 : ¬ (b = b0 ∧ o = o0)) : ∀ W, Sp w b0 o0 own W → W.cell? ⟨b, o, none⟩ = some v := by
  intro W h
  rw [h.2 b o (block_lt_of_cell hc) h1 h2]; exact hc
theorem Sp.of_kept {w W : World} {b0 o0 : Nat} {own : Option Nat} (h : KeptF (fun k => own = some k) w W) : Sp w b0 o0 own W :=
  ⟨h.size, fun b o hb h1 _ => h.cell (p := ⟨b, o, none⟩) hb (fun e => h1 e)⟩
theorem Sp.set {w W : World} {b0 o0 : Nat} {own : Option Nat} (h : Sp w b0 o0 own W) (v : Value) : Sp w b0 o0 own (W.setCell ⟨b0, o0, none⟩ v) := by
  refine ⟨by have := h.1; simp [World.setCell]; exact this, fun b o hb h1 h2 => ?_⟩
  rw [← h.2 b o hb h1 h2]
  by_cases e : b = b0
  · subst e
    have ho : o ≠ o0 := fun e => h2 ⟨rfl, e⟩
    apply World.cell?_setCell_other
    intro e; cases e; exact ho rfl
  · exact World.cell?_of_block (Below.heap_setCell W ⟨b0, o0, none⟩ v b e)
theorem Sp.drew {w W : World} {b0 o0 : Nat} {own : Option Nat} (h : Sp w b0 o0 own W) : Sp w b0 o0 own W.drew := h

def evC (e : Ev) : List Value := [.int .i64 e.it.t, .int .i64 e.it.f, .int .i64 e.it.s, .int .i64 e.it.l, .int .i64 e.p, .int .i64 e.c]
def dnC (e : Dn) : List Value := [.int .i64 e.it.t, .int .i64 e.it.f, .int .i64 e.it.s, .int .i64 e.it.l, .int .i64 e.st]
def evE : Enc Ev := ⟨6, 162, evC, fun _ => rfl, by omega, fun x u hu => by
  simp only [evC, List.mem_cons, List.not_mem_nil, or_false] at hu
  rcases hu with rfl | rfl | rfl | rfl | rfl | rfl <;> rfl⟩
def dnE : Enc Dn := ⟨5, 136, dnC, fun _ => rfl, by omega, fun x u hu => by
  simp only [dnC, List.mem_cons, List.not_mem_nil, or_false] at hu
  rcases hu with rfl | rfl | rfl | rfl | rfl <;> rfl⟩
def inE : Enc Int := ⟨1, 3, fun x => [.int .i64 x], fun _ => rfl, by omega, fun x u hu => by
  simp only [List.mem_cons, List.not_mem_nil, or_false] at hu
  subst hu; rfl⟩

/-- the places of a course in memory -/
structure Ix where
  n : Nat
  p : Nat
abbrev Ix.c : Ix := ⟨0, 0⟩
abbrev Ix.w : Ix := ⟨1, 0⟩
abbrev Ix.s : Ix := ⟨2, 0⟩
abbrev Ix.q : Ix := ⟨3, 0⟩
abbrev Ix.d : Ix := ⟨4, 0⟩
abbrev Ix.k : Ix := ⟨5, 0⟩
abbrev Ix.dn (p : Nat) : Ix := ⟨6, p⟩
abbrev Ix.ca (p : Nat) : Ix := ⟨7, p⟩

def ownOf (o : Option Value) : Option Nat := match o with
  | some v => v.ownBlock
  | none => none

def owner (cb sb qb db kb : Nat) (wv : Value) (D C : List Value) : Ix → Option Nat
  | ⟨0, 0⟩ => some cb
  | ⟨1, 0⟩ => wv.ownBlock
  | ⟨2, 0⟩ => some sb
  | ⟨3, 0⟩ => some qb
  | ⟨4, 0⟩ => some db
  | ⟨5, 0⟩ => some kb
  | ⟨6, p⟩ => ownOf D[p]?
  | ⟨7, p⟩ => ownOf C[p]?
  | _ => none

def Dist (o : Ix → Option Nat) : Prop := ∀ i j g, o i = some g → o j = some g → i = j

theorem Dist.turn {o o' : Ix → Option Nat} {N : Nat} (h : Dist o) (i : Ix) (hlt : ∀ j g, o j = some g → g < N) (hs : ∀ j, j ≠ i → o' j = o j) (hi : ∀ g, o' i = some g → o i = some g ∨ N ≤ g) : Dist o' := by
  have key : ∀ j g, o' j = some g → o j = some g ∨ (j = i ∧ N ≤ g) := by
    intro j g hj
    by_cases e : j = i
    · subst e
      rcases hi g hj with h1 | h1
      · exact .inl h1
      · exact .inr ⟨rfl, h1⟩
    · rw [hs j e] at hj; exact .inl hj
  intro a b g ha hb
  rcases key a g ha with h1 | ⟨h1, h1'⟩
  · rcases key b g hb with h2 | ⟨h2, h2'⟩
    · exact h a b g h1 h2
    · have := hlt a g h1; omega
  · rcases key b g hb with h2 | ⟨h2, h2'⟩
    · have := hlt b g h2; omega
    · rw [h1, h2]

def ints (l : List Int) : Array Value := (l.map fun x => Value.int .i64 x).toArray

theorem ints_get {l : List Int} {j : Nat} {x : Int} (h : l[j]? = some x) : (ints l)[j]? = some (.int .i64 x) := by
  simp [ints, h]
theorem ints_set (l : List Int) (j : Nat) (x : Int) : (ints l).setIfInBounds j (.int .i64 x) = ints (l.set j x) := by
  simp [ints, List.map_set]

structure CAt (w : World) (B cb : Nat) (lv rv sv : Value) (m : Mdl) (wv : Value) (sb qb db kb : Nat) (D C : List Value) (c : Cs) : Prop where
  blk : Blk w cb #[.int .i64 m.procs, .int .i64 m.states, .int .i64 m.loads, lv, rv, sv, wv, .slice (some ⟨sb, 0, none⟩) (np m) (np m), .slice (some ⟨qb, 0, none⟩) (np m) (np m), .slice (some ⟨db, 0, none⟩) (np m) (np m), .slice (some ⟨kb, 0, none⟩) (np m) (np m), .int .i64 c.all] 66
  wait : Own evE w B wv c.wait
  st : Blk w sb (ints c.states) 3
  sq : Blk w qb (ints c.seqs) 3
  dn : Blk w db D.toArray 61
  ca : Blk w kb C.toArray 55
  dl : D.length = np m
  cl : C.length = np m
  dns : ∀ (p : Nat) (v : Value) (l : List Dn), D[p]? = some v → c.done[p]? = some l → Own dnE w B v l
  cas : ∀ (p : Nat) (v : Value) (l : List Int), C[p]? = some v → c.causes[p]? = some l → Own inE w B v l
  lc : B ≤ cb
  ls : B ≤ sb
  lq : B ≤ qb
  ld : B ≤ db
  lk : B ≤ kb
  nd : c.done.length = np m
  nc : c.causes.length = np m
  dist : Dist (owner cb sb qb db kb wv D C)

section
variable {w w' : World} {B cb : Nat} {lv rv sv : Value} {m : Mdl} {wv : Value} {sb qb db kb : Nat} {D C : List Value} {c : Cs}

theorem CAt.lt (h : CAt w B cb lv rv sv m wv sb qb db kb D C c) {i : Ix} {g : Nat} (hg : owner cb sb qb db kb wv D C i = some g) : B ≤ g ∧ g < w.heap.size := by
  unfold owner at hg
  split at hg
  · cases hg; exact ⟨h.lc, h.blk.lt⟩
  · exact h.wait.lt hg
  · cases hg; exact ⟨h.ls, h.st.lt⟩
  · cases hg; exact ⟨h.lq, h.sq.lt⟩
  · cases hg; exact ⟨h.ld, h.dn.lt⟩
  · cases hg; exact ⟨h.lk, h.ca.lt⟩
  · rename_i p
    cases hv : D[p]? with
    | none => rw [hv] at hg; cases hg
    | some v =>
      rw [hv] at hg
      obtain ⟨l, hl⟩ := get_of_lt (d := c.done) (k := p) (by rw [h.nd, ← h.dl]; exact get_lt hv)
      exact (h.dns p v l hv hl).lt hg
  · rename_i p
    cases hv : C[p]? with
    | none => rw [hv] at hg; cases hg
    | some v =>
      rw [hv] at hg
      obtain ⟨l, hl⟩ := get_of_lt (d := c.causes) (k := p) (by rw [h.nc, ← h.cl]; exact get_lt hv)
      exact (h.cas p v l hv hl).lt hg
  · cases hg

/-- the blocks of some places -/
def Touch (o : Ix → Option Nat) (S : Ix → Prop) (k : Nat) : Prop := ∃ i, S i ∧ o i = some k

theorem Dist.not_touch {o : Ix → Option Nat} {S : Ix → Prop} (h : Dist o) {i : Ix} {g : Nat} (hi : ¬ S i) (hg : o i = some g) : ¬ Touch o S g := by
  rintro ⟨j, hj, hgj⟩
  exact hi (h i j g hg hgj ▸ hj)

theorem own_dn {p : Nat} {v : Value} (h : D[p]? = some v) : owner cb sb qb db kb wv D C (.dn p) = v.ownBlock := by simp [owner, ownOf, h]
theorem own_ca {p : Nat} {v : Value} (h : C[p]? = some v) : owner cb sb qb db kb wv D C (.ca p) = v.ownBlock := by simp [owner, ownOf, h]

theorem CAt.grow (h : CAt w B cb lv rv sv m wv sb qb db kb D C c) (k : KeptF (fun _ => False) w w') : CAt w' B cb lv rv sv m wv sb qb db kb D C c :=
  ⟨h.blk.keep k (fun e => e), h.wait.keep k (fun _ _ e => e), h.st.keep k (fun e => e), h.sq.keep k (fun e => e), h.dn.keep k (fun e => e), h.ca.keep k (fun e => e), h.dl, h.cl,
   fun p v l h1 h2 => (h.dns p v l h1 h2).keep k (fun _ _ e => e), fun p v l h1 h2 => (h.cas p v l h1 h2).keep k (fun _ _ e => e), h.lc, h.ls, h.lq, h.ld, h.lk, h.nd, h.nc, h.dist⟩

/-- a new row of events that wait -/
theorem CAt.newWait (h : CAt w B cb lv rv sv m wv sb qb db kb D C c) {wv' : Value} {l' : List Ev} (k : KeptF (Touch (owner cb sb qb db kb wv D C) (fun i => i = .c ∨ i = .w)) w w')
    (hb : Blk w' cb #[.int .i64 m.procs, .int .i64 m.states, .int .i64 m.loads, lv, rv, sv, wv', .slice (some ⟨sb, 0, none⟩) (np m) (np m), .slice (some ⟨qb, 0, none⟩) (np m) (np m), .slice (some ⟨db, 0, none⟩) (np m) (np m), .slice (some ⟨kb, 0, none⟩) (np m) (np m), .int .i64 c.all] 66)
    (ho : Own evE w' B wv' l') (hf : ∀ g, wv'.ownBlock = some g → wv.ownBlock = some g ∨ w.heap.size ≤ g) :
    CAt w' B cb lv rv sv m wv' sb qb db kb D C { c with wait := l' } := by
  have nt : ∀ i g, i ≠ .c → i ≠ .w → owner cb sb qb db kb wv D C i = some g → ¬ Touch (owner cb sb qb db kb wv D C) (fun i => i = .c ∨ i = .w) g :=
    fun i g h1 h2 hg => h.dist.not_touch (by rintro (e | e); exact h1 e; exact h2 e) hg
  refine ⟨hb, ho, h.st.keep k (nt .s _ (by simp) (by simp) rfl), h.sq.keep k (nt .q _ (by simp) (by simp) rfl), h.dn.keep k (nt .d _ (by simp) (by simp) rfl), h.ca.keep k (nt .k _ (by simp) (by simp) rfl), h.dl, h.cl,
   fun p v l h1 h2 => (h.dns p v l h1 h2).keep k (fun g hg => nt (.dn p) g (by simp) (by simp) ((own_dn h1).trans hg)), fun p v l h1 h2 => (h.cas p v l h1 h2).keep k (fun g hg => nt (.ca p) g (by simp) (by simp) ((own_ca h1).trans hg)), h.lc, h.ls, h.lq, h.ld, h.lk, h.nd, h.nc, ?_⟩
  exact h.dist.turn .w (fun j g hj => (h.lt hj).2) (fun j hj => by unfold owner; split <;> first | rfl | exact absurd rfl hj) hf

/-- a state is stored -/
theorem CAt.setSt (h : CAt w B cb lv rv sv m wv sb qb db kb D C c) (p : Nat) (x : Int) : CAt (w.setCell ⟨sb, p, none⟩ (.int .i64 x)) B cb lv rv sv m wv sb qb db kb D C { c with states := c.states.set p x } ∧ KeptF (Touch (owner cb sb qb db kb wv D C) (fun i => i = .s)) w (w.setCell ⟨sb, p, none⟩ (.int .i64 x)) := by
  have k : KeptF (Touch (owner cb sb qb db kb wv D C) (fun i => i = .s)) w (w.setCell ⟨sb, p, none⟩ (.int .i64 x)) := (KeptF.refl _ w).setCell (p := ⟨sb, p, none⟩) (.inl ⟨.s, rfl, rfl⟩) _
  have nt : ∀ i g, i ≠ .s → owner cb sb qb db kb wv D C i = some g → ¬ Touch (owner cb sb qb db kb wv D C) (fun i => i = .s) g :=
    fun i g h1 hg => h.dist.not_touch h1 hg
  have hs := h.st.set p (.int .i64 x)
  rw [ints_set] at hs
  exact ⟨⟨h.blk.keep k (nt .c _ (by simp) rfl), h.wait.keep k (fun g hg => nt .w g (by simp) hg), hs, h.sq.keep k (nt .q _ (by simp) rfl), h.dn.keep k (nt .d _ (by simp) rfl), h.ca.keep k (nt .k _ (by simp) rfl), h.dl, h.cl,
   fun p v l h1 h2 => (h.dns p v l h1 h2).keep k (fun g hg => nt (.dn p) g (by simp) ((own_dn h1).trans hg)), fun p v l h1 h2 => (h.cas p v l h1 h2).keep k (fun g hg => nt (.ca p) g (by simp) ((own_ca h1).trans hg)), h.lc, h.ls, h.lq, h.ld, h.lk, h.nd, h.nc, h.dist⟩, k⟩

/-- a process's next Seq is stored -/
theorem CAt.setSq (h : CAt w B cb lv rv sv m wv sb qb db kb D C c) (p : Nat) (x : Int) : CAt (w.setCell ⟨qb, p, none⟩ (.int .i64 x)) B cb lv rv sv m wv sb qb db kb D C { c with seqs := c.seqs.set p x } ∧ KeptF (Touch (owner cb sb qb db kb wv D C) (fun i => i = .q)) w (w.setCell ⟨qb, p, none⟩ (.int .i64 x)) := by
  have k : KeptF (Touch (owner cb sb qb db kb wv D C) (fun i => i = .q)) w (w.setCell ⟨qb, p, none⟩ (.int .i64 x)) := (KeptF.refl _ w).setCell (p := ⟨qb, p, none⟩) (.inl ⟨.q, rfl, rfl⟩) _
  have nt : ∀ i g, i ≠ .q → owner cb sb qb db kb wv D C i = some g → ¬ Touch (owner cb sb qb db kb wv D C) (fun i => i = .q) g :=
    fun i g h1 hg => h.dist.not_touch h1 hg
  have hs := h.sq.set p (.int .i64 x)
  rw [ints_set] at hs
  exact ⟨⟨h.blk.keep k (nt .c _ (by simp) rfl), h.wait.keep k (fun g hg => nt .w g (by simp) hg), h.st.keep k (nt .s _ (by simp) rfl), hs, h.dn.keep k (nt .d _ (by simp) rfl), h.ca.keep k (nt .k _ (by simp) rfl), h.dl, h.cl,
   fun p v l h1 h2 => (h.dns p v l h1 h2).keep k (fun g hg => nt (.dn p) g (by simp) ((own_dn h1).trans hg)), fun p v l h1 h2 => (h.cas p v l h1 h2).keep k (fun g hg => nt (.ca p) g (by simp) ((own_ca h1).trans hg)), h.lc, h.ls, h.lq, h.ld, h.lk, h.nd, h.nc, h.dist⟩, k⟩

theorem CAt.setAll (h : CAt w B cb lv rv sv m wv sb qb db kb D C c) (n : Nat) : CAt (w.setCell ⟨cb, 11, none⟩ (.int .i64 n)) B cb lv rv sv m wv sb qb db kb D C { c with all := n } ∧ KeptF (Touch (owner cb sb qb db kb wv D C) (fun i => i = .c)) w (w.setCell ⟨cb, 11, none⟩ (.int .i64 n)) := by
  have k : KeptF (Touch (owner cb sb qb db kb wv D C) (fun i => i = .c)) w (w.setCell ⟨cb, 11, none⟩ (.int .i64 n)) := (KeptF.refl _ w).setCell (p := ⟨cb, 11, none⟩) (.inl ⟨.c, rfl, rfl⟩) _
  have nt : ∀ i g, i ≠ .c → owner cb sb qb db kb wv D C i = some g → ¬ Touch (owner cb sb qb db kb wv D C) (fun i => i = .c) g :=
    fun i g h1 hg => h.dist.not_touch h1 hg
  have hs := h.blk.set 11 (.int .i64 n)
  exact ⟨⟨hs, h.wait.keep k (fun g hg => nt .w g (by simp) hg), h.st.keep k (nt .s _ (by simp) rfl), h.sq.keep k (nt .q _ (by simp) rfl), h.dn.keep k (nt .d _ (by simp) rfl), h.ca.keep k (nt .k _ (by simp) rfl), h.dl, h.cl,
   fun p v l h1 h2 => (h.dns p v l h1 h2).keep k (fun g hg => nt (.dn p) g (by simp) ((own_dn h1).trans hg)), fun p v l h1 h2 => (h.cas p v l h1 h2).keep k (fun g hg => nt (.ca p) g (by simp) ((own_ca h1).trans hg)), h.lc, h.ls, h.lq, h.ld, h.lk, h.nd, h.nc, h.dist⟩, k⟩

theorem set_toArray (D : List Value) (p : Nat) (v : Value) : D.toArray.setIfInBounds p v = (D.set p v).toArray := by simp

/-- a process's row of what was done turns -/
theorem CAt.newDone (h : CAt w B cb lv rv sv m wv sb qb db kb D C c) {p : Nat} {v v' : Value} {l' : List Dn} (hv : D[p]? = some v) (k : KeptF (Touch (owner cb sb qb db kb wv D C) (fun i => i = .d ∨ i = .dn p)) w w')
    (hb : Blk w' db (D.set p v').toArray 61) (ho : Own dnE w' B v' l') (hf : ∀ g, v'.ownBlock = some g → v.ownBlock = some g ∨ w.heap.size ≤ g) :
    CAt w' B cb lv rv sv m wv sb qb db kb (D.set p v') C { c with done := c.done.set p l' } := by
  have nt : ∀ i g, i ≠ .d → i ≠ .dn p → owner cb sb qb db kb wv D C i = some g → ¬ Touch (owner cb sb qb db kb wv D C) (fun i => i = .d ∨ i = .dn p) g :=
    fun i g h1 h2 hg => h.dist.not_touch (by rintro (e | e); exact h1 e; exact h2 e) hg
  have hp := get_lt hv
  refine ⟨h.blk.keep k (nt .c _ (by simp) (by simp) rfl), h.wait.keep k (fun g hg => nt .w g (by simp) (by simp) hg), h.st.keep k (nt .s _ (by simp) (by simp) rfl), h.sq.keep k (nt .q _ (by simp) (by simp) rfl), hb, h.ca.keep k (nt .k _ (by simp) (by simp) rfl), by simp [h.dl], h.cl,
   fun q u l h1 h2 => ?_, fun p v l h1 h2 => (h.cas p v l h1 h2).keep k (fun g hg => nt (.ca p) g (by simp) (by simp) ((own_ca h1).trans hg)), h.lc, h.ls, h.lq, h.ld, h.lk, by simp [h.nd], h.nc, ?_⟩
  · rcases set_get h1 with ⟨e1, e2⟩ | ⟨e1, e2⟩
    · rcases set_get h2 with ⟨e3, e4⟩ | ⟨e3, _⟩
      · rw [e2, e4]; exact ho
      · exact absurd e1 e3
    · rcases set_get h2 with ⟨e3, _⟩ | ⟨_, e4⟩
      · exact absurd e3 e1
      · exact (h.dns q u l e2 e4).keep k (fun g hg => nt (.dn q) g (by simp) (by simp [e1]) ((own_dn e2).trans hg))
  · refine h.dist.turn (.dn p) (fun j g hj => (h.lt hj).2) (fun j hj => ?_) (fun g hg => ?_)
    · unfold owner
      split <;> first | rfl | skip
      rename_i q
      have : q ≠ p := fun e => hj (by rw [e])
      rw [List.getElem?_set_ne (by omega)]
    · rw [own_dn (v := v') (by rw [List.getElem?_set_self hp])] at hg
      rw [own_dn hv]
      exact hf g hg

theorem CAt.newCause (h : CAt w B cb lv rv sv m wv sb qb db kb D C c) {p : Nat} {v v' : Value} {l' : List Int} (hv : C[p]? = some v) (k : KeptF (Touch (owner cb sb qb db kb wv D C) (fun i => i = .k ∨ i = .ca p)) w w')
    (hb : Blk w' kb (C.set p v').toArray 55) (ho : Own inE w' B v' l') (hf : ∀ g, v'.ownBlock = some g → v.ownBlock = some g ∨ w.heap.size ≤ g) :
    CAt w' B cb lv rv sv m wv sb qb db kb D (C.set p v') { c with causes := c.causes.set p l' } := by
  have nt : ∀ i g, i ≠ .k → i ≠ .ca p → owner cb sb qb db kb wv D C i = some g → ¬ Touch (owner cb sb qb db kb wv D C) (fun i => i = .k ∨ i = .ca p) g :=
    fun i g h1 h2 hg => h.dist.not_touch (by rintro (e | e); exact h1 e; exact h2 e) hg
  have hp := get_lt hv
  refine ⟨h.blk.keep k (nt .c _ (by simp) (by simp) rfl), h.wait.keep k (fun g hg => nt .w g (by simp) (by simp) hg), h.st.keep k (nt .s _ (by simp) (by simp) rfl), h.sq.keep k (nt .q _ (by simp) (by simp) rfl), h.dn.keep k (nt .d _ (by simp) (by simp) rfl), hb, h.dl, by simp [h.cl],
   fun p v l h1 h2 => (h.dns p v l h1 h2).keep k (fun g hg => nt (.dn p) g (by simp) (by simp) ((own_dn h1).trans hg)), fun q u l h1 h2 => ?_, h.lc, h.ls, h.lq, h.ld, h.lk, h.nd, by simp [h.nc], ?_⟩
  · rcases set_get h1 with ⟨e1, e2⟩ | ⟨e1, e2⟩
    · rcases set_get h2 with ⟨e3, e4⟩ | ⟨e3, _⟩
      · rw [e2, e4]; exact ho
      · exact absurd e1 e3
    · rcases set_get h2 with ⟨e3, _⟩ | ⟨_, e4⟩
      · exact absurd e3 e1
      · exact (h.cas q u l e2 e4).keep k (fun g hg => nt (.ca q) g (by simp) (by simp [e1]) ((own_ca e2).trans hg))
  · refine h.dist.turn (.ca p) (fun j g hj => (h.lt hj).2) (fun j hj => ?_) (fun g hg => ?_)
    · unfold owner
      split <;> first | rfl | skip
      rename_i q
      have : q ≠ p := fun e => hj (by rw [e])
      rw [List.getElem?_set_ne (by omega)]
    · rw [own_ca (v := v') (by rw [List.getElem?_set_self hp])] at hg
      rw [own_ca hv]
      exact hf g hg

end
end Go.Proofs.Ytaieackeflmhgaa

namespace Go.Proofs.Ytaieackeflmhgaa
open Go.RowKit Go.Sort Go.Maps

structure Pair (w : World) (B qb mb : Nat) (dv : Value) (n : Nat) (ds : List Day) (rest : Array Value) (Tq : TypeId) (width : Int) (pushed : Nat) (lv : Value) (l : List It) (L : List Ent) : Prop where
  core : QCore w B qb mb dv n ds rest Tq width (L.length : Int) (pushed : Int)
  filled : Filled width ds
  perm : L.Perm (allEs ds)
  sorted : L.Pairwise (fun a b => a.r < b.r)
  rank : ∀ e ∈ L, 0 ≤ e.r ∧ e.r < pushed
  items : L.map Ent.it = l
  inint : ∀ e ∈ L, InInt e.it.t
  list : ISl w B lv l
  apartL : ∀ g, lv.ownBlock = some g → ¬ Foot qb mb dv ds g
  wid1 : 1 ≤ width
  wid2 : width ≤ 100
  nle : n ≤ pushed
  lenle : L.length ≤ pushed

/-- the blocks of a queue and of its list -/
def PFoot (qb mb : Nat) (dv : Value) (ds : List Day) (lv : Value) (k : Nat) : Prop := Foot qb mb dv ds k ∨ lv.ownBlock = some k

section
variable {w w' : World} {B qb mb : Nat} {dv : Value} {n : Nat} {ds : List Day} {rest : Array Value} {Tq : TypeId} {width : Int} {pushed : Nat} {lv : Value} {l : List It} {L : List Ent}

theorem Pair.foot_lt (h : Pair w B qb mb dv n ds rest Tq width pushed lv l L) {k : Nat} (hk : PFoot qb mb dv ds lv k) : B ≤ k ∧ k < w.heap.size := by
  rcases hk with hk | hk
  · exact h.core.foot_lt hk
  · exact h.list.lt hk

theorem Pair.keep {G : Nat → Prop} (h : Pair w B qb mb dv n ds rest Tq width pushed lv l L) (k : KeptF G w w') (hG : ∀ i, PFoot qb mb dv ds lv i → ¬ G i) : Pair w' B qb mb dv n ds rest Tq width pushed lv l L :=
  ⟨h.core.keep k (fun i hi => hG i (.inl hi)), h.filled, h.perm, h.sorted, h.rank, h.items, h.inint, h.list.keep k (fun g hg => hG g (.inr hg)), h.apartL, h.wid1, h.wid2, h.nle, h.lenle⟩

theorem length_allEs : ∀ (ds : List Day), (∀ y ∈ ds, y.es ≠ []) → ds.length ≤ (allEs ds).length
  | [], _ => Nat.zero_le _
  | y :: ds, h => by
    have h1 := length_allEs ds (fun z hz => h z (List.mem_cons_of_mem _ hz))
    have h2 : 0 < y.es.length := List.length_pos_iff.2 (h y (List.mem_cons_self ..))
    simp only [allEs, List.flatMap_cons, List.length_append, List.length_cons] at *
    omega

theorem es_le_allEs : ∀ (ds : List Day) (x : Day), x ∈ ds → x.es.length ≤ (allEs ds).length
  | [], x, h => by simp at h
  | y :: ds, x, h => by
    simp only [allEs, List.flatMap_cons, List.length_append]
    rcases List.mem_cons.1 h with h | h
    · subst h; omega
    · have := es_le_allEs ds x h
      simp only [allEs] at this
      omega

theorem Pair.lens (h : Pair w B qb mb dv n ds rest Tq width pushed lv l L) : ds.length ≤ L.length ∧ (∀ x ∈ ds, x.es.length ≤ L.length) ∧ l.length = L.length := by
  refine ⟨?_, fun x hx => ?_, by rw [← h.items]; simp⟩
  · rw [h.perm.length_eq]; exact length_allEs ds (fun y hy => (h.filled y hy).1)
  · rw [h.perm.length_eq]; exact es_le_allEs ds x hx

/-- a time with a later date is later -/
theorem later_date {a b w : Int} (hw : 1 ≤ w) (h : a.tdiv w < b.tdiv w) : a < b := by
  rcases Int.lt_or_le a b with h' | h'
  · exact h'
  · have := Int.tdiv_le_tdiv (c := w) (by omega) h'
    omega

theorem QCore.top_least {x : Day} {r : List Day} {count pushed' : Int} {e : Ent} {es : List Ent} (h : QCore w B qb mb dv n (x :: r) rest Tq width count pushed') (hw : 1 ≤ width) (hF : Filled width (x :: r)) (he : x.es = e :: es) :
    ∀ a ∈ allEs (x :: r), a.ltB e = false := by
  intro a ha
  simp only [allEs, List.flatMap_cons, List.mem_append, List.mem_flatMap] at ha
  have hee : e ∈ x.es := by rw [he]; simp
  rcases ha with ha | ⟨y, hy, ha⟩
  · exact HeapL.least_mem Ent.orderly (h.each x (by simp)).2.2 (by rw [he]; rfl) ha
  · have hm : y.dy ∈ ((x :: r).map Day.dy) := List.mem_map_of_mem (List.mem_cons_of_mem _ hy)
    have h1 := HeapL.least_mem Dy.orderly h.heap (x := x.dy) rfl hm
    have h1' : decide (y.date < x.date) = false := h1
    rw [decide_eq_false_iff_not] at h1'
    have hnd := h.nodup
    rw [List.map_cons, List.nodup_cons] at hnd
    have hne : y.date ≠ x.date := fun e => hnd.1 (by rw [← e]; exact List.mem_map_of_mem hy)
    have ey := (hF y (List.mem_cons_of_mem _ hy)).2 a ha
    have ex := (hF x (by simp)).2 e hee
    have hlt : e.it.t < a.it.t := later_date hw (by rw [ex, ey]; omega)
    exact Ent.ltB_asymm ((Ent.ltB_iff e a).2 (.inl (.inl hlt)))

/-- the first least item of the list is the least entry of the queue -/
theorem pick_same {L : List Ent} {e : Ent} {j : Nat} {x : It} (hs : L.Pairwise (fun a b => a.r < b.r)) (he : e ∈ L) (hmin : ∀ a ∈ L, a.ltB e = false)
    (hx : (L.map Ent.it)[j]? = some x) (h1 : ∀ (m : Nat) (y : It), m < (L.map Ent.it).length → (L.map Ent.it)[m]? = some y → ¬ y.lt x) (h2 : ∀ (m : Nat) (y : It), m < j → (L.map Ent.it)[m]? = some y → x.lt y) :
    L[j]? = some e := by
  obtain ⟨m, hm⟩ := List.getElem?_of_mem he
  have hml := get_lt hm
  rw [List.getElem?_map] at hx
  obtain ⟨a, ha, rfl⟩ := Option.map_eq_some_iff.1 hx
  have hjl := get_lt ha
  have hma : (L.map Ent.it)[m]? = some e.it := by rw [List.getElem?_map, hm]; rfl
  have k1 := h1 m e.it (by simpa using hml) hma
  have k2 := hmin a (List.mem_of_getElem? ha)
  have k2' : ¬ a.lt e := fun h => by rw [(Ent.ltB_iff a e).2 h] at k2; cases k2
  have hpair := List.pairwise_iff_getElem.1 hs
  rcases Nat.lt_trichotomy m j with hmj | hmj | hmj
  · have := h2 m e.it hmj hma
    exact absurd (Or.inl this) k2'
  · subst hmj; exact hm
  · have hr := hpair j m hjl hml hmj
    have ea : L[j] = a := by
      have := List.getElem?_eq_getElem hjl
      rw [ha] at this; simpa using this.symm
    have ee : L[m] = e := by
      have := List.getElem?_eq_getElem hml
      rw [hm] at this; simpa using this.symm
    rw [ea, ee] at hr
    refine absurd ?_ k2'
    unfold Ent.lt It.lt It.same at *
    omega

theorem perm_eraseIdx {α : Type} : ∀ (L : List α) (j : Nat) (a : α), L[j]? = some a → L.Perm (a :: L.eraseIdx j)
  | [], j, a, h => by simp at h
  | b :: L, 0, a, h => by
    simp only [List.getElem?_cons_zero, Option.some.injEq] at h
    subst h
    exact List.Perm.refl _
  | b :: L, j + 1, a, h => by
    simp only [List.getElem?_cons_succ] at h
    exact ((perm_eraseIdx L j a h).cons b).trans (List.Perm.swap _ _ _)

theorem map_eraseIdx' {α β : Type} (f : α → β) : ∀ (L : List α) (j : Nat), (L.eraseIdx j).map f = (L.map f).eraseIdx j
  | [], j => by simp
  | b :: L, 0 => rfl
  | b :: L, j + 1 => by simp only [List.eraseIdx_cons_succ, List.map_cons, map_eraseIdx' f L j]

end

end Go.Proofs.Ytaieackeflmhgaa

