/-
  The program: a process takes in what has come.
  The program: a process does what it is sure of.
  The program: advance.
  The law's made: a model, copied.
-/
import Derived.Test.YtaieackeflmhgaaSafe10
import Derived.Test.YtaieackeflmhgaaSafe11
import Derived.Laws.OwnMore
import Derived.Test.YtaieackeflmhgaaSafe5
import Derived.Deep.Cut
import Derived.Deep.CutRange
import Derived.Deep.DeepCutAuto
namespace Go.Proofs.Ytaieackeflmhgaa
open Go.RowKit Go.Sort Go.Maps

/-- a process in memory and in the plain net -/
structure PRel (en : Int) (i : Nat) (p : Pr) (a : NP) : Prop where
  num : p.num = (i : Int)
  en : p.en = en
  hr : p.hr = a.hr
  ws : p.ws = a.ws
  st : p.st = a.st
  sent : p.sent = a.sent
  dn : p.dn = a.dn
  its : p.its.Perm a.q
  pu : p.pushed = a.dn.length + a.q.length

/-- a process in memory has turned: what it is, where it lies -/
structure PGo (w w' : World) (B : Nat) (p p' : Pr) : Prop where
  at_ : PAt w' B p'
  qb : p'.qb = p.qb
  kept : KeptF (PF p) w w'
  foot : ∀ k, PF p' k → PF p k ∨ w.heap.size ≤ k
theorem PTurn.go {w w' : World} {B : Nat} {p p' : Pr} (h : PTurn w w' B p p') : PGo w w' B p p' := ⟨h.at_, h.qb, h.kept, h.foot⟩
theorem PGo.refl {w : World} {B : Nat} {p : Pr} (h : PAt w B p) : PGo w w B p p := ⟨h, rfl, KeptF.refl _ _, fun _ hk => .inl hk⟩
theorem PGo.trans {w w' w'' : World} {B : Nat} {p p' p'' : Pr} (h : PGo w w' B p p') (k : PGo w' w'' B p' p'') : PGo w w'' B p p'' := by
  refine ⟨k.at_, k.qb.trans h.qb, h.kept.trans' k.kept (fun i hi hf => ?_), fun i hi => ?_⟩
  · rcases h.foot i hf with h1 | h1
    · exact h1
    · omega
  · rcases k.foot i hi with h1 | h1
    · exact h.foot i h1
    · exact .inr (Nat.le_trans h.kept.size h1)
theorem PGo.grow {w w' w'' : World} {B : Nat} {p p' : Pr} (h : PGo w w' B p p') (k : KeptF (fun _ => False) w' w'') : PGo w w'' B p p' :=
  ⟨h.at_.keep k (fun _ _ e => e), h.qb, h.kept.trans (k.weaken (fun _ _ e => e.elim)), h.foot⟩
theorem PGo.ahead {w w0 w' : World} {B : Nat} {p p' : Pr} (k : KeptF (fun _ => False) w w0) (h : PGo w0 w' B p p') : PGo w w' B p p' :=
  ⟨h.at_, h.qb, (k.weaken (fun _ _ e => e.elim)).trans h.kept, fun i hi => (h.foot i hi).imp id (fun e => Nat.le_trans k.size e)⟩

theorem PAt.setHr {w w' : World} {B : Nat} {p : Pr} (h : PAt w B p) {hr' : Int → Option Int} (hm : HMap w' p.hb hr') (k : KeptF (fun i => i = p.hb) w w') : PGo w w' B p { p with hr := hr' } := by
  have hne : ∀ i, Foot p.qb p.mb p.dv p.ds i → ¬ i = p.hb := fun i hi e => (h.cap p.hb (.inl rfl)).1 (e ▸ hi)
  refine ⟨⟨h.core.keep k hne, h.filled, h.wid1, h.wid2, h.nle, h.lenle, h.own.keep k (fun g hg e => (h.cap p.hb (.inl rfl)).2 (e ▸ hg)), h.oap, hm, h.hlow, h.wown.keep k (fun g hg e => h.wh (e ▸ hg)), h.wh, h.cap⟩, rfl, k.weaken (fun i _ e => .inr (.inr (.inl e))), fun _ hi => .inl hi⟩
theorem PAt.setWs {w w' : World} {B : Nat} {p : Pr} (h : PAt w B p) {ws' : List Wy} (ho : Own wyE w' B p.wv ws') (k : KeptF (fun g => p.wv.ownBlock = some g) w w') : PGo w w' B p { p with ws := ws' } := by
  refine ⟨⟨h.core.keep k (fun i hi e => (h.cap i (.inr e)).1 hi), h.filled, h.wid1, h.wid2, h.nle, h.lenle, h.own.keep k (fun g hg e => (h.cap g (.inr e)).2 hg), h.oap, h.hmap.keep k h.wh, h.hlow, ho, h.wh, h.cap⟩, rfl, k.weaken (fun i _ e => .inr (.inr (.inr e))), fun _ hi => .inl hi⟩

set_option maxRecDepth 100000 in
set_option maxHeartbeats 4000000 in
theorem takeIn_any (w : World) (B : Nat) (p : Pr) (x : Pcl) (h : PAt w B p) (hB : B ≤ w.heap.size) (hkd : x.kd = 0 ∨ x.kd = 1 ∨ x.kd = 2) (hk : 0 ≤ x.k ∧ x.k < 12) (ht : x.kd ≠ 2 → 0 ≤ x.it.t ∧ x.it.t ≤ 1000) (hb : p.pushed ≤ 5000) :
    Calls Try.prog 108 #[.pointer (some ⟨p.qb, 0, none⟩), .agg #[.int .i64 x.it.t, .int .i64 x.it.f, .int .i64 x.it.s, .int .i64 x.it.l, .int .i64 x.kd, .int .i64 x.k]] w fun e w' => e = .returned (.tuple #[]) ∧ ∃ p', PGo w w' B p p' ∧ (∀ (en : Int) (i : Nat) (a : NP), PRel en i p a → PRel en i p' (takeIn a x)) := by
  obtain ⟨W0, hW0⟩ : ∃ W0, W0 = w.alloc (.cells #[.int .i64 x.it.t, .int .i64 x.it.f, .int .i64 x.it.s, .int .i64 x.it.l, .int .i64 x.kd, .int .i64 x.k] 159) := ⟨_, rfl⟩
  have HW0 : Hid (W0 = w.alloc (.cells #[.int .i64 x.it.t, .int .i64 x.it.f, .int .i64 x.it.s, .int .i64 x.it.l, .int .i64 x.kd, .int .i64 x.k] 159)) := hW0
  have hK0 : KeptF (fun _ => False) w W0 := by rw [hW0]; exact (KeptF.refl _ w).alloc _
  have hxb : Blk W0 w.heap.size #[.int .i64 x.it.t, .int .i64 x.it.f, .int .i64 x.it.s, .int .i64 x.it.l, .int .i64 x.kd, .int .i64 x.k] 159 := by rw [hW0]; exact heap_alloc_new w _
  have hP0 := h.keep hK0 (fun _ _ e => e)
  clear hW0
  have x0 : W0.cell? ⟨w.heap.size, 0, none⟩ = some (.int .i64 x.it.t) := hxb.cell 0
  have x1 : W0.cell? ⟨w.heap.size, 1, none⟩ = some (.int .i64 x.it.f) := hxb.cell 1
  have x2 : W0.cell? ⟨w.heap.size, 2, none⟩ = some (.int .i64 x.it.s) := hxb.cell 2
  have x3 : W0.cell? ⟨w.heap.size, 3, none⟩ = some (.int .i64 x.it.l) := hxb.cell 3
  have x4 : W0.cell? ⟨w.heap.size, 4, none⟩ = some (.int .i64 x.kd) := hxb.cell 4
  have x5 : W0.cell? ⟨w.heap.size, 5, none⟩ = some (.int .i64 x.k) := hxb.cell 5
  have hlx := hxb.lt
  have hlq := hP0.core.blk.lt
  have c6 : W0.cell? ⟨p.qb, 6, none⟩ = some (.map (some p.hb)) := hP0.clk.2.1
  have hPd := hP0.keep (KeptF.drew (KeptF.refl (fun _ => False) W0)) (fun _ _ e => e)
  go_enter Try.func108, Try.ntmps108
  go_upto_region 1 with fail
  rw [← HW0.out]
  rcases hkd with hkd | hkd | hkd
  · have hpush := pPush W0.drew B p x.it hPd (Nat.le_trans hB hK0.size) (by have := ht (by omega); unfold InInt; omega) hb
    rw [hkd] at x4
    go_wp2
    refine still_tail' 5 (by kernel_rfl) (by kernel_rfl) ?_
    simp only [List.take_succ_cons, List.take_zero, List.drop_succ_cons, List.drop_zero]
    repeat still_step
    refine wpStill_nil ?_
    go_wp2_with fail
    refine hpush.mono ?_
    rintro e1 w1 ⟨rfl, p', hT, hpp, hits⟩
    clear hpush x0 x1 x2 x3 x4 x5 c6
    go_wp2
    go_end0
    refine ⟨rfl, p', hT.go.ahead hK0.drew, fun en i a hr => ?_⟩
    have e : takeIn a x = { a with q := x.it :: a.q } := by unfold takeIn; rw [if_pos hkd]
    rw [e]
    refine ⟨hT.num.trans hr.num, hT.en.trans hr.en, hT.hr.trans hr.hr, hT.ws.trans hr.ws, hT.st.trans hr.st, hT.sent.trans hr.sent, hT.dn.trans hr.dn, hits.trans (hr.its.cons _), ?_⟩
    rw [hpp, hr.pu]; simp only [List.length_cons]; omega
  · have hhear := hear_any W0.drew p.qb 5 p.hb p.hr x.k x.it.t c6 hPd.hmap hk (ht (by omega))
    rw [hkd] at x4
    go_wp2
    refine still_tail' 8 (by kernel_rfl) (by kernel_rfl) ?_
    simp only [List.take_succ_cons, List.take_zero, List.drop_succ_cons, List.drop_zero]
    repeat still_step
    refine wpStill_nil ?_
    go_wp2_with fail
    refine hhear.mono ?_
    rintro e1 w1 ⟨rfl, hm1, hk1⟩
    clear hhear x0 x1 x2 x3 x4 x5 c6
    go_wp2
    go_end0
    refine ⟨rfl, _, (hPd.setHr hm1 hk1).ahead hK0.drew, fun en i a hr => ?_⟩
    have e : takeIn a x = { a with hr := fun j => if j = x.k then some x.it.t else a.hr j } := by unfold takeIn; rw [if_neg (by omega), if_pos hkd]
    rw [e]
    exact ⟨hr.num, hr.en, by simp only; rw [hr.hr], hr.ws, hr.st, hr.sent, hr.dn, hr.its, hr.pu⟩
  · have hhear := hearEnd_any W0.drew p.qb 5 p.hb p.hr x.k c6 hPd.hmap hk
    rw [hkd] at x4
    go_wp2
    refine still_tail' 5 (by kernel_rfl) (by kernel_rfl) ?_
    simp only [List.take_succ_cons, List.take_zero, List.drop_succ_cons, List.drop_zero]
    repeat still_step
    refine wpStill_nil ?_
    go_wp2_with fail
    refine hhear.mono ?_
    rintro e1 w1 ⟨rfl, hm1, hk1⟩
    clear hhear x0 x1 x2 x3 x4 x5 c6
    go_wp2
    go_end0
    refine ⟨rfl, _, (hPd.setHr hm1 hk1).ahead hK0.drew, fun en i a hr => ?_⟩
    have e : takeIn a x = { a with hr := fun j => if j = x.k then none else a.hr j } := by unfold takeIn; rw [if_neg (by omega), if_neg (by omega), if_pos hkd]
    rw [e]
    exact ⟨hr.num, hr.en, by simp only; rw [hr.hr], hr.ws, hr.st, hr.sent, hr.dn, hr.its, hr.pu⟩

end Go.Proofs.Ytaieackeflmhgaa

namespace Go.Proofs.Ytaieackeflmhgaa
open Go.RowKit Go.Sort Go.Maps

/-- a model without its starts -/
def keptM (m : Mdl) : Mdl := { m with starts := [] }
theorem Right.kept {m : Mdl} (h : Right m) : Right (keptM m) := by
  refine ⟨⟨h.lim.p1, h.lim.p2, h.lim.s1, h.lim.s2, h.lim.l1, h.lim.l2, h.lim.nl, h.lim.nr, Nat.zero_le _⟩, h.links, h.rules, fun j y hy => by simp [keptM] at hy⟩

def Pr.topI (p : Pr) : It := p.top.getD ⟨0, 0, 0, 0⟩
theorem pLeast_any (w : World) (B : Nat) (p : Pr) (h : PAt w B p) :
    Calls Try.prog 52 #[.pointer (some ⟨p.qb, 0, none⟩)] w fun e w' => e = .returned (.tuple #[.agg #[.int .i64 p.topI.t, .int .i64 p.topI.f, .int .i64 p.topI.s, .int .i64 p.topI.l], .bool p.top.isSome]) ∧ Below w.heap.size w w' := by
  unfold Pr.topI
  cases ht : p.top with
  | none => exact pLeast_none w B p h ht
  | some t => exact pLeast_some w B p t h ht

/-- all of a row of one's own is appended to another one -/
theorem wpList_append_both {P : Program} {w : World} {ops : Array Oper} {rest : List Oper} {o : Oper} {a : Act} {Q : Exit → Act → World → Prop} (hgd : o.guard = none) (s x : Operand) (t : TypeId)
    (ho : o.op = .call { callee := .builtin .append, args := #[s, x], argTypes := #[t, t] }) {α : Type} (E : Enc α)
    (base : Nat) (i : TypeInfo) (z : Value) (bytes : Nat) (ht : P.underlying t = some (.slice E.T)) (hi : P.info? E.T = some i) (hz : i.zero = some z)
    (hsize : i.size = E.sz) (hby : i.bytes = bytes) (hzs : z.cells.size = E.sz)
    (v xv : Value) (l0 l : List α) (B : Nat) (hs : a.eval s = v) (hown : Own E w base v l0) (hx : a.eval x = xv) (hsrc : Own E w B xv l)
    (h63 : l0.length + l.length ≤ maxLen) (hbytes : (l0.length + l.length) * bytes ≤ 140737488355328) (hbase : base ≤ w.heap.size)
    (h : ∀ v' w', Own E w' base v' (l0 ++ l) → w.grownBy w' v.ownBlock → (∀ g, v'.ownBlock = some g → v.ownBlock = some g ∨ w.heap.size ≤ g) → wpList P ops Q rest (a.put o.dst v') w') : wpList P ops Q (o :: rest) a w :=
  wpList_plain hgd fun _ hK => by
    rcases hsrc.form with ⟨hv, hl⟩ | ⟨g, cap, hv, hcap⟩
    · have hr := run_append_owned_none (P := P) w base t o.type E.T i E.sz ht hi v l0.length (flat E l0) hown
      subst hv hl
      unfold Oper.wp execOp
      simp only [ho, resolve, invoke, builtin, Sem.run_bind, Sem.run_pure, Result.andThen_ok, List.map_toArray, List.map_cons, List.map_nil, hs, hx, hr]
      exact hK _ _ (h v w (by rw [List.append_nil]; exact hown) ⟨rfl, rfl, rfl, Nat.le_refl _, fun _ _ _ => rfl⟩ (fun g hg => .inl hg))
    · subst hv
      have hc := hsrc.takeCells l.length (Nat.le_refl _)
      rw [List.take_length] at hc
      obtain ⟨v', w', hr, r1, r2, r3⟩ := run_append_ownX (P := P) w base t o.type E.T i z E.sz bytes ht hi hz hsize hby hzs E.pos v l0.length (flat E l0) hown ⟨g, 0, none⟩ l.length cap (flat E l) (flat_length E l) hc (flat_one E l) (by omega) hbytes hbase
      unfold Oper.wp execOp
      simp only [ho, resolve, invoke, builtin, Sem.run_bind, Sem.run_pure, Result.andThen_ok, List.map_toArray, List.map_cons, List.map_nil, hs, hx, hr]
      refine hK _ _ (h v' w' ?_ r2 r3)
      unfold Own
      rw [List.length_append, flat_append]
      exact r1

/-- how long the slice in a cell is -/
def lenAt (w : World) (a : Addr) : Nat := match w.cell? a with
  | some (.slice _ n _) => n
  | _ => 0
theorem PAt.lenAt {w : World} {B : Nat} {p : Pr} (h : PAt w B p) : Go.Proofs.Ytaieackeflmhgaa.lenAt w ⟨p.qb, 11, none⟩ = p.dn.length := by
  obtain ⟨ao, cap, hv, _⟩ := h.own.form'
  unfold Go.Proofs.Ytaieackeflmhgaa.lenAt
  rw [h.cells.2.2.2, hv]

/-- the first k of what is to be done -/
def dA (m : Mdl) (num en : Int) (a : NP) (k : Nat) : NP × List Pcl := doAll m num en ((toDo en a).take k) (a, [])
theorem dA_succ {m : Mdl} {num en : Int} {a : NP} {k : Nat} {x : It} (h : (toDo en a)[k]? = some x) : dA m num en a (k + 1) = ((doP m num en (dA m num en a k).1 x).1, (dA m num en a k).2 ++ (doP m num en (dA m num en a k).1 x).2) := by
  unfold dA
  rw [List.take_add_one, h]
  show doAll m num en ((toDo en a).take k ++ [x]) (a, []) = _
  rw [doAll_append]
  rfl
theorem dA_all {m : Mdl} {num en : Int} {a : NP} : advP m num en a = ({ (dA m num en a (toDo en a).length).1 with q := left_ en a, ws := a.ws.map (wyN en (hz en a.hr)) }, (dA m num en a (toDo en a).length).2 ++ wyO en (hz en a.hr) a.ws) := by
  unfold advP dA
  simp only
  rw [doAll_q, List.take_length]
theorem dA_keep (m : Mdl) (num en : Int) (a : NP) (k : Nat) (hk : k ≤ (toDo en a).length) : (dA m num en a k).1.hr = a.hr ∧ (dA m num en a k).1.ws = a.ws ∧ (dA m num en a k).1.dn.length = a.dn.length + k := by
  have := doAll_keep m num en ((toDo en a).take k) (a, [])
  refine ⟨this.2.1, this.2.2.1, ?_⟩
  have h4 := this.2.2.2
  rw [List.length_take, Nat.min_eq_left hk] at h4
  exact h4

/-- what waits at a process when the first k are done -/
def qA (en : Int) (a : NP) (k : Nat) : List It := (toDo en a).drop k ++ left_ en a

theorem toDo_mem {en : Int} {a : NP} {x : It} (h : x ∈ toDo en a) : x ∈ a.q ∧ x.t < hz en a.hr := by
  have := List.mem_filter.1 ((srtI_perm _).mem_iff.1 h)
  exact ⟨this.1, by simpa using this.2⟩
theorem left_mem {en : Int} {a : NP} {x : It} (h : x ∈ left_ en a) : x ∈ a.q ∧ ¬ x.t < hz en a.hr := by
  have := List.mem_filter.1 h
  exact ⟨this.1, by simpa using this.2⟩
theorem parted (en : Int) (a : NP) : a.q.Perm (toDo en a ++ left_ en a) := by
  unfold toDo left_
  refine List.Perm.trans ?_ ((srtI_perm _).symm.append_right _)
  have := List.filter_append_perm (fun x : It => decide (x.t < hz en a.hr)) a.q
  refine this.symm.trans (List.Perm.append_left _ (List.Perm.of_eq (List.filter_congr (fun x _ => ?_))))
  by_cases e : x.t < hz en a.hr <;> simp [e]

/-- the least of what waits is the next to be done; if none is to be done, p is not sure of it -/
theorem top_is {w : World} {B : Nat} {p : Pr} (h : PAt w B p) {en : Int} {a : NP} {k : Nat} (hq : p.its.Perm (qA en a k)) (hs : (toDo en a).Pairwise It.lt) :
    (∀ x, (toDo en a)[k]? = some x → p.top = some x) ∧ ((toDo en a).length ≤ k → ∀ t, p.top = some t → ¬ t.t < hz en a.hr) := by
  refine ⟨fun x hx => ?_, fun hk t ht => ?_⟩
  · have hd : (toDo en a).drop k = x :: (toDo en a).drop (k + 1) := by
      have hk := get_lt hx
      rw [List.drop_eq_getElem_cons hk]
      rw [List.getElem?_eq_getElem hk, Option.some.injEq] at hx
      rw [hx]
    have hxm : x ∈ p.its := hq.mem_iff.2 (by unfold qA; rw [hd]; simp)
    cases ht : p.top with
    | none => rw [h.its_nil ht] at hxm; simp at hxm
    | some t =>
      obtain ⟨h1, h2⟩ := h.top_least ht
      have h3 := h2 x hxm
      have h4 := hq.mem_iff.1 h1
      unfold qA at h4
      rw [hd] at h4
      rcases List.mem_append.1 h4 with h5 | h5
      · rcases List.mem_cons.1 h5 with h6 | h6
        · rw [h6]
        · exfalso
          obtain ⟨j, hj⟩ := List.getElem?_of_mem h6
          rw [List.getElem?_drop] at hj
          exact h3 (srt_idx hs hx hj (by omega))
      · exfalso
        have h6 := (left_mem h5).2
        have h7 := (toDo_mem (List.mem_of_getElem? hx)).2
        exact h3 (by unfold It.lt; omega)
  · have h1 := hq.mem_iff.1 (h.top_least ht).1
    unfold qA at h1
    rw [List.drop_of_length_le hk, List.nil_append] at h1
    exact (left_mem h1).2

end Go.Proofs.Ytaieackeflmhgaa

namespace Go.Proofs.Ytaieackeflmhgaa
open Go.RowKit Go.Sort Go.Maps

theorem und_pcs : Try.prog.underlying 145 = some (.slice 159) := by kernel_rfl

theorem doAll_sent {m : Mdl} (hm : Right m) (num en : Int) : ∀ (l : List It) (s : NP × List Pcl), (∀ x ∈ l, 0 ≤ x.t ∧ x.t < 200) → s.1.sent ≤ (doAll m num en l s).1.sent ∧ (doAll m num en l s).1.sent ≤ s.1.sent + 4 * (l.length : Int)
  | [], s, _ => by simp [doAll]
  | x :: l, s, h => by
    have h1 := doAll_sent hm num en l ((doP m num en s.1 x).1, s.2 ++ (doP m num en s.1 x).2) (fun y hy => h y (by simp [hy]))
    have hx := h x (by simp)
    have h2 := ruleOut_len m num s.1.st s.1.sent x
    have h3 := (ruleOut_ok hm (num := num) (st := s.1.st) (sent := s.1.sent) hx.1 hx.2).1
    have h4 : (doP m num en s.1 x).1.sent = (ruleOut m num s.1.st s.1.sent x).2.2 := rfl
    simp only [doAll]
    simp only [h4, h2, List.length_cons] at h1 ⊢
    omega

/-- what advance holds at the loop's head: k events are done -/
structure AdvAt (w wr : World) (B : Nat) (m : Mdl) (en : Int) (i : Nat) (p : Pr) (a : NP) (k : Nat) (p' : Pr) (v : Value) (xb : Nat) : Prop where
  go : PGo w wr B p p'
  rel : PRel en i p' { (dA m (i : Int) en a k).1 with q := qA en a k }
  out : Own pclE wr w.heap.size v (dA m (i : Int) en a k).2
  x : Blk wr xb #[.int .i64 p'.topI.t, .int .i64 p'.topI.f, .int .i64 p'.topI.s, .int .i64 p'.topI.l] 120
  xlow : w.heap.size ≤ xb
  xp : ¬ PF p' xb
  xv : v.ownBlock ≠ some xb
  vp : ∀ g, v.ownBlock = some g → ¬ PF p' g

set_option maxRecDepth 100000 in
set_option maxHeartbeats 16000000 in
theorem advance_any (w : World) (B Bm : Nat) (lv rv : Value) (m : Mdl) (R : List RuleV) (en : Int) (i : Nat) (p : Pr) (a : NP) (h : PAt w B p) (hr : PRel en i p a) (hM : ModelAt w Bm lv rv (.slice none 0 0) (keptM m) R) (hm : Right m) (hBm : Bm ≤ B) (hB : B ≤ w.heap.size)
    (hen0 : 0 ≤ en) (hen : en ≤ 200) (hs : (toDo en a).Pairwise It.lt) (ht : ∀ x ∈ a.q, 0 ≤ x.t ∧ x.t ≤ 200) (hsu0 : 0 ≤ hz en a.hr) (hsu1 : hz en a.hr ≤ en) (hw : ∀ x ∈ a.ws, 0 ≤ x.a ∧ x.a ≤ 60) (hwl : a.ws.length ≤ 12)
    (hse0 : 0 ≤ a.sent) (hse1 : a.sent + 4 * (toDo en a).length ≤ 5000) (hdl : a.dn.length + a.q.length ≤ 2000) :
    Calls Try.prog 85 #[.pointer (some ⟨p.qb, 0, none⟩), .agg #[.int .i64 m.procs, .int .i64 m.states, .int .i64 m.loads, lv, rv, .slice none 0 0]] w fun e w' => ∃ (v : Value) (p' : Pr), e = .returned v ∧ Own pclE w' w.heap.size v (advP m (i : Int) en a).2 ∧ PGo w w' B p p' ∧ PRel en i p' (advP m (i : Int) en a).1 ∧ (∀ g, v.ownBlock = some g → ¬ PF p' g) := by
  obtain ⟨W0, hW0⟩ : ∃ W0, W0 = w.alloc (.cells #[.int .i64 m.procs, .int .i64 m.states, .int .i64 m.loads, lv, rv, .slice none 0 0] 31) := ⟨_, rfl⟩
  have HW0 : Hid (W0 = w.alloc (.cells #[.int .i64 m.procs, .int .i64 m.states, .int .i64 m.loads, lv, rv, .slice none 0 0] 31)) := hW0
  have hK0 : KeptF (fun _ => False) w W0 := by rw [hW0]; exact (KeptF.refl _ w).alloc _
  have hmb : Blk W0 w.heap.size #[.int .i64 m.procs, .int .i64 m.states, .int .i64 m.loads, lv, rv, .slice none 0 0] 31 := by rw [hW0]; exact heap_alloc_new w _
  have hz0 : W0.heap.size = w.heap.size + 1 := by rw [hW0]; simp
  have Hz0 : Hid (W0.heap.size = w.heap.size + 1) := hz0
  clear hW0 hz0
  have hP0 := h.keep hK0 (fun _ _ e => e)
  have hhz := horizon_any W0 p.qb 5 p.hb p.hr en (by rw [← hr.en]; exact hP0.clk.1) hP0.clk.2.1 hP0.hmap
  rw [hr.hr] at hhz
  have hlq := hP0.core.blk.lt
  obtain ⟨sure, hsure⟩ : ∃ sure, sure = hz en a.hr := ⟨_, rfl⟩
  have Hsure : Hid (sure = hz en a.hr) := hsure
  rw [← hsure] at hhz
  clear hsure
  go_enter Try.func85, Try.ntmps85
  go_upto_region 1 with fail
  rw [← HW0.out]
  go_wp2_with fail
  refine hhz.mono ?_
  rintro e1 w1 ⟨rfl, hb1⟩
  clear hhz
  have hP1 := hP0.keep (kept_of_below' hb1) (fun _ _ e => e)
  have hlq1 := hP1.core.blk.lt
  have hle := pLeast_any w1 B p hP1
  have hk1 : KeptF (fun _ => False) W0 w1 := kept_of_below' hb1
  have HK0 : Hid (KeptF (fun _ => False) w W0) := hK0
  have hm1 := hmb.keep (kept_of_below' hb1) (fun e => e)
  clear hmb hK0
  go_wp2_with fail
  refine hle.mono ?_
  rintro e2 w2 ⟨rfl, hb2⟩
  clear hle
  have hk2 : KeptF (fun _ => False) W0 w2 := hk1.trans (kept_of_below' hb2)
  have hP2 := hP1.keep (kept_of_below' hb2) (fun _ _ e => e)
  have hm2 := hm1.keep (kept_of_below' hb2) (fun e => e)
  clear hP1 hm1 hb1 hb2 hk1
  have hz2 : w.heap.size + 1 ≤ w2.heap.size := hm2.lt
  have hst : AdvAt W0 (w2.alloc (.cells #[.int .i64 p.topI.t, .int .i64 p.topI.f, .int .i64 p.topI.s, .int .i64 p.topI.l] 120)) B m en i p a 0 p (.slice none 0 0) w2.heap.size := by
    have hk3 : KeptF (fun _ => False) W0 (w2.alloc (.cells #[.int .i64 p.topI.t, .int .i64 p.topI.f, .int .i64 p.topI.s, .int .i64 p.topI.l] 120)) := hk2.alloc _
    refine ⟨(PGo.refl hP0).grow hk3, ?_, Own.nil _ _ _, heap_alloc_new w2 _, by rw [Hz0.out]; exact hz2, fun hf => by have := (h.lt hf).2; omega, by simp [Value.ownBlock], fun g hg => by cases hg⟩
    have e0 : (dA m (i : Int) en a 0).1 = a := by unfold dA; rw [List.take_zero]; rfl
    rw [e0]
    refine ⟨hr.num, hr.en, hr.hr, hr.ws, hr.st, hr.sent, hr.dn, ?_, ?_⟩
    · unfold qA; rw [List.drop_zero]; exact hr.its.trans (parted en a)
    · rw [hr.pu]
      simp only
      unfold qA
      rw [List.drop_zero, (parted en a).length_eq]
  have hm3 := hm2.alloc (.cells #[.int .i64 p.topI.t, .int .i64 p.topI.f, .int .i64 p.topI.s, .int .i64 p.topI.l] 120)
  have hPlt : ∀ g, PF p g → g < w.heap.size := fun g hg => (h.lt hg).2
  have hPB : ∀ g, PF p g → B ≤ g := fun g hg => (h.lt hg).1
  obtain ⟨i0, hi0, hi1, hi2, hi3⟩ := info_parts info_em
  go_wp2
  clear hP0 hP2 hm2 hk2 hz2 hlq hlq1 h
  go_loopw [5, 7, 8] (fun s5 s7 s8 wr => ∃ (k : Nat) (p' : Pr) (v : Value) (xb : Nat), s5 = v ∧ s7 = .pointer (some ⟨xb, 0, none⟩) ∧ s8 = .bool p'.top.isSome ∧ k ≤ (toDo en a).length ∧ AdvAt W0 wr B m en i p a k p' v xb ∧ Blk wr w.heap.size #[.int .i64 m.procs, .int .i64 m.states, .int .i64 m.loads, lv, rv, .slice none 0 0] 31) (fun _ _ _ wr => 9000 - lenAt wr ⟨p.qb, 11, none⟩)
  case atStart => exact ⟨0, p, _, _, rfl, rfl, rfl, Nat.zero_le _, hst, hm3⟩
  case round =>
    clear hst hm3
    obtain ⟨k, p', v, xb, rfl, rfl, rfl, hk, hA, hmr⟩ := hrel
    have hPr := hA.go.at_
    have hrl := hA.rel
    have htop := top_is hPr hrl.its hs
    have hqb := hA.go.qb
    have hnm : ¬ PF p' w.heap.size := fun hf => by
      rcases hA.go.foot _ hf with h1 | h1
      · have := hPlt _ h1; omega
      · rw [Hz0.out] at h1; omega
    have hkeep := dA_keep m (i : Int) en a k hk
    have hlx := hA.x.lt
    have hlen : lenAt wr ⟨p.qb, 11, none⟩ = a.dn.length + k := by rw [← hqb, hPr.lenAt, hrl.dn]; exact hkeep.2.2
    have Hlen : Hid (lenAt wr ⟨p.qb, 11, none⟩ = a.dn.length + k) := hlen
    have hqlen : a.q.length = (toDo en a).length + (left_ en a).length := by rw [(parted en a).length_eq, List.length_append]
    clear hlen
    by_cases hlt : k < (toDo en a).length
    · obtain ⟨x, hx⟩ := get_of_lt hlt
      have htx := htop.1 x hx
      have hxm := toDo_mem (List.mem_of_getElem? hx)
      have hxt := ht x hxm.1
      have hxs : x.t < sure := by rw [Hsure.out]; exact hxm.2
      have htI : p'.topI = x := by unfold Pr.topI; rw [htx]; rfl
      have hts : p'.top.isSome = true := by rw [htx]; rfl
      have hxk := hA.x
      rw [htI] at hxk
      have Hx : Hid ((toDo en a)[k]? = some x) := hx
      have hint : ∀ b ∈ p'.its, InInt b.t := fun b hb => by
        have h1 := hrl.its.mem_iff.1 hb
        have h2 : b ∈ a.q := by
          unfold qA at h1
          rcases List.mem_append.1 h1 with h3 | h3
          · exact (toDo_mem (List.mem_of_mem_drop h3)).1
          · exact (left_mem h3).1
        have := ht b h2
        unfold InInt; omega
      have hpul : p'.pushed = a.dn.length + a.q.length := by
        rw [hrl.pu]
        show (dA m (i : Int) en a k).1.dn.length + (qA en a k).length = _
        rw [hkeep.2.2]
        unfold qA
        rw [List.length_append, List.length_drop]
        omega
      have x0 : wr.cell? ⟨xb, 0, none⟩ = some (.int .i64 x.t) := hxk.cell 0
      have hpop := pPop wr B p' x hPr htx hint (by omega)
      rw [hqb] at hpop
      rw [hts]
      clear hx htI hts
      go_wp2_with fail
      refine hpop.mono ?_
      rintro e4 w3 ⟨rfl, p1, hT, hpp1, hits⟩
      clear hpop x0
      have hx3 := hxk.keep hT.kept hA.xp
      have hm3 := hmr.keep hT.kept hnm
      have hgo1 : PGo W0 w3 B p p1 := hA.go.trans hT.go
      have hO3 := hA.out.keep hT.kept (fun g hg => hA.vp g hg)
      have hlx3 := hx3.lt
      have hBl3 : Below B w w3 := KeptF.below ((HK0.out.weaken (fun _ _ e => e.elim)).trans hgo1.kept) hB hPB
      have hB3 : B ≤ w3.heap.size := Nat.le_trans hB hBl3.size
      have hsent : 0 ≤ p1.sent ∧ p1.sent ≤ 5000 := by
        have h1 := doAll_sent hm (i : Int) en ((toDo en a).take k) (a, []) (fun y hy => by
          have h2 := toDo_mem (List.mem_of_mem_take hy)
          have h3 := ht y h2.1
          omega)
        rw [hT.sent, hrl.sent]
        show 0 ≤ (dA m (i : Int) en a k).1.sent ∧ (dA m (i : Int) en a k).1.sent ≤ 5000
        unfold dA
        rw [List.length_take] at h1
        simp only at h1
        omega
      have hdo := pdo_any w3 B Bm lv rv (.slice none 0 0) (keptM m) R p1 x hgo1.at_ hm.kept (hM.keep (hBl3.mono hBm)) hBm hB3 hxt.1 (by omega) hsent.1 hsent.2 (by rw [hT.dn, hrl.dn]; show (dA m (i : Int) en a k).1.dn.length ≤ 5000; rw [hkeep.2.2]; omega)
      obtain ⟨ro, hro⟩ : ∃ ro, ro = ruleOut m (i : Int) (dA m (i : Int) en a k).1.st (dA m (i : Int) en a k).1.sent x := ⟨_, rfl⟩
      have hroe : ruleOut (keptM m) p1.num p1.st p1.sent x = ro := by
        rw [hT.num, hT.st, hT.sent, hrl.num, hrl.st, hrl.sent, hro]; rfl
      rw [hroe, show (Value.pointer (some ⟨p1.qb, 0, none⟩)) = .pointer (some ⟨p.qb, 0, none⟩) by rw [hgo1.qb]] at hdo
      have Hro : Hid (ro = ruleOut m (i : Int) (dA m (i : Int) en a k).1.st (dA m (i : Int) en a k).1.sent x) := hro
      clear hroe hro
      have m0 : w3.cell? ⟨w.heap.size, 0, none⟩ = some (.int .i64 m.procs) := hm3.cell 0
      have m1 : w3.cell? ⟨w.heap.size, 1, none⟩ = some (.int .i64 m.states) := hm3.cell 1
      have m2 : w3.cell? ⟨w.heap.size, 2, none⟩ = some (.int .i64 m.loads) := hm3.cell 2
      have m3 : w3.cell? ⟨w.heap.size, 3, none⟩ = some lv := hm3.cell 3
      have m4 : w3.cell? ⟨w.heap.size, 4, none⟩ = some rv := hm3.cell 4
      have m5 : w3.cell? ⟨w.heap.size, 5, none⟩ = some (.slice none 0 0) := hm3.cell 5
      have t0 : w3.cell? ⟨xb, 0, none⟩ = some (.int .i64 x.t) := hx3.cell 0
      have t1 : w3.cell? ⟨xb, 1, none⟩ = some (.int .i64 x.f) := hx3.cell 1
      have t2 : w3.cell? ⟨xb, 2, none⟩ = some (.int .i64 x.s) := hx3.cell 2
      have t3 : w3.cell? ⟨xb, 3, none⟩ = some (.int .i64 x.l) := hx3.cell 3
      have hlm3 := hm3.lt
      go_wp2_with fail
      refine hdo.mono ?_
      rintro e5 w4 ⟨v2, rfl, hO2, hk4, dv2, hp2, hft, hvp⟩
      clear hdo m0 m1 m2 m3 m4 m5 t0 t1 t2 t3
      have hnm1 : ¬ PF p1 w.heap.size := fun hf => by
        rcases hT.foot _ hf with h1 | h1
        · exact hnm h1
        · have := hmr.lt; omega
      have hxp1 : ¬ PF p1 xb := fun hf => by
        rcases hT.foot _ hf with h1 | h1
        · exact hA.xp h1
        · omega
      have hvp1 : ∀ g, u5.ownBlock = some g → ¬ PF p1 g := fun g hg hf => by
        rcases hT.foot _ hf with h1 | h1
        · exact hA.vp g hg h1
        · have := (hA.out.lt hg).2; omega
      have hx4 := hx3.keep hk4 hxp1
      have hm4 := hm3.keep hk4 hnm1
      have hO4 := hO3.keep hk4 hvp1
      obtain ⟨p2, hp2e⟩ : ∃ p2 : Pr, p2 = { p1 with st := ro.2.1, sent := ro.2.2, dnv := dv2, dn := p1.dn ++ [⟨x, ro.2.1⟩] } := ⟨_, rfl⟩
      rw [← hp2e] at hp2 hft hvp
      have hgo2 : PGo W0 w4 B p p2 := hgo1.trans ⟨hp2, by rw [hp2e], hk4, hft⟩
      have hnm2 : ¬ PF p2 w.heap.size := fun hf => by
        rcases hft _ hf with h1 | h1
        · exact hnm1 h1
        · have := hm3.lt; omega
      have hxp2 : ¬ PF p2 xb := fun hf => by
        rcases hft _ hf with h1 | h1
        · exact hxp1 h1
        · omega
      have hvp2 : ∀ g, u5.ownBlock = some g → ¬ PF p2 g := fun g hg hf => by
        rcases hft _ hf with h1 | h1
        · exact hvp1 g hg h1
        · have := (hO3.lt hg).2; omega
      have hdS := dA_succ (m := m) (num := (i : Int)) Hx.out
      have hdP : doP m (i : Int) en (dA m (i : Int) en a k).1 x = ({ (dA m (i : Int) en a k).1 with st := ro.2.1, sent := ro.2.2, dn := (dA m (i : Int) en a k).1.dn ++ [⟨x, ro.2.1⟩] }, (ro.1.filter (fun e => decide (e.it.t < en))).map msg) := by rw [Hro.out]; rfl
      rw [hdP] at hdS
      have hdrop : qA en a k = x :: qA en a (k + 1) := by
        unfold qA
        have hkl := get_lt Hx.out
        have hxx := Hx.out
        rw [List.getElem?_eq_getElem hkl, Option.some.injEq] at hxx
        rw [List.drop_eq_getElem_cons hkl, hxx]; rfl
      have hrel2 : PRel en i p2 { (dA m (i : Int) en a (k + 1)).1 with q := qA en a (k + 1) } := by
        have h1 := hrl.its
        simp only at h1
        rw [hdrop] at h1
        rw [hp2e, hdS]
        refine ⟨hT.num.trans hrl.num, hT.en.trans hrl.en, hT.hr.trans hrl.hr, hT.ws.trans hrl.ws, rfl, rfl, ?_, (hits.trans h1).cons_inv, ?_⟩
        · show p1.dn ++ _ = _
          rw [hT.dn, hrl.dn]
        · show p1.pushed = _
          rw [hpp1, hrl.pu]
          simp only [hdrop, List.length_append, List.length_cons, List.length_nil]
          omega
      have Hrel2 : Hid (PRel en i p2 { (dA m (i : Int) en a (k + 1)).1 with q := qA en a (k + 1) }) := hrel2
      have Hout : Hid ((dA m (i : Int) en a (k + 1)).2 = (dA m (i : Int) en a k).2 ++ (ro.1.filter (fun e => decide (e.it.t < en))).map msg) := by show _ = _; rw [hdS]
      have hlen2 : p2.dn.length = a.dn.length + k + 1 := by rw [hrel2.dn]; exact (dA_keep m (i : Int) en a (k + 1) hlt).2.2
      have Hlen2 : Hid (p2.dn.length = a.dn.length + k + 1) := hlen2
      have hp2en : p2.en = en := hrel2.en
      have hq2 : p2.qb = p.qb := hgo2.qb
      have hrol : ro.1.length ≤ 4 := by rw [Hro.out]; exact (ruleOut_ok hm hxt.1 (by omega)).1
      have holl : (dA m (i : Int) en a k).2.length ≤ 4 * k := by
        have := doAll_len m (i : Int) en hm ((toDo en a).take k) a (fun y hy => by
          have h2 := toDo_mem (List.mem_of_mem_take hy)
          have h3 := ht y h2.1
          omega)
        rw [List.length_take] at this
        unfold dA; omega
      obtain ⟨o0, ho0⟩ : ∃ o0, o0 = (dA m (i : Int) en a k).2 := ⟨_, rfl⟩
      have Ho0 : Hid (o0 = (dA m (i : Int) en a k).2) := ho0
      rw [← ho0] at hO4 holl
      have Hp2e : Hid (p2.qb = p.qb) := hq2
      have hxv : u5.ownBlock ≠ some xb := hA.xv
      have hu5 : ∀ g, u5.ownBlock = some g → g < w3.heap.size := fun g hg => (hO3.lt hg).2
      have hxlow : W0.heap.size ≤ xb := hA.xlow
      clear hlen2 hrel2 hdS hdP hdrop ho0 hp2e hO3 hx3 hm3 hp2 hk4 hft hxk hits hint hpul hT hgo1 hvp1 hxp1 hnm1 htx hA hPr hrl htop hnm hmr
      obtain ⟨aov, capv, hvf, hcapv⟩ := hO2.form'
      subst hvf
      have hlp4 := hgo2.at_.core.blk.lt
      go_wp2
      go_loopw [5, 45] (fun s5 s45 wq => ∃ (j : Nat) (v : Value), s5 = v ∧ s45 = .int .i64 j ∧ j ≤ ro.1.length ∧ Own pclE wq W0.heap.size v (o0 ++ ((ro.1.take j).filter (fun e => decide (e.it.t < en))).map msg) ∧ Own emE wq w3.heap.size (.slice aov ro.1.length capv) ro.1 ∧ PGo W0 wq B p p2 ∧ Blk wq xb #[.int .i64 x.t, .int .i64 x.f, .int .i64 x.s, .int .i64 x.l] 120 ∧ Blk wq w.heap.size #[.int .i64 m.procs, .int .i64 m.states, .int .i64 m.loads, lv, rv, .slice none 0 0] 31 ∧ (∀ g, v.ownBlock = some g → ¬ PF p2 g ∧ g ≠ xb ∧ (Value.slice aov ro.1.length capv).ownBlock ≠ some g)) (fun _ s45 _ => ro.1.length - (intOf s45).toNat)
      case atStart =>
        refine ⟨0, u5, rfl, rfl, Nat.zero_le _, ?_, hO2, hgo2, hx4, hm4, ?_⟩
        · rw [List.take_zero]; simpa using hO4
        · intro g hg
          refine ⟨hvp2 g hg, fun e => hxv (by rw [← e]; exact hg), fun e => ?_⟩
          have h1 := (hO2.lt e).1
          have h2 := hu5 g hg
          omega
      case round =>
        clear hO4 hO2 hgo2 hx4 hm4 hvp2 hxv hu5 hlp4
        obtain ⟨j, v, rfl, rfl, hj, hO, hE, hgo, hxB, hmB, hap⟩ := hrel
        have hPq := hgo.at_
        have c5 : wr.cell? ⟨p.qb, 5, none⟩ = some (.int .i64 en) := by rw [← Hp2e.out, ← hp2en]; exact hPq.clk.1
        have hlq : p.qb < wr.heap.size := block_lt_of_cell c5
        have hszq : W0.heap.size ≤ wr.heap.size := hgo.kept.size
        by_cases hlt2 : j < ro.1.length
        · obtain ⟨e, he⟩ := get_of_lt hlt2
          obtain ⟨g, cap', hg, _⟩ := Own.at_ hE he
          simp only [Value.slice.injEq] at hg
          obtain ⟨rfl, -, -⟩ := hg
          have a0 : wr.cell? ⟨g, j * 6, none⟩ = some (.int .i64 e.it.t) := hE.cell he (k := 0) (u := .int .i64 e.it.t) rfl
          have a1 : wr.cell? ⟨g, j * 6 + 1, none⟩ = some (.int .i64 e.it.f) := hE.cell he (k := 1) (u := .int .i64 e.it.f) rfl
          have a2 : wr.cell? ⟨g, j * 6 + 2, none⟩ = some (.int .i64 e.it.s) := hE.cell he (k := 2) (u := .int .i64 e.it.s) rfl
          have a3 : wr.cell? ⟨g, j * 6 + 3, none⟩ = some (.int .i64 e.it.l) := hE.cell he (k := 3) (u := .int .i64 e.it.l) rfl
          have a4 : wr.cell? ⟨g, j * 6 + 4, none⟩ = some (.int .i64 0) := hE.cell he (k := 4) (u := .int .i64 0) rfl
          have a5 : wr.cell? ⟨g, j * 6 + 5, none⟩ = some (.int .i64 e.k) := hE.cell he (k := 5) (u := .int .i64 e.k) rfl
          have hlg : g < wr.heap.size := block_lt_of_cell a0
          have Htk : Hid (ro.1.take (j + 1) = ro.1.take j ++ [e]) := by show _ = _; rw [List.take_add_one, he]; rfl
          clear he
          obtain ⟨Wy, hWy⟩ : ∃ Wy, Wy = wr.alloc (.cells #[.int .i64 e.it.t, .int .i64 e.it.f, .int .i64 e.it.s, .int .i64 e.it.l, .int .i64 0, .int .i64 e.k] 159) := ⟨_, rfl⟩
          have HWy : Hid (Wy = wr.alloc (.cells #[.int .i64 e.it.t, .int .i64 e.it.f, .int .i64 e.it.s, .int .i64 e.it.l, .int .i64 0, .int .i64 e.k] 159)) := hWy
          have hyb : Blk Wy wr.heap.size #[.int .i64 e.it.t, .int .i64 e.it.f, .int .i64 e.it.s, .int .i64 e.it.l, .int .i64 0, .int .i64 e.k] 159 := by rw [hWy]; exact heap_alloc_new wr _
          have hKy : KeptF (fun _ => False) wr Wy := by rw [hWy]; exact (KeptF.refl _ wr).alloc _
          clear hWy
          have y0 : Wy.cell? ⟨wr.heap.size, 0, none⟩ = some (.int .i64 e.it.t) := hyb.cell 0
          have d5 : Wy.cell? ⟨p.qb, 5, none⟩ = some (.int .i64 en) := (hKy.cell (p := ⟨p.qb, 5, none⟩) hlq (fun e => e)).trans c5
          have hly := hyb.lt
          have hlqy : p.qb < Wy.heap.size := block_lt_of_cell d5
          go_upto_region 10 with fail
          rw [← HWy.out]
          clear a0 a1 a2 a3 a4 a5 c5
          refine still_tail' 8 (by kernel_rfl) (by kernel_rfl) ?_
          simp only [List.take_succ_cons, List.take_zero, List.drop_succ_cons, List.drop_zero]
          repeat still_step
          refine wpStill_nil ?_
          obtain ⟨Wd, hWd⟩ : ∃ Wd, Wd = Wy.drew := ⟨_, rfl⟩
          rw [← hWd]
          have hKd : KeptF (fun _ => False) wr Wd := by rw [hWd]; exact hKy.drew
          have hyd : Blk Wd wr.heap.size #[.int .i64 e.it.t, .int .i64 e.it.f, .int .i64 e.it.s, .int .i64 e.it.l, .int .i64 0, .int .i64 e.k] 159 := by rw [hWd]; exact hyb.drew
          have hOd := hO.keep hKd (fun _ _ e => e)
          have hEd := hE.keep hKd (fun _ _ e => e)
          have hgod := hgo.grow hKd
          have hxd := hxB.keep hKd (fun e => e)
          have hmd := hmB.keep hKd (fun e => e)
          have hszd : W0.heap.size ≤ Wd.heap.size := Nat.le_trans hszq hKd.size
          clear hWd y0 d5 hyb hKy HWy hly hlqy
          by_cases hte : e.it.t < en
          · have z0 : Wd.cell? ⟨wr.heap.size, 0, none⟩ = some (.int .i64 e.it.t) := hyd.cell 0
            have z1 : Wd.cell? ⟨wr.heap.size, 1, none⟩ = some (.int .i64 e.it.f) := hyd.cell 1
            have z2 : Wd.cell? ⟨wr.heap.size, 2, none⟩ = some (.int .i64 e.it.s) := hyd.cell 2
            have z3 : Wd.cell? ⟨wr.heap.size, 3, none⟩ = some (.int .i64 e.it.l) := hyd.cell 3
            have z4 : Wd.cell? ⟨wr.heap.size, 4, none⟩ = some (.int .i64 0) := hyd.cell 4
            have z5 : Wd.cell? ⟨wr.heap.size, 5, none⟩ = some (.int .i64 e.k) := hyd.cell 5
            have hly := hyd.lt
            have hcc := newCells Wd [.int .i64 e.it.t, .int .i64 e.it.f, .int .i64 e.it.s, .int .i64 e.it.l, .int .i64 0, .int .i64 e.k] 159
            have hone : ∀ u ∈ ([.int .i64 e.it.t, .int .i64 e.it.f, .int .i64 e.it.s, .int .i64 e.it.l, .int .i64 0, .int .i64 e.k] : List Value), u.oneCell' = true := pclE.one (msg e)
            have hWW : KeptF (fun _ => False) Wd (Wd.alloc (.cells #[.int .i64 e.it.t, .int .i64 e.it.f, .int .i64 e.it.s, .int .i64 e.it.l, .int .i64 0, .int .i64 e.k] 159)) := (KeptF.refl _ Wd).alloc _
            obtain ⟨l1, hl1⟩ : ∃ l1, l1 = o0 ++ ((ro.1.take j).filter (fun e => decide (e.it.t < en))).map msg := ⟨_, rfl⟩
            have hl1n : l1.length ≤ 9000 := by
              rw [hl1, List.length_append, List.length_map]
              have := List.length_filter_le (fun e : Em => decide (e.it.t < en)) (ro.1.take j)
              rw [List.length_take] at this
              omega
            have Hl1 : Hid (l1 = o0 ++ ((ro.1.take j).filter (fun e => decide (e.it.t < en))).map msg) := hl1
            rw [← hl1] at hOd
            obtain ⟨n1, hn1⟩ : ∃ n1, n1 = l1.length := ⟨_, rfl⟩
            have Hn1 : Hid (n1 = l1.length) := hn1
            have hn9 : n1 ≤ 9000 := by omega
            have hown0 : (Wd.alloc (.cells #[.int .i64 e.it.t, .int .i64 e.it.f, .int .i64 e.it.s, .int .i64 e.it.l, .int .i64 0, .int .i64 e.k] 159)).ownsRow W0.heap.size 159 6 u5 n1 (flat pclE l1) := by
              rw [hn1]; exact hOd.keep hWW (fun _ _ e => e)
            clear hl1 hn1 hl1n
            go_wp2_with (at_builtin; (refine wpList_append_ownX rfl (.tmp 58) (.tmp 60) 145 rfl W0.heap.size 159 i0 _ 6 48 und_pcs hi0 hi1 hi2 hi3 rfl (by decide) u5 n1 (flat pclE l1) rfl ?_ ⟨Wd.heap.size, 0, none⟩ 1 1 [.int .i64 e.it.t, .int .i64 e.it.f, .int .i64 e.it.s, .int .i64 e.it.l, .int .i64 0, .int .i64 e.k] rfl ?_ ?_ ?_ ?_ ?_ ?_ ?_))
            · exact hown0
            · rfl
            · exact hcc
            · exact hone
            · unfold maxLen; omega
            · omega
            · exact Nat.le_trans hszd hWW.size
            · intro v3 w5 hown3 hgr3 hfr3
              have hob : ∀ r, u5.ownBlock = some r → W0.heap.size ≤ r := fun r hr => (hOd.lt hr).1
              have hK3 : KeptF (fun r => u5.ownBlock = some r) Wd w5 := (hWW.weaken (fun _ _ e => e.elim)).trans (KeptF.of_grown hgr3 (fun k h _ => h))
              have hO5 : Own pclE w5 W0.heap.size v3 (o0 ++ ((ro.1.take (j + 1)).filter (fun e => decide (e.it.t < en))).map msg) := by
                rw [Htk.out, List.filter_append, List.map_append, ← List.append_assoc, ← Hl1.out]
                have e1 : [e].filter (fun e => decide (e.it.t < en)) = [e] := by simp [hte]
                rw [e1]
                exact Own.snoc (x := msg e) (by rw [← Hn1.out]; exact hown3)
              have hE5 := hEd.keep hK3 (fun r hr e' => (hap r e').2.2 hr)
              have hgo5 : PGo W0 w5 B p p2 := ⟨hgod.at_.keep hK3 (fun r hr e' => (hap r e').1 hr), hgod.qb, hgod.kept.trans' hK3 (fun r hr e' => by have := hob r e'; omega), hgod.foot⟩
              have hx5 := hxd.keep hK3 (fun e' => (hap xb e').2.1 rfl)
              have hm5 := hmd.keep hK3 (fun e' => by have := hob _ e'; rw [Hz0.out] at this; omega)
              have hap5 : ∀ r, v3.ownBlock = some r → ¬ PF p2 r ∧ r ≠ xb ∧ (Value.slice (some ⟨g, 0, none⟩) ro.1.length capv).ownBlock ≠ some r := fun r hr => by
                rcases hfr3 r hr with h1 | h1
                · exact hap r h1
                · have h2 : Wd.heap.size ≤ r := by omega
                  refine ⟨fun hf => by have := (hgod.at_.lt hf).2; omega, fun e' => by have := hxd.lt; omega, fun e' => by have := (hEd.lt e').2; omega⟩
              clear hown3 hgr3 hfr3 hown0 hcc hone hWW hOd hEd hgod hxd hmd z0 z1 z2 z3 z4 z5
              go_wp2
              go_roundw
              case rel => exact ⟨j + 1, v3, rfl, by go_num, hlt2, hO5, hE5, hgo5, hx5, hm5, hap5⟩
              case measure => simp [intOf]; omega
          · go_wp2
            go_roundw
            case rel =>
              refine ⟨j + 1, u5, rfl, by go_num, hlt2, ?_, hEd, hgod, hxd, hmd, hap⟩
              rw [Htk.out, List.filter_append, List.map_append]
              have e1 : [e].filter (fun e => decide (e.it.t < en)) = [] := by simp [hte]
              rw [e1]
              simpa using hOd
            case measure => simp [intOf]; omega
        · have hje : j = ro.1.length := by omega
          subst hje
          rw [List.take_of_length_le (Nat.le_refl _), Ho0.out, ← Hout.out] at hO
          have x0 : wr.cell? ⟨xb, 0, none⟩ = some (.int .i64 x.t) := hxB.cell 0
          have x1 : wr.cell? ⟨xb, 1, none⟩ = some (.int .i64 x.f) := hxB.cell 1
          have x2 : wr.cell? ⟨xb, 2, none⟩ = some (.int .i64 x.s) := hxB.cell 2
          have x3 : wr.cell? ⟨xb, 3, none⟩ = some (.int .i64 x.l) := hxB.cell 3
          have hlxb := hxB.lt
          obtain ⟨W6, hW6⟩ : ∃ W6, W6 = wr.alloc (.cells #[.int .i64 x.t, .int .i64 x.f, .int .i64 x.s, .int .i64 x.l] 120) := ⟨_, rfl⟩
          have HW6 : Hid (W6 = wr.alloc (.cells #[.int .i64 x.t, .int .i64 x.f, .int .i64 x.s, .int .i64 x.l] 120)) := hW6
          have hK6 : KeptF (fun _ => False) wr W6 := by rw [hW6]; exact (KeptF.refl _ wr).alloc _
          have hx6 : Blk W6 wr.heap.size #[.int .i64 x.t, .int .i64 x.f, .int .i64 x.s, .int .i64 x.l] 120 := by rw [hW6]; exact heap_alloc_new wr _
          have hgo6 := hgo.grow hK6
          have hO6 := hO.keep hK6 (fun _ _ e => e)
          have hm6 := hmB.keep hK6 (fun e => e)
          have hle := pLeast_any W6 B p2 hgo6.at_
          rw [Hp2e.out] at hle
          have hlq6 : p.qb < W6.heap.size := Nat.lt_of_lt_of_le hlq hK6.size
          clear hW6
          go_upto_region 5 with fail
          rw [← HW6.out]
          go_wp2_with fail
          refine hle.mono ?_
          rintro e7 w7 ⟨rfl, hb7⟩
          clear hle x0 x1 x2 x3
          have hk7 : KeptF (fun _ => False) W6 w7 := kept_of_below' hb7
          have hx7 := hx6.keep hk7 (fun e => e)
          have hgo7 := hgo6.grow hk7
          have hO7 := hO6.keep hk7 (fun _ _ e => e)
          have hm7 := hm6.keep hk7 (fun e => e)
          have f0 : w7.frozen? ⟨wr.heap.size, 0, none⟩ = false := hx7.frozen 0
          have f1 : w7.frozen? ⟨wr.heap.size, 1, none⟩ = false := hx7.frozen 1
          have f2 : w7.frozen? ⟨wr.heap.size, 2, none⟩ = false := hx7.frozen 2
          have f3 : w7.frozen? ⟨wr.heap.size, 3, none⟩ = false := hx7.frozen 3
          have g0 : w7.cell? ⟨wr.heap.size, 0, none⟩ = some (.int .i64 x.t) := hx7.cell 0
          have g1 : w7.cell? ⟨wr.heap.size, 1, none⟩ = some (.int .i64 x.f) := hx7.cell 1
          have g2 : w7.cell? ⟨wr.heap.size, 2, none⟩ = some (.int .i64 x.s) := hx7.cell 2
          have g3 : w7.cell? ⟨wr.heap.size, 3, none⟩ = some (.int .i64 x.l) := hx7.cell 3
          have hlx7 := hx7.lt
          clear hgo6 hO6 hm6 hx6 hb7 HW6
          go_wp2
          go_roundw
          case rel =>
            have hk8 : KeptF (fun r => r = wr.heap.size) w7 ((((w7.setCell ⟨wr.heap.size, 0, none⟩ (.int .i64 p2.topI.t)).setCell ⟨wr.heap.size, 1, none⟩ (.int .i64 p2.topI.f)).setCell ⟨wr.heap.size, 2, none⟩ (.int .i64 p2.topI.s)).setCell ⟨wr.heap.size, 3, none⟩ (.int .i64 p2.topI.l)) := ((((KeptF.refl (fun r => r = wr.heap.size) w7).setCell (p := ⟨wr.heap.size, 0, none⟩) (.inl rfl) _).setCell (p := ⟨wr.heap.size, 1, none⟩) (.inl rfl) _).setCell (p := ⟨wr.heap.size, 2, none⟩) (.inl rfl) _).setCell (p := ⟨wr.heap.size, 3, none⟩) (.inl rfl) _
            have hnp : ¬ PF p2 wr.heap.size := fun hf => by have := (hgo.at_.lt hf).2; omega
            have hov : u5.ownBlock ≠ some wr.heap.size := fun e => by have := (hO.lt e).2; omega
            refine ⟨k + 1, p2, u5, wr.heap.size, rfl, rfl, rfl, hlt, ⟨⟨hgo7.at_.keep hk8 (fun r hr e => hnp (e ▸ hr)), hgo7.qb, hgo7.kept.trans' hk8 (fun r hr e => by omega), hgo7.foot⟩, Hrel2.out, hO7.keep hk8 (fun r hr e => hov (e ▸ hr)), (((hx7.set 0 _).set 1 _).set 2 _).set 3 _, hszq, hnp, hov, fun r hr => (hap r hr).1⟩, hm7.keep hk8 (fun e => by have := hmB.lt; omega)⟩
          case measure =>
            rw [Hlen.out]
            have e1 : lenAt ((((w7.setCell ⟨wr.heap.size, 0, none⟩ (.int .i64 p2.topI.t)).setCell ⟨wr.heap.size, 1, none⟩ (.int .i64 p2.topI.f)).setCell ⟨wr.heap.size, 2, none⟩ (.int .i64 p2.topI.s)).setCell ⟨wr.heap.size, 3, none⟩ (.int .i64 p2.topI.l)) ⟨p.qb, 11, none⟩ = a.dn.length + k + 1 := by
              have hk8 : KeptF (fun r => r = wr.heap.size) w7 ((((w7.setCell ⟨wr.heap.size, 0, none⟩ (.int .i64 p2.topI.t)).setCell ⟨wr.heap.size, 1, none⟩ (.int .i64 p2.topI.f)).setCell ⟨wr.heap.size, 2, none⟩ (.int .i64 p2.topI.s)).setCell ⟨wr.heap.size, 3, none⟩ (.int .i64 p2.topI.l)) := ((((KeptF.refl (fun r => r = wr.heap.size) w7).setCell (p := ⟨wr.heap.size, 0, none⟩) (.inl rfl) _).setCell (p := ⟨wr.heap.size, 1, none⟩) (.inl rfl) _).setCell (p := ⟨wr.heap.size, 2, none⟩) (.inl rfl) _).setCell (p := ⟨wr.heap.size, 3, none⟩) (.inl rfl) _
              have hnp : ¬ PF p2 wr.heap.size := fun hf => by have := (hgo.at_.lt hf).2; omega
              rw [← Hp2e.out, (hgo7.at_.keep hk8 (fun r hr e => hnp (e ▸ hr))).lenAt, Hlen2.out]
            rw [e1]
            omega
    · have hke : k = (toDo en a).length := by omega
      subst hke
      have hc : (p'.top.isSome = false) ∨ (p'.top.isSome = true ∧ ¬ p'.topI.t < sure) := by
        cases htp : p'.top with
        | none => exact .inl rfl
        | some t =>
          right
          refine ⟨rfl, ?_⟩
          unfold Pr.topI
          rw [htp, Hsure.out]
          exact htop.2 (Nat.le_refl _) t htp
      have x0 : wr.cell? ⟨xb, 0, none⟩ = some (.int .i64 p'.topI.t) := hA.x.cell 0
      have hwsl : p'.ws = a.ws := hrl.ws.trans hkeep.2.1
      have hwne : p'.wv.ownBlock ≠ some p'.qb := fun e => hPr.cq _ (.inr e) rfl
      have hwords := words_any wr B p'.qb 5 p'.wv p'.ws en sure (by rw [← hrl.en]; exact hPr.clk.1) hPr.clk.2.2 hPr.wown hwne (by rw [hwsl]; exact hwl) (by rw [Hsure.out]; exact hsu0) (by rw [Hsure.out]; omega) (by rw [hwsl]; exact hw)
      rw [hqb, hwsl] at hwords
      have hlq : p.qb < wr.heap.size := by rw [← hqb]; exact hPr.core.blk.lt
      have hfin : ∀ (w6 : World) (v6 : Value), Own pclE w6 wr.heap.size v6 (wyO en sure a.ws) → Own wyE w6 B p'.wv (a.ws.map (wyN en sure)) → KeptF (fun g => p'.wv.ownBlock = some g) wr w6 → Own pclE w6 W0.heap.size u5 (dA m (i : Int) en a (toDo en a).length).2 ∧ PGo W0 w6 B p { p' with ws := a.ws.map (wyN en sure) } ∧ W0.heap.size ≤ w6.heap.size := by
        intro w6 v6 h1 h2 h3
        exact ⟨hA.out.keep h3 (fun g hg e => hA.vp g hg (.inr (.inr (.inr e)))), hA.go.trans (hPr.setWs h2 h3), Nat.le_trans hA.go.kept.size h3.size⟩
      have hrelF : PRel en i { p' with ws := a.ws.map (wyN en sure) } (advP m (i : Int) en a).1 := by
        rw [dA_all, Hsure.out]
        refine ⟨hrl.num, hrl.en, hrl.hr, rfl, hrl.st, hrl.sent, hrl.dn, ?_, ?_⟩
        · have := hrl.its
          simp only at this
          unfold qA at this
          rw [List.drop_of_length_le (Nat.le_refl _), List.nil_append] at this
          exact this
        · have := hrl.pu
          simp only at this
          unfold qA at this
          rw [List.drop_of_length_le (Nat.le_refl _), List.nil_append] at this
          exact this
      have HrelF : Hid (PRel en i { p' with ws := a.ws.map (wyN en sure) } (advP m (i : Int) en a).1) := hrelF
      have HoutF : Hid ((advP m (i : Int) en a).2 = (dA m (i : Int) en a (toDo en a).length).2 ++ wyO en sure a.ws) := by show _ = _; rw [dA_all, Hsure.out]
      have hvpF : ∀ g, u5.ownBlock = some g → ¬ PF { p' with ws := a.ws.map (wyN en sure) } g := fun g hg hf => hA.vp g hg hf
      have hPFlt : ∀ g, PF { p' with ws := a.ws.map (wyN en sure) } g → g < wr.heap.size := fun g hg => (hPr.lt (show PF p' g from hg)).2
      have holl : (dA m (i : Int) en a (toDo en a).length).2.length ≤ 4 * (toDo en a).length := by
        have := doAll_len m (i : Int) en hm ((toDo en a).take (toDo en a).length) a (fun y hy => by
          have h2 := toDo_mem (List.mem_of_mem_take hy)
          have h3 := ht y h2.1
          omega)
        rw [List.length_take, Nat.min_self] at this
        unfold dA; exact this
      obtain ⟨lo, hlo⟩ : ∃ lo, lo = (dA m (i : Int) en a (toDo en a).length).2 := ⟨_, rfl⟩
      rw [← hlo] at hfin holl HoutF
      have hwol := wyO_length en sure a.ws
      obtain ⟨lw, hlw⟩ : ∃ lw, lw = wyO en sure a.ws := ⟨_, rfl⟩
      rw [← hlw] at hwords hfin hwol HoutF
      clear hlo hlw hrelF htop hrl hPr hA hmr hwsl hwne hkeep
      rcases hc with hc | ⟨hc, hc2⟩
      all_goals
        rw [hc]
        go_wp2_with fail
        refine hwords.mono ?_
        rintro e6 w6 ⟨v6, rfl, hV, hWs, hk6⟩
        clear hwords x0
        obtain ⟨hO6, hgo6, hsz6⟩ := hfin w6 v6 hV hWs hk6
        go_wp2_with (at_builtin; (refine wpList_append_both rfl (.tmp 64) (.tmp 69) 145 rfl pclE W0.heap.size i0 _ 48 und_pcs hi0 hi1 hi2 hi3 rfl u5 v6 lo lw wr.heap.size rfl ?_ rfl ?_ ?_ ?_ ?_ ?_))
        · exact hO6
        · exact hV
        · unfold maxLen; omega
        · omega
        · exact hsz6
        · intro v7 w7 hO7 hgr7 hfr7
          have hK7 : KeptF (fun r => u5.ownBlock = some r) w6 w7 := KeptF.of_grown hgr7 (fun k h _ => h)
          have hob : ∀ r, u5.ownBlock = some r → W0.heap.size ≤ r := fun r hr => (hO6.lt hr).1
          have hgo7 : PGo W0 w7 B p { p' with ws := a.ws.map (wyN en sure) } := ⟨hgo6.at_.keep hK7 (fun r hr e => hvpF r e hr), hgo6.qb, hgo6.kept.trans' hK7 (fun r hr e => by have := hob r e; omega), hgo6.foot⟩
          clear hgr7
          go_wp2
          go_ret
          refine ⟨v7, _, rfl, ?_, hgo7.ahead HK0.out, HrelF.out, fun g hg hf => ?_⟩
          · rw [HoutF.out]; exact hO7.mono (by rw [Hz0.out]; omega)
          · rcases hfr7 g hg with h1 | h1
            · exact hvpF g h1 hf
            · have h2 := hPFlt g hf
              have := hk6.size
              omega

end Go.Proofs.Ytaieackeflmhgaa

namespace Go.Proofs.Ytaieackeflmhgaa
open Go.RowKit Go.Sort Go.Maps

theorem three_one {a b c : Int} : ∀ u ∈ [Value.int .i64 a, .int .i64 b, .int .i64 c], u.oneCell' = true := by
  intro u hu
  simp only [List.mem_cons, List.not_mem_nil, or_false] at hu
  rcases hu with rfl | rfl | rfl <;> rfl
def lkE : Enc MLink := ⟨3, 94, linkC, fun _ => rfl, by omega, fun _ => three_one⟩
def etE : Enc MEmit := ⟨3, 101, emitC, fun _ => rfl, by omega, fun _ => three_one⟩
def stE : Enc MStart := ⟨3, 73, startC, fun _ => rfl, by omega, fun _ => three_one⟩
structure RuleS where
  r : MRule
  ao : Option Addr
  len : Nat
  cap : Nat
def RuleS.ev (x : RuleS) : Value := .slice x.ao x.len x.cap
def RuleS.v (x : RuleS) : RuleV := ⟨x.r, x.ev⟩
def rlE : Enc RuleS := ⟨5, 103, fun x => ruleC x.v, fun _ => rfl, by omega, fun x u hu => by
  simp only [ruleC, RuleS.v, RuleS.ev, List.mem_cons, List.not_mem_nil, or_false] at hu
  rcases hu with rfl | rfl | rfl | rfl | rfl <;> rfl⟩
theorem info_lk : (Try.prog.info? 94).map (fun i => (i.zero, i.size, i.bytes)) = some (some (.agg #[.int .i64 0, .int .i64 0, .int .i64 0]), 3, 24) := by kernel_rfl
theorem info_et : (Try.prog.info? 101).map (fun i => (i.zero, i.size, i.bytes)) = some (some (.agg #[.int .i64 0, .int .i64 0, .int .i64 0]), 3, 24) := by kernel_rfl
theorem info_st : (Try.prog.info? 73).map (fun i => (i.zero, i.size, i.bytes)) = some (some (.agg #[.int .i64 0, .int .i64 0, .int .i64 0]), 3, 24) := by kernel_rfl
theorem info_rl : (Try.prog.info? 103).map (fun i => (i.zero, i.size, i.bytes)) = some (some (.agg #[.int .i64 0, .int .i64 0, .int .i64 0, .int .i64 0, .slice none 0 0]), 5, 56) := by kernel_rfl

theorem Own.rows {α : Type} {E : Enc α} {w : World} {B : Nat} {v : Value} {l : List α} (h : Own E w B v l) : RowsAt E.sz E.enc w w.heap.size v l := by
  rcases h.form with ⟨h1, h2⟩ | ⟨g, cap, h1, h2⟩
  · subst h2
    exact ⟨none, 0, h1, Nat.le_refl _, fun h => absurd rfl h⟩
  · subst h1
    refine ⟨_, _, rfl, h2, fun _ => ⟨g, 0, rfl, (h.lt rfl).2, fun j x k u hx hu => ?_⟩⟩
    rw [Nat.zero_add]
    exact h.cell hx hu

theorem RowsAt.map {α β : Type} {sz : Nat} {en : β → List Value} {f : α → β} {w : World} {B : Nat} {v : Value} {l : List α} (h : RowsAt sz (fun x => en (f x)) w B v l) : RowsAt sz en w B v (l.map f) := by
  obtain ⟨ao, cap, h1, h2, h3⟩ := h
  refine ⟨ao, cap, by rw [List.length_map]; exact h1, by rw [List.length_map]; exact h2, fun hne => ?_⟩
  obtain ⟨b, off, h4, h5, h6⟩ := h3 (fun e => hne (by rw [e]; rfl))
  refine ⟨b, off, h4, h5, fun j x k u hx hu => ?_⟩
  rw [List.getElem?_map] at hx
  obtain ⟨y, hy, rfl⟩ := Option.map_eq_some_iff.1 hx
  exact h6 j y k u hy hu

theorem take_snoc {α : Type} {l : List α} {k : Nat} {x : α} (h : l[k]? = some x) : l.take (k + 1) = l.take k ++ [x] := by
  rw [List.take_add_one, h]; rfl
theorem take_len {α : Type} {l : List α} {k : Nat} (h : k < l.length) : (l.take k).length = k := by rw [List.length_take]; omega

theorem blk_newQ {W : World} {b : Nat} {c : Array Value} {T : TypeId} (h : b = W.heap.size) : Blk (W.alloc (.cells c T)) b c T := by
  subst h; exact heap_alloc_new W _

set_option maxRecDepth 100000 in
set_option maxHeartbeats 8000000 in
theorem made_any (m : Mdl) (lv rv sv : Value) (R : List RuleV) (B : Nat) (w : World) (h : ModelAt w B lv rv sv m R) (hB : B ≤ w.heap.size)
    (b1 : m.links.length * 24 ≤ 140737488351232) (b2 : m.rules.length * 56 ≤ 140737488351232) (b3 : m.starts.length * 24 ≤ 140737488351232) (b4 : ∀ r ∈ m.rules, r.es.length * 24 ≤ 140737488351232) :
    Calls Try.prog 15 #[.agg #[.int .i64 m.procs, .int .i64 m.states, .int .i64 m.loads, lv, rv, sv]] w fun e w' => ∃ (lv' rv' sv' : Value) (R' : List RuleV), e = .returned (.agg #[.int .i64 m.procs, .int .i64 m.states, .int .i64 m.loads, lv', rv', sv']) ∧ ModelAt w' w'.heap.size lv' rv' sv' m R' ∧ Below w.heap.size w w' := by
  obtain ⟨ao, cap, hlv, hcap⟩ := RowsAt.form h.links
  subst hlv
  obtain ⟨aor, capr, hrv, hcapr⟩ := RowsAt.form h.rules.1
  rw [h.rlen] at hrv hcapr
  subst hrv
  obtain ⟨aos, caps, hsv, hcaps⟩ := RowsAt.form h.starts
  subst hsv
  obtain ⟨il, hil, hil0, hil1, hil2⟩ := info_parts info_lk
  obtain ⟨ie, hie, hie0, hie1, hie2⟩ := info_parts info_et
  obtain ⟨ist, hist, hist0, hist1, hist2⟩ := info_parts info_st
  obtain ⟨ir, hir, hir0, hir1, hir2⟩ := info_parts info_rl
  obtain ⟨W1, hW1⟩ : ∃ W1, W1 = ((w.alloc (.cells #[.int .i64 m.procs, .int .i64 m.states, .int .i64 m.loads, .slice ao m.links.length cap, .slice aor m.rules.length capr, .slice aos m.starts.length caps] 26)).alloc (.cells #[.int .i64 0, .int .i64 0, .int .i64 0, .slice none 0 0, .slice none 0 0, .slice none 0 0] 31)).alloc (.cells #[.int .i64 m.procs, .int .i64 m.states, .int .i64 m.loads, .slice none 0 0, .slice none 0 0, .slice none 0 0] 31) := ⟨_, rfl⟩
  have HW1 : Hid (W1 = ((w.alloc (.cells #[.int .i64 m.procs, .int .i64 m.states, .int .i64 m.loads, .slice ao m.links.length cap, .slice aor m.rules.length capr, .slice aos m.starts.length caps] 26)).alloc (.cells #[.int .i64 0, .int .i64 0, .int .i64 0, .slice none 0 0, .slice none 0 0, .slice none 0 0] 31)).alloc (.cells #[.int .i64 m.procs, .int .i64 m.states, .int .i64 m.loads, .slice none 0 0, .slice none 0 0, .slice none 0 0] 31)) := hW1
  have hbA : Below w.heap.size w W1 := by rw [hW1]; exact (((Below.refl _ _).alloc (Nat.le_refl _) _).alloc (by simp) _).alloc (by simp; omega) _
  have hmb : Blk W1 w.heap.size #[.int .i64 m.procs, .int .i64 m.states, .int .i64 m.loads, .slice ao m.links.length cap, .slice aor m.rules.length capr, .slice aos m.starts.length caps] 26 := by rw [hW1]; exact Blk.alloc (Blk.alloc (heap_alloc_new w _) _) _
  have hrb : Blk W1 (w.heap.size + 1) #[.int .i64 0, .int .i64 0, .int .i64 0, .slice none 0 0, .slice none 0 0, .slice none 0 0] 31 := by rw [hW1]; exact Blk.alloc (blk_newQ (by simp)) _
  have hob : Blk W1 (w.heap.size + 2) #[.int .i64 m.procs, .int .i64 m.states, .int .i64 m.loads, .slice none 0 0, .slice none 0 0, .slice none 0 0] 31 := by rw [hW1]; exact blk_newQ (by simp)
  have hzA : w.heap.size + 3 ≤ W1.heap.size := by rw [hW1]; simp
  clear hW1
  go_enter Try.func15, Try.ntmps15
  go_upto_region 2 with fail
  rw [← HW1.out]
  clear HW1
  go_wp2
  go_loopw [4] (fun s wr => ∃ (k : Nat) (v : Value), s = .int .i64 k ∧ k ≤ m.links.length ∧ Blk wr (w.heap.size + 2) #[.int .i64 m.procs, .int .i64 m.states, .int .i64 m.loads, v, .slice none 0 0, .slice none 0 0] 31 ∧ Own lkE wr (w.heap.size + 3) v (m.links.take k) ∧ KeptF (fun i => i = w.heap.size + 2) W1 wr ∧ (∀ g, v.ownBlock = some g → W1.heap.size ≤ g)) (fun s _ => m.links.length - (intOf s).toNat)
  case atStart => exact ⟨0, _, rfl, Nat.zero_le _, hob, by rw [List.take_zero]; exact Own.nil _ _ _, KeptF.refl _ _, fun g hg => by cases hg⟩
  case round =>
    obtain ⟨k, v, rfl, hk, hob2, hO, hK, hvA⟩ := hrel
    have hbw : Below w.heap.size w wr := hbA.trans (KeptF.below hK hbA.size (fun i hi => by omega))
    have hsz : w.heap.size + 3 ≤ wr.heap.size := Nat.le_trans hzA hK.size
    have c0 : wr.cell? ⟨w.heap.size, 3, none⟩ = some (.slice ao m.links.length cap) := (hK.cell (p := ⟨w.heap.size, 3, none⟩) (show w.heap.size < W1.heap.size by omega) (by simp)).trans (hmb.cell 3)
    by_cases hlt : k < m.links.length
    · obtain ⟨x, hx⟩ := get_of_lt hlt
      obtain ⟨b, off, hao, hbB, hc⟩ := RowsAt.at_ (h.keep (hbw.mono hB)).links hx
      subst hao
      have x0 := hc 0 (.int .i64 x.f) rfl
      have x1 := hc 1 (.int .i64 x.t) rfl
      have x2 := hc 2 (.int .i64 x.a) rfl
      simp only [Nat.add_zero] at x0
      have Hx : Hid (m.links[k]? = some x) := hx
      have hlk := take_len hlt
      have Hlk : Hid ((m.links.take k).length = k) := hlk
      obtain ⟨ao2, cap2, hvf, hcap2⟩ := hO.form'
      rw [hlk] at hvf hcap2
      subst hvf
      have o3 : wr.cell? ⟨w.heap.size + 2, 3, none⟩ = some (.slice ao2 k cap2) := hob2.cell 3
      have hcc := newCells (wr.alloc (.cells #[.int .i64 x.f, .int .i64 x.t, .int .i64 x.a] 93)) [.int .i64 x.f, .int .i64 x.t, .int .i64 x.a] 94
      rw [World.size_alloc] at hcc
      have hcc2 : ∀ j u, ([.int .i64 x.f, .int .i64 x.t, .int .i64 x.a])[j]? = some u → ((wr.alloc (.cells #[.int .i64 x.f, .int .i64 x.t, .int .i64 x.a] 93)).alloc (.cells #[.int .i64 x.f, .int .i64 x.t, .int .i64 x.a] 94)).cell? ((⟨wr.heap.size + 1, 0, none⟩ : Addr).add j) = some u := fun j u hu => hcc j u hu
      have hWW : KeptF (fun _ => False) wr ((wr.alloc (.cells #[.int .i64 x.f, .int .i64 x.t, .int .i64 x.a] 93)).alloc (.cells #[.int .i64 x.f, .int .i64 x.t, .int .i64 x.a] 94)) := ((KeptF.refl _ wr).alloc _).alloc _
      have hWl := hWW.size
      have hown0 : ((wr.alloc (.cells #[.int .i64 x.f, .int .i64 x.t, .int .i64 x.a] 93)).alloc (.cells #[.int .i64 x.f, .int .i64 x.t, .int .i64 x.a] 94)).ownsRow (w.heap.size + 3) 94 3 (.slice ao2 k cap2) k (flat lkE (m.links.take k)) := by
        have := hO.keep hWW (fun _ _ e => e)
        unfold Own at this
        rw [Hlk.out] at this
        exact this
      have hlb : b < wr.heap.size := block_lt_of_cell x0
      have hlo := hob2.lt
      clear hlk hx hc hcc
      go_wp2_with (at_builtin; refine wpList_append_ownX rfl (.tmp 33) (.tmp 41) 27 rfl (w.heap.size + 3) 94 il _ 3 24 Try.underlying27 hil hil0 hil1 hil2 rfl (by decide) (.slice ao2 k cap2) k (flat lkE (m.links.take k)) rfl ?own ⟨wr.heap.size + 1, 0, none⟩ 1 1 [.int .i64 x.f, .int .i64 x.t, .int .i64 x.a] rfl ?len ?cells ?one ?b1 ?b2 ?hb ?k)
      case own => exact hown0
      case len => rfl
      case cells => exact hcc2
      case one => exact three_one
      case b1 => unfold maxLen; omega
      case b2 => omega
      case hb => exact Nat.le_trans hsz hWl
      case k =>
        intro v2 w2 hown2 hgr2 hfr2
        have hOb : ∀ g, (Value.slice ao2 k cap2).ownBlock = some g → w.heap.size + 3 ≤ g := fun g hg => (hO.lt hg).1
        have hK2 : KeptF (fun g => (Value.slice ao2 k cap2).ownBlock = some g) wr w2 := (hWW.weaken (fun _ _ e => e.elim)).trans (KeptF.of_grown hgr2 (fun k h _ => h))
        have hob3 := hob2.keep hK2 (fun e => by have := hOb _ e; omega)
        have o3b : w2.cell? ⟨w.heap.size + 2, 3, none⟩ = some (.slice ao2 k cap2) := hob3.cell 3
        have o3f : w2.frozen? ⟨w.heap.size + 2, 3, none⟩ = false := hob3.frozen 3
        have hO2 : Own lkE w2 (w.heap.size + 3) v2 (m.links.take (k + 1)) := by
          rw [take_snoc Hx.out]
          exact Own.snoc (by rw [Hlk.out]; exact hown2)
        have hKA : KeptF (fun i => i = w.heap.size + 2) W1 w2 := hK.trans' hK2 (fun i hi e => by have := hvA i e; omega)
        have hv2A : ∀ g, v2.ownBlock = some g → W1.heap.size ≤ g := fun g hg => by
          rcases hfr2 g hg with h1 | h1
          · exact hvA g h1
          · have := hK.size; omega
        have hO2lt : ∀ g, v2.ownBlock = some g → w.heap.size + 3 ≤ g := fun g hg => (hO2.lt hg).1
        obtain ⟨ao3, cap3, hv3, hcap3⟩ := hO2.form'
        have hl1 : (m.links.take (k + 1)).length = k + 1 := by rw [List.length_take]; omega
        rw [hl1] at hv3
        subst hv3
        clear hl1
        clear hown2 hgr2 hfr2 hown0 hcc2 hWW hO x0 x1 x2 c0 o3
        go_wp2
        go_roundw
        case rel =>
          refine ⟨k + 1, _, by go_num, hlt, hob3.set 3 _, hO2.keep ((KeptF.refl (fun i => i = w.heap.size + 2) w2).setCell (p := ⟨w.heap.size + 2, 3, none⟩) (.inl rfl) _) (fun g hg e => by have := hO2lt g hg; omega), hKA.setCell (p := ⟨w.heap.size + 2, 3, none⟩) (.inl rfl) _, hv2A⟩
        case measure => simp [intOf]; omega
    · have hke : k = m.links.length := by omega
      subst hke
      rw [List.take_length] at hO
      obtain ⟨wA, hwA⟩ : ∃ wA, wA = wr := ⟨_, rfl⟩
      subst hwA
      obtain ⟨v1, hv1⟩ : ∃ v1, v1 = v := ⟨_, rfl⟩
      subst hv1
      have hL := hO
      have hKA := hK
      have hobA := hob2
      have hmA := hmb.keep hK (by omega)
      have hrA := hrb.keep hK (by omega)
      have hbwA := hbw
      have hszA := hsz
      clear hO hK hob2 hk hvA hbA hmb hrb hob hzA hbw hsz
      go_wp2
      clear c0 hlt
      go_loopw [6] (fun s wr => ∃ (k : Nat) (v2 : Value) (RS : List RuleS), s = .int .i64 k ∧ k ≤ m.rules.length ∧ Blk wr (w.heap.size + 2) #[.int .i64 m.procs, .int .i64 m.states, .int .i64 m.loads, v1, v2, .slice none 0 0] 31 ∧ Own rlE wr (w.heap.size + 3) v2 RS ∧ RS.map RuleS.r = m.rules.take k ∧ (∀ x ∈ RS, Own etE wr (w.heap.size + 3) x.ev x.r.es ∧ ∀ g, x.ev.ownBlock = some g → wA.heap.size ≤ g ∧ v2.ownBlock ≠ some g) ∧ KeptF (fun i => i = w.heap.size + 2) wA wr ∧ (∀ g, v2.ownBlock = some g → wA.heap.size ≤ g)) (fun s _ => m.rules.length - (intOf s).toNat)
      case atStart => exact ⟨0, _, [], rfl, Nat.zero_le _, hobA, Own.nil _ _ _, by simp, fun x hx => by simp at hx, KeptF.refl _ _, fun g hg => by cases hg⟩
      case round =>
        obtain ⟨w1, hw1⟩ : ∃ w1, w1 = wr := ⟨_, rfl⟩
        subst hw1
        obtain ⟨k, v2, RS, rfl, hk, hob2, hRO, hmap, hEm, hK, hvA⟩ := hrel
        have hbw : Below w.heap.size w w1 := hbwA.trans (KeptF.below hK hbwA.size (fun i hi => by omega))
        have hsz : w.heap.size + 3 ≤ w1.heap.size := Nat.le_trans hszA hK.size
        have hm1 := hmA.keep hK (by omega)
        have c0 : w1.cell? ⟨w.heap.size, 4, none⟩ = some (.slice aor m.rules.length capr) := hm1.cell 4
        by_cases hlt : k < m.rules.length
        · obtain ⟨⟨r, ev⟩, hRx, hmr, hE⟩ := h.rule hlt
          have hmr : m.rules[k]? = some r := hmr
          have hE : EmitsAt w B ev r.es := hE
          have hre := b4 r (List.mem_of_getElem? hmr)
          obtain ⟨aoe, cape, rfl, hcape⟩ := RowsAt.form hE
          obtain ⟨b, off, hao, hbB, hc⟩ := RowsAt.at_ (h.keep (hbw.mono hB)).rules.1 hRx
          subst hao
          have x0 := hc 0 (.int .i64 r.p) rfl
          have x1 := hc 1 (.int .i64 r.s) rfl
          have x2 := hc 2 (.int .i64 r.l) rfl
          have x3 := hc 3 (.int .i64 r.n) rfl
          have x4 := hc 4 (.slice aoe r.es.length cape) rfl
          simp only [Nat.add_zero] at x0
          have Hr : Hid (m.rules[k]? = some r) := hmr
          have hlb : b < w1.heap.size := block_lt_of_cell x0
          have hrb1 : Blk (w1.alloc (.cells #[.int .i64 r.p, .int .i64 r.s, .int .i64 r.l, .int .i64 r.n, .slice aoe r.es.length cape] 97)) w1.heap.size #[.int .i64 r.p, .int .i64 r.s, .int .i64 r.l, .int .i64 r.n, .slice aoe r.es.length cape] 97 := heap_alloc_new w1 _
          have hzr : (w1.alloc (.cells #[.int .i64 r.p, .int .i64 r.s, .int .i64 r.l, .int .i64 r.n, .slice aoe r.es.length cape] 97)).heap.size = w1.heap.size + 1 := by simp
          have Hzr : Hid ((w1.alloc (.cells #[.int .i64 r.p, .int .i64 r.s, .int .i64 r.l, .int .i64 r.n, .slice aoe r.es.length cape] 97)).heap.size = w1.heap.size + 1) := hzr
          have Hmap : Hid (RS.map RuleS.r = m.rules.take k) := hmap
          have hRl : RS.length = k := by have := congrArg List.length hmap; rw [List.length_map, take_len hlt] at this; exact this
          have HRl : Hid (RS.length = k) := hRl
          have hKR : KeptF (fun _ => False) w1 (w1.alloc (.cells #[.int .i64 r.p, .int .i64 r.s, .int .i64 r.l, .int .i64 r.n, .slice aoe r.es.length cape] 97)) := (KeptF.refl _ w1).alloc _
          clear hc hRx hmr hmap hRl hzr
          go_wp2
          clear x0 x1 x2 x3 x4 c0
          go_loopw [8, 9] (fun s8 s9 wr => ∃ (i : Nat) (l : Value), s8 = l ∧ s9 = .int .i64 i ∧ i ≤ r.es.length ∧ Own etE wr (w1.heap.size + 1) l (r.es.take i) ∧ KeptF (fun _ => False) (w1.alloc (.cells #[.int .i64 r.p, .int .i64 r.s, .int .i64 r.l, .int .i64 r.n, .slice aoe r.es.length cape] 97)) wr) (fun _ s9 _ => r.es.length - (intOf s9).toNat)
          case atStart => exact ⟨0, _, rfl, rfl, Nat.zero_le _, by rw [List.take_zero]; exact Own.nil _ _ _, KeptF.refl _ _⟩
          case round =>
            obtain ⟨i, l, rfl, rfl, hi, hO, hKi⟩ := hrel
            have hri := hrb1.keep hKi (fun e => e)
            have hszi : w1.heap.size + 1 ≤ wr.heap.size := by have := hKi.size; rw [Hzr.out] at this; exact this
            have hK1i : KeptF (fun _ => False) w1 wr := hKR.trans hKi
            have r4 : wr.cell? ⟨w1.heap.size, 4, none⟩ = some (.slice aoe r.es.length cape) := hri.cell 4
            by_cases hli : i < r.es.length
            · obtain ⟨e, he⟩ := get_of_lt hli
              have hbi : Below w.heap.size w wr := hbw.trans (KeptF.below hK1i hbw.size (fun i hi => hi.elim))
              obtain ⟨eb, eo, hao, hebB, hec⟩ := RowsAt.at_ (RowsAt.keep hE (hbi.mono hB)) he
              subst hao
              have y0 := hec 0 (.int .i64 e.k) rfl
              have y1 := hec 1 (.int .i64 e.d) rfl
              have y2 := hec 2 (.int .i64 e.l) rfl
              simp only [Nat.add_zero] at y0
              have He : Hid (r.es[i]? = some e) := he
              have hlk := take_len hli
              have Hlk : Hid ((r.es.take i).length = i) := hlk
              obtain ⟨ao2, cap2, hvf, hcap2⟩ := hO.form'
              rw [hlk] at hvf hcap2
              subst hvf
              have hcc := newCells (wr.alloc (.cells #[.int .i64 e.k, .int .i64 e.d, .int .i64 e.l] 100)) [.int .i64 e.k, .int .i64 e.d, .int .i64 e.l] 101
              rw [World.size_alloc] at hcc
              have hcc2 : ∀ j u, ([.int .i64 e.k, .int .i64 e.d, .int .i64 e.l])[j]? = some u → ((wr.alloc (.cells #[.int .i64 e.k, .int .i64 e.d, .int .i64 e.l] 100)).alloc (.cells #[.int .i64 e.k, .int .i64 e.d, .int .i64 e.l] 101)).cell? ((⟨wr.heap.size + 1, 0, none⟩ : Addr).add j) = some u := fun j u hu => hcc j u hu
              have hWW : KeptF (fun _ => False) wr ((wr.alloc (.cells #[.int .i64 e.k, .int .i64 e.d, .int .i64 e.l] 100)).alloc (.cells #[.int .i64 e.k, .int .i64 e.d, .int .i64 e.l] 101)) := ((KeptF.refl _ wr).alloc _).alloc _
              have hWl := hWW.size
              have hown0 : ((wr.alloc (.cells #[.int .i64 e.k, .int .i64 e.d, .int .i64 e.l] 100)).alloc (.cells #[.int .i64 e.k, .int .i64 e.d, .int .i64 e.l] 101)).ownsRow (w1.heap.size + 1) 101 3 (.slice ao2 i cap2) i (flat etE (r.es.take i)) := by
                have := hO.keep hWW (fun _ _ e => e)
                unfold Own at this
                rw [Hlk.out] at this
                exact this
              have hleb : eb < wr.heap.size := block_lt_of_cell y0
              have hlri := hri.lt
              clear hlk he hec hcc
              go_wp2_with (at_builtin; refine wpList_append_ownX rfl (.tmp 68) (.tmp 76) 98 rfl (w1.heap.size + 1) 101 ie _ 3 24 Try.underlying98 hie hie0 hie1 hie2 rfl (by decide) (.slice ao2 i cap2) i (flat etE (r.es.take i)) rfl ?own ⟨wr.heap.size + 1, 0, none⟩ 1 1 [.int .i64 e.k, .int .i64 e.d, .int .i64 e.l] rfl ?len ?cells ?one ?b1 ?b2 ?hb ?k)
              case own => exact hown0
              case len => rfl
              case cells => exact hcc2
              case one => exact three_one
              case b1 => unfold maxLen; omega
              case b2 => omega
              case hb => exact Nat.le_trans hszi hWl
              case k =>
                intro l2 w2 hown2 hgr2 hfr2
                have hK2 : KeptF (fun g => (Value.slice ao2 i cap2).ownBlock = some g) wr w2 := (hWW.weaken (fun _ _ e => e.elim)).trans (KeptF.of_grown hgr2 (fun k h _ => h))
                have hO2 : Own etE w2 (w1.heap.size + 1) l2 (r.es.take (i + 1)) := by
                  rw [take_snoc He.out]
                  exact Own.snoc (by rw [Hlk.out]; exact hown2)
                have hKi2 : KeptF (fun _ => False) _ w2 := hKi.trans' hK2 (fun g hg e => by have := (hO.lt e).1; rw [Hzr.out] at hg; omega)
                clear hown2 hgr2 hfr2 hown0 hcc2 hWW y0 y1 y2 r4
                go_wp2
                go_roundw
                case rel => exact ⟨i + 1, l2, rfl, by go_num, hli, hO2, hKi2⟩
                case measure => simp [intOf]; omega
            · have hie' : i = r.es.length := by omega
              subst hie'
              rw [List.take_length] at hO
              obtain ⟨aol, capl, hlf, hcapl⟩ := hO.form'
              have z0 : wr.cell? ⟨w1.heap.size, 0, none⟩ = some (.int .i64 r.p) := hri.cell 0
              have z1 : wr.cell? ⟨w1.heap.size, 1, none⟩ = some (.int .i64 r.s) := hri.cell 1
              have z2 : wr.cell? ⟨w1.heap.size, 2, none⟩ = some (.int .i64 r.l) := hri.cell 2
              have z3 : wr.cell? ⟨w1.heap.size, 3, none⟩ = some (.int .i64 r.n) := hri.cell 3
              have HO : Hid (Own etE wr (w1.heap.size + 1) (.slice aol r.es.length capl) r.es) := by rw [hlf] at hO; exact hO
              subst hlf
              clear hO
              have hob3 := hob2.keep hK1i (fun e => e)
              obtain ⟨ao2, cap2, hvf, hcap2⟩ := hRO.form'
              rw [HRl.out] at hvf hcap2
              subst hvf
              have o4 : wr.cell? ⟨w.heap.size + 2, 4, none⟩ = some (.slice ao2 k cap2) := hob3.cell 4
              have hcc2 : ∀ j u, ([.int .i64 r.p, .int .i64 r.s, .int .i64 r.l, .int .i64 r.n, .slice aol r.es.length capl])[j]? = some u → (wr.alloc (.cells #[.int .i64 r.p, .int .i64 r.s, .int .i64 r.l, .int .i64 r.n, .slice aol r.es.length capl] 103)).cell? ((⟨wr.heap.size, 0, none⟩ : Addr).add j) = some u := fun j u hu => newCells wr [.int .i64 r.p, .int .i64 r.s, .int .i64 r.l, .int .i64 r.n, .slice aol r.es.length capl] 103 j u hu
              have hone : ∀ u ∈ ([.int .i64 r.p, .int .i64 r.s, .int .i64 r.l, .int .i64 r.n, .slice aol r.es.length capl] : List Value), u.oneCell' = true := by
                intro u hu
                simp only [List.mem_cons, List.not_mem_nil, or_false] at hu
                rcases hu with rfl | rfl | rfl | rfl | rfl <;> rfl
              have hWW : KeptF (fun _ => False) wr (wr.alloc (.cells #[.int .i64 r.p, .int .i64 r.s, .int .i64 r.l, .int .i64 r.n, .slice aol r.es.length capl] 103)) := (KeptF.refl _ wr).alloc _
              have hWl := hWW.size
              have hown0 : (wr.alloc (.cells #[.int .i64 r.p, .int .i64 r.s, .int .i64 r.l, .int .i64 r.n, .slice aol r.es.length capl] 103)).ownsRow (w.heap.size + 3) 103 5 (.slice ao2 k cap2) k (flat rlE RS) := by
                have := (hRO.keep hK1i (fun _ _ e => e)).keep hWW (fun _ _ e => e)
                unfold Own at this
                rw [HRl.out] at this
                exact this
              have hlo := hob3.lt
              have hlri := hri.lt
              go_wp2_with (at_builtin; refine wpList_append_ownX rfl (.tmp 79) (.tmp 90) 28 rfl (w.heap.size + 3) 103 ir _ 5 56 Try.underlying28 hir hir0 hir1 hir2 rfl (by decide) (.slice ao2 k cap2) k (flat rlE RS) rfl ?own ⟨wr.heap.size, 0, none⟩ 1 1 [.int .i64 r.p, .int .i64 r.s, .int .i64 r.l, .int .i64 r.n, .slice aol r.es.length capl] rfl ?len ?cells ?one ?b1 ?b2 ?hb ?k)
              case own => exact hown0
              case len => rfl
              case cells => exact hcc2
              case one => exact hone
              case b1 => unfold maxLen; omega
              case b2 => omega
              case hb => exact Nat.le_trans (by omega) hWl
              case k =>
                intro v3 w2 hown2 hgr2 hfr2
                have hvb : ∀ g, (Value.slice ao2 k cap2).ownBlock = some g → w.heap.size + 3 ≤ g ∧ g < w1.heap.size := fun g hg => hRO.lt hg
                have hK2 : KeptF (fun g => (Value.slice ao2 k cap2).ownBlock = some g) wr w2 := (hWW.weaken (fun _ _ e => e.elim)).trans (KeptF.of_grown hgr2 (fun k h _ => h))
                have hK12 : KeptF (fun g => (Value.slice ao2 k cap2).ownBlock = some g) w1 w2 := (hK1i.weaken (fun _ _ e => e.elim)).trans hK2
                have hob4 := hob3.keep hK2 (fun e => by have := (hvb _ e).1; omega)
                have o4b : w2.cell? ⟨w.heap.size + 2, 4, none⟩ = some (.slice ao2 k cap2) := hob4.cell 4
                have o4f : w2.frozen? ⟨w.heap.size + 2, 4, none⟩ = false := hob4.frozen 4
                have hO2 : Own rlE w2 (w.heap.size + 3) v3 (RS ++ [⟨r, aol, r.es.length, capl⟩]) := Own.snoc (by rw [HRl.out]; exact hown2)
                have hO2lt : ∀ g, v3.ownBlock = some g → w.heap.size + 3 ≤ g := fun g hg => (hO2.lt hg).1
                have hfr : ∀ g, v3.ownBlock = some g → (Value.slice ao2 k cap2).ownBlock = some g ∨ wr.heap.size ≤ g := fun g hg => by
                  rcases hfr2 g hg with h1 | h1
                  · exact .inl h1
                  · exact .inr (by omega)
                have hKA2 : KeptF (fun i => i = w.heap.size + 2) wA w2 := hK.trans' hK12 (fun i hi e => by have := hvA i e; omega)
                have hv3A : ∀ g, v3.ownBlock = some g → wA.heap.size ≤ g := fun g hg => by
                  rcases hfr g hg with h1 | h1
                  · exact hvA g h1
                  · have := hK.size; omega
                have HE2 : Hid (∀ x ∈ RS ++ [(⟨r, aol, r.es.length, capl⟩ : RuleS)], Own etE w2 (w.heap.size + 3) x.ev x.r.es ∧ ∀ g, x.ev.ownBlock = some g → wA.heap.size ≤ g ∧ v3.ownBlock ≠ some g) := fun x hx => by
                  rcases List.mem_append.1 hx with hx | hx
                  · obtain ⟨h1, h2⟩ := hEm x hx
                    refine ⟨h1.keep hK12 (fun g hg e => (h2 g hg).2 e), fun g hg => ⟨(h2 g hg).1, fun e => ?_⟩⟩
                    rcases hfr g e with h3 | h3
                    · exact (h2 g hg).2 h3
                    · have := (h1.lt hg).2; omega
                  · simp at hx
                    subst hx
                    have h1 : Own etE wr (w1.heap.size + 1) (.slice aol r.es.length capl) r.es := HO.out
                    refine ⟨(h1.keep hK2 (fun g hg e => by have := (h1.lt hg).1; have := (hvb g e).2; omega)).mono (by omega), fun g hg => ⟨by have := (h1.lt hg).1; have := hK.size; omega, fun e => ?_⟩⟩
                    rcases hfr g e with h3 | h3
                    · have := (h1.lt hg).1; have := (hvb g h3).2; omega
                    · have := (h1.lt hg).2; omega
                obtain ⟨ao3, cap3, hv3, hcap3⟩ := hO2.form'
                have hl1 : (RS ++ [(⟨r, aol, r.es.length, capl⟩ : RuleS)]).length = k + 1 := by rw [List.length_append, HRl.out]; rfl
                rw [hl1] at hv3
                subst hv3
                clear hl1 hown2 hgr2 hfr2 hown0 hcc2 hone hWW z0 z1 z2 z3 r4 o4 hEm hRO
                go_wp2
                go_roundw
                case rel =>
                  have ks : ∀ W : World, KeptF (fun i => i = w.heap.size + 2) W (W.setCell ⟨w.heap.size + 2, 4, none⟩ (.slice ao3 (k + 1) cap3)) := fun W => (KeptF.refl (fun i => i = w.heap.size + 2) W).setCell (p := ⟨w.heap.size + 2, 4, none⟩) (.inl rfl) _
                  refine ⟨k + 1, _, RS ++ [⟨r, aol, r.es.length, capl⟩], by go_num, hlt, hob4.set 4 _, hO2.keep (ks w2) (fun g hg e => by have := hO2lt g hg; omega), ?_, ?_, hKA2.setCell (p := ⟨w.heap.size + 2, 4, none⟩) (.inl rfl) _, hv3A⟩
                  · rw [List.map_append, Hmap.out, take_snoc Hr.out]; rfl
                  · intro x hx
                    obtain ⟨h1, h2⟩ := HE2.out x hx
                    exact ⟨h1.keep (ks w2) (fun g hg e => by have := (h1.lt hg).1; omega), h2⟩
                case measure => simp [intOf]; omega
        · have hke : k = m.rules.length := by omega
          subst hke
          rw [List.take_length] at hmap
          obtain ⟨wB, hwB⟩ : ∃ wB, wB = w1 := ⟨_, rfl⟩
          subst hwB
          have hob := hob2
          have hL := hL.keep hK (fun g hg e => by have := (hL.lt hg).1; omega)
          have hmb := hm1
          have hrb := hrA.keep hK (by omega)
          have hbA := hbw
          have hzA := hsz
          have hEm3 : ∀ x ∈ RS, Own etE wB (w.heap.size + 3) x.ev x.r.es := fun x hx => (hEm x hx).1
          clear hEm
          clear hob2 hm1 hrA hmA hbw hsz hbwA hszA hK hKA hvA hk hobA
          go_wp2
          clear c0 hlt
          go_loopw [11] (fun s wr => ∃ (k : Nat) (v : Value), s = .int .i64 k ∧ k ≤ m.starts.length ∧ Blk wr (w.heap.size + 2) #[.int .i64 m.procs, .int .i64 m.states, .int .i64 m.loads, v1, v2, v] 31 ∧ Own stE wr (w.heap.size + 3) v (m.starts.take k) ∧ KeptF (fun i => i = w.heap.size + 2) wB wr ∧ (∀ g, v.ownBlock = some g → wB.heap.size ≤ g)) (fun s _ => m.starts.length - (intOf s).toNat)
          case atStart => exact ⟨0, _, rfl, Nat.zero_le _, hob, by rw [List.take_zero]; exact Own.nil _ _ _, KeptF.refl _ _, fun g hg => by cases hg⟩
          case round =>
            obtain ⟨k, v, rfl, hk, hob2, hO, hK, hvA⟩ := hrel
            have hbw : Below w.heap.size w wr := hbA.trans (KeptF.below hK hbA.size (fun i hi => by omega))
            have hsz : w.heap.size + 3 ≤ wr.heap.size := Nat.le_trans hzA hK.size
            have c0 : wr.cell? ⟨w.heap.size, 5, none⟩ = some (.slice aos m.starts.length caps) := (hK.cell (p := ⟨w.heap.size, 5, none⟩) (show w.heap.size < wB.heap.size by omega) (by simp)).trans (hmb.cell 5)
            by_cases hlt : k < m.starts.length
            · obtain ⟨x, hx⟩ := get_of_lt hlt
              obtain ⟨b, off, hao, hbB, hc⟩ := RowsAt.at_ (h.keep (hbw.mono hB)).starts hx
              subst hao
              have x0 := hc 0 (.int .i64 x.p) rfl
              have x1 := hc 1 (.int .i64 x.t) rfl
              have x2 := hc 2 (.int .i64 x.l) rfl
              simp only [Nat.add_zero] at x0
              have Hx : Hid (m.starts[k]? = some x) := hx
              have hlk := take_len hlt
              have Hlk : Hid ((m.starts.take k).length = k) := hlk
              obtain ⟨ao2, cap2, hvf, hcap2⟩ := hO.form'
              rw [hlk] at hvf hcap2
              subst hvf
              have o5 : wr.cell? ⟨w.heap.size + 2, 5, none⟩ = some (.slice ao2 k cap2) := hob2.cell 5
              have hcc := newCells (wr.alloc (.cells #[.int .i64 x.p, .int .i64 x.t, .int .i64 x.l] 72)) [.int .i64 x.p, .int .i64 x.t, .int .i64 x.l] 73
              rw [World.size_alloc] at hcc
              have hcc2 : ∀ j u, ([.int .i64 x.p, .int .i64 x.t, .int .i64 x.l])[j]? = some u → ((wr.alloc (.cells #[.int .i64 x.p, .int .i64 x.t, .int .i64 x.l] 72)).alloc (.cells #[.int .i64 x.p, .int .i64 x.t, .int .i64 x.l] 73)).cell? ((⟨wr.heap.size + 1, 0, none⟩ : Addr).add j) = some u := fun j u hu => hcc j u hu
              have hWW : KeptF (fun _ => False) wr ((wr.alloc (.cells #[.int .i64 x.p, .int .i64 x.t, .int .i64 x.l] 72)).alloc (.cells #[.int .i64 x.p, .int .i64 x.t, .int .i64 x.l] 73)) := ((KeptF.refl _ wr).alloc _).alloc _
              have hWl := hWW.size
              have hown0 : ((wr.alloc (.cells #[.int .i64 x.p, .int .i64 x.t, .int .i64 x.l] 72)).alloc (.cells #[.int .i64 x.p, .int .i64 x.t, .int .i64 x.l] 73)).ownsRow (w.heap.size + 3) 73 3 (.slice ao2 k cap2) k (flat stE (m.starts.take k)) := by
                have := hO.keep hWW (fun _ _ e => e)
                unfold Own at this
                rw [Hlk.out] at this
                exact this
              have hlb : b < wr.heap.size := block_lt_of_cell x0
              have hlo := hob2.lt
              clear hlk hx hc hcc
              go_wp2_with (at_builtin; refine wpList_append_ownX rfl (.tmp 106) (.tmp 114) 29 rfl (w.heap.size + 3) 73 ist _ 3 24 Try.underlying29 hist hist0 hist1 hist2 rfl (by decide) (.slice ao2 k cap2) k (flat stE (m.starts.take k)) rfl ?own ⟨wr.heap.size + 1, 0, none⟩ 1 1 [.int .i64 x.p, .int .i64 x.t, .int .i64 x.l] rfl ?len ?cells ?one ?b1 ?b2 ?hb ?k)
              case own => exact hown0
              case len => rfl
              case cells => exact hcc2
              case one => exact three_one
              case b1 => unfold maxLen; omega
              case b2 => omega
              case hb => exact Nat.le_trans hsz hWl
              case k =>
                intro v2 w2 hown2 hgr2 hfr2
                have hOb : ∀ g, (Value.slice ao2 k cap2).ownBlock = some g → w.heap.size + 3 ≤ g := fun g hg => (hO.lt hg).1
                have hK2 : KeptF (fun g => (Value.slice ao2 k cap2).ownBlock = some g) wr w2 := (hWW.weaken (fun _ _ e => e.elim)).trans (KeptF.of_grown hgr2 (fun k h _ => h))
                have hob3 := hob2.keep hK2 (fun e => by have := hOb _ e; omega)
                have o5b : w2.cell? ⟨w.heap.size + 2, 5, none⟩ = some (.slice ao2 k cap2) := hob3.cell 5
                have o5f : w2.frozen? ⟨w.heap.size + 2, 5, none⟩ = false := hob3.frozen 5
                have hO2 : Own stE w2 (w.heap.size + 3) v2 (m.starts.take (k + 1)) := by
                  rw [take_snoc Hx.out]
                  exact Own.snoc (by rw [Hlk.out]; exact hown2)
                have hKA : KeptF (fun i => i = w.heap.size + 2) wB w2 := hK.trans' hK2 (fun i hi e => by have := hvA i e; omega)
                have hv2A : ∀ g, v2.ownBlock = some g → wB.heap.size ≤ g := fun g hg => by
                  rcases hfr2 g hg with h1 | h1
                  · exact hvA g h1
                  · have := hK.size; omega
                have hO2lt : ∀ g, v2.ownBlock = some g → w.heap.size + 3 ≤ g := fun g hg => (hO2.lt hg).1
                obtain ⟨ao3, cap3, hv3, hcap3⟩ := hO2.form'
                have hl1 : (m.starts.take (k + 1)).length = k + 1 := by rw [List.length_take]; omega
                rw [hl1] at hv3
                subst hv3
                clear hl1
                clear hown2 hgr2 hfr2 hown0 hcc2 hWW hO x0 x1 x2 c0 o5
                go_wp2
                go_roundw
                case rel =>
                  refine ⟨k + 1, _, by go_num, hlt, hob3.set 5 _, hO2.keep ((KeptF.refl (fun i => i = w.heap.size + 2) w2).setCell (p := ⟨w.heap.size + 2, 5, none⟩) (.inl rfl) _) (fun g hg e => by have := hO2lt g hg; omega), hKA.setCell (p := ⟨w.heap.size + 2, 5, none⟩) (.inl rfl) _, hv2A⟩
                case measure => simp [intOf]; omega
            · have hke : k = m.starts.length := by omega
              subst hke
              rw [List.take_length] at hO
              have hO3 := hO
              have k6 : ∀ u0 u1 u2 u3 u4 u5, KeptF (fun i => i = w.heap.size + 1) wr ((((((wr.setCell ⟨w.heap.size + 1, 0, none⟩ u0).setCell ⟨w.heap.size + 1, 1, none⟩ u1).setCell ⟨w.heap.size + 1, 2, none⟩ u2).setCell ⟨w.heap.size + 1, 3, none⟩ u3).setCell ⟨w.heap.size + 1, 4, none⟩ u4).setCell ⟨w.heap.size + 1, 5, none⟩ u5) := fun u0 u1 u2 u3 u4 u5 =>
                ((((((KeptF.refl (fun i => i = w.heap.size + 1) wr).setCell (p := ⟨w.heap.size + 1, 0, none⟩) (.inl rfl) u0).setCell (p := ⟨w.heap.size + 1, 1, none⟩) (.inl rfl) u1).setCell (p := ⟨w.heap.size + 1, 2, none⟩) (.inl rfl) u2).setCell (p := ⟨w.heap.size + 1, 3, none⟩) (.inl rfl) u3).setCell (p := ⟨w.heap.size + 1, 4, none⟩) (.inl rfl) u4).setCell (p := ⟨w.heap.size + 1, 5, none⟩) (.inl rfl) u5
              have hrb3 := hrb.keep hK (by omega)
              have q0 : wr.cell? ⟨w.heap.size + 1, 0, none⟩ = some (.int .i64 0) := hrb3.cell 0
              have q1 : wr.cell? ⟨w.heap.size + 1, 1, none⟩ = some (.int .i64 0) := hrb3.cell 1
              have q2 : wr.cell? ⟨w.heap.size + 1, 2, none⟩ = some (.int .i64 0) := hrb3.cell 2
              have q3 : wr.cell? ⟨w.heap.size + 1, 3, none⟩ = some (.slice none 0 0) := hrb3.cell 3
              have q4 : wr.cell? ⟨w.heap.size + 1, 4, none⟩ = some (.slice none 0 0) := hrb3.cell 4
              have q5 : wr.cell? ⟨w.heap.size + 1, 5, none⟩ = some (.slice none 0 0) := hrb3.cell 5
              have qf := hrb3.frozen
              have p0 : wr.cell? ⟨w.heap.size + 2, 0, none⟩ = some (.int .i64 m.procs) := hob2.cell 0
              have p1 : wr.cell? ⟨w.heap.size + 2, 1, none⟩ = some (.int .i64 m.states) := hob2.cell 1
              have p2 : wr.cell? ⟨w.heap.size + 2, 2, none⟩ = some (.int .i64 m.loads) := hob2.cell 2
              have p3 : wr.cell? ⟨w.heap.size + 2, 3, none⟩ = some v1 := hob2.cell 3
              have p4 : wr.cell? ⟨w.heap.size + 2, 4, none⟩ = some v2 := hob2.cell 4
              have p5 : wr.cell? ⟨w.heap.size + 2, 5, none⟩ = some v := hob2.cell 5
              obtain ⟨ga1, gc1, hf1, _⟩ := hL.form'
              obtain ⟨ga2, gc2, hf2, _⟩ := hRO.form'
              obtain ⟨ga3, gc3, hf3, _⟩ := hO.form'
              have HL : Hid (Own lkE wB (w.heap.size + 3) v1 m.links) := hL
              have HR : Hid (Own rlE wB (w.heap.size + 3) v2 RS) := hRO
              have HO : Hid (Own stE wr (w.heap.size + 3) v m.starts) := hO
              subst hf1 hf2 hf3
              clear hL hRO hO hO3
              go_wp2
              have k7 := k6 (.int .i64 m.procs) (.int .i64 m.states) (.int .i64 m.loads) (.slice ga1 m.links.length gc1) (.slice ga2 RS.length gc2) (.slice ga3 m.starts.length gc3)
              refine bodyPost_ret (v := .agg #[.int .i64 m.procs, .int .i64 m.states, .int .i64 m.loads, .slice ga1 m.links.length gc1, .slice ga2 RS.length gc2, .slice ga3 m.starts.length gc3]) (by simp [results, Try.results15, go_sem, q0, q1, q2, q3, q4, q5]) rfl ⟨_, _, _, RS.map RuleS.v, rfl, ⟨?_, ⟨?_, ?_⟩, ?_, ?_⟩, ?_⟩
              · exact ((HL.out.keep hK (fun g hg e => by have := (HL.out.lt hg).1; omega)).keep k7 (fun g hg e => by have := (HL.out.lt hg).1; omega)).rows
              · exact RowsAt.map (f := RuleS.v) ((HR.out.keep hK (fun g hg e => by have := (HR.out.lt hg).1; omega)).keep k7 (fun g hg e => by have := (HR.out.lt hg).1; omega)).rows
              · intro z hz
                obtain ⟨y, hy, rfl⟩ := List.mem_map.1 hz
                have h1 := hEm3 y hy
                exact ((h1.keep hK (fun g hg e => by have := (h1.lt hg).1; omega)).keep k7 (fun g hg e => by have := (h1.lt hg).1; omega)).rows
              · exact (HO.out.keep k7 (fun g hg e => by have := (HO.out.lt hg).1; omega)).rows
              · rw [List.map_map]; exact hmap
              · exact hbw.trans (KeptF.below k7 hbw.size (fun i hi => by omega))

end Go.Proofs.Ytaieackeflmhgaa

