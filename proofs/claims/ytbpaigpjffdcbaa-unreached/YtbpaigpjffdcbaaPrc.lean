/-
  The processes in memory: each a queue with three numbers behind it; all apart.
-/
import Derived.Test.YtbpaigpjffdcbaaRows2
import Derived.Test.YtbpaigpjffdcbaaPair
namespace Go.Proofs.Ytbpaigpjffdcbaa
open Go.RowKit Go.Sort Go.Maps

structure Pr where
  qb : Nat
  mb : Nat
  dv : Value
  n : Nat
  ds : List Day
  width : Int
  pushed : Nat
  num : Int
  st : Int
  sent : Int
  dnv : Value
  dn : List Dn

/-- what was done, as the program lays it -/
def dpE : Enc Dn := ⟨5, 69, dnC, fun _ => rfl, by omega, fun x u hu => by
  simp only [dnC, List.mem_cons, List.not_mem_nil, or_false] at hu
  rcases hu with rfl | rfl | rfl | rfl | rfl <;> rfl⟩

def PF (p : Pr) (k : Nat) : Prop := Foot p.qb p.mb p.dv p.ds k ∨ p.dnv.ownBlock = some k
theorem PF.q {p : Pr} : PF p p.qb := .inl (.inl rfl)
def Pr.its (p : Pr) : List It := (allEs p.ds).map Ent.it
def Pr.top (p : Pr) : Option It := match p.ds with
  | [] => none
  | x :: _ => match x.es with
    | [] => none
    | e :: _ => some e.it
def ptr (p : Pr) : Value := .pointer (some ⟨p.qb, 0, none⟩)

structure PAt (w : World) (B : Nat) (p : Pr) : Prop where
  core : QCore w B p.qb p.mb p.dv p.n p.ds #[.int .i64 p.num, .int .i64 p.st, .int .i64 p.sent, p.dnv] 126 p.width ((allEs p.ds).length : Int) (p.pushed : Int)
  filled : Filled p.width p.ds
  wid1 : 1 ≤ p.width
  wid2 : p.width ≤ 100
  nle : p.n ≤ p.pushed
  lenle : (allEs p.ds).length ≤ p.pushed
  own : Own dpE w B p.dnv p.dn
  oap : ∀ g, p.dnv.ownBlock = some g → ¬ Foot p.qb p.mb p.dv p.ds g

theorem PAt.lt {w : World} {B : Nat} {p : Pr} (h : PAt w B p) {k : Nat} (hk : PF p k) : B ≤ k ∧ k < w.heap.size := hk.elim h.core.foot_lt h.own.lt
theorem PAt.keep {G : Nat → Prop} {w w' : World} {B : Nat} {p : Pr} (h : PAt w B p) (k : KeptF G w w') (hG : ∀ i, PF p i → ¬ G i) : PAt w' B p :=
  ⟨h.core.keep k (fun i hi => hG i (.inl hi)), h.filled, h.wid1, h.wid2, h.nle, h.lenle, h.own.keep k (fun g hg => hG g (.inr hg)), h.oap⟩

/-- what lies behind a queue's own cells turns -/
theorem QCore.setRest {w w' : World} {B qb mb : Nat} {dv : Value} {n : Nat} {ds : List Day} {rest rest' : Array Value} {Tq : TypeId} {width count pushed : Int} (h : QCore w B qb mb dv n ds rest Tq width count pushed)
    (hb : Blk w' qb (#[.int .i64 width, .int .i64 count, .int .i64 pushed, dv, .map (some mb)] ++ rest') Tq) (k : KeptF (fun i => i = qb) w w') : QCore w' B qb mb dv n ds rest' Tq width count pushed := by
  have A := h.apart
  refine ⟨hb, ?_, h.days.keep k (fun g hg e => A.dq (by rw [hg, e])), h.heap, fun x hx => ?_, h.nodup, h.lowq, h.lowm, h.lowk, A⟩
  · obtain ⟨D, h1, h2⟩ := h.map
    exact ⟨D, ownsMap_keep h1 k (fun e => A.qm e.symm), h2⟩
  · obtain ⟨h1, h2, h3⟩ := h.each x hx
    exact ⟨h1.keep k (A.kq x hx).1, h2.keep k (fun g hg e => (A.iq x hx).1 (by rw [hg, e])), h3⟩

theorem PAt.cells {w : World} {B : Nat} {p : Pr} (h : PAt w B p) : w.cell? ⟨p.qb, 5, none⟩ = some (.int .i64 p.num) ∧ w.cell? ⟨p.qb, 6, none⟩ = some (.int .i64 p.st) ∧ w.cell? ⟨p.qb, 7, none⟩ = some (.int .i64 p.sent) ∧ w.cell? ⟨p.qb, 8, none⟩ = some p.dnv :=
  ⟨(h.core.blk.cell 5).trans rfl, (h.core.blk.cell 6).trans rfl, (h.core.blk.cell 7).trans rfl, (h.core.blk.cell 8).trans rfl⟩

theorem PAt.oq {w : World} {B : Nat} {p : Pr} (h : PAt w B p) : ∀ g, p.dnv.ownBlock = some g → g ≠ p.qb := fun g hg e => h.oap g hg (.inl e)

theorem PAt.setSt {w : World} {B : Nat} {p : Pr} (h : PAt w B p) (x : Int) : PAt (w.setCell ⟨p.qb, 6, none⟩ (.int .i64 x)) B { p with st := x } ∧ KeptF (fun i => i = p.qb) w (w.setCell ⟨p.qb, 6, none⟩ (.int .i64 x)) := by
  have k : KeptF (fun i => i = p.qb) w (w.setCell ⟨p.qb, 6, none⟩ (.int .i64 x)) := (KeptF.refl (fun i => i = p.qb) w).setCell (p := ⟨p.qb, 6, none⟩) (.inl rfl) _
  exact ⟨⟨h.core.setRest (h.core.blk.set 6 (.int .i64 x)) k, h.filled, h.wid1, h.wid2, h.nle, h.lenle, h.own.keep k h.oq, h.oap⟩, k⟩
theorem PAt.setSent {w : World} {B : Nat} {p : Pr} (h : PAt w B p) (x : Int) : PAt (w.setCell ⟨p.qb, 7, none⟩ (.int .i64 x)) B { p with sent := x } ∧ KeptF (fun i => i = p.qb) w (w.setCell ⟨p.qb, 7, none⟩ (.int .i64 x)) := by
  have k : KeptF (fun i => i = p.qb) w (w.setCell ⟨p.qb, 7, none⟩ (.int .i64 x)) := (KeptF.refl (fun i => i = p.qb) w).setCell (p := ⟨p.qb, 7, none⟩) (.inl rfl) _
  exact ⟨⟨h.core.setRest (h.core.blk.set 7 (.int .i64 x)) k, h.filled, h.wid1, h.wid2, h.nle, h.lenle, h.own.keep k h.oq, h.oap⟩, k⟩
/-- a new row of what was done -/
theorem PAt.setDn {w w1 : World} {B : Nat} {p : Pr} (h : PAt w B p) (k1 : KeptF (fun g => p.dnv.ownBlock = some g) w w1) {v : Value} {l : List Dn} (ho : Own dpE w1 B v l) (hf : ∀ g, v.ownBlock = some g → p.dnv.ownBlock = some g ∨ w.heap.size ≤ g) :
    PAt (w1.setCell ⟨p.qb, 8, none⟩ v) B { p with dnv := v, dn := l } ∧ KeptF (PF p) w (w1.setCell ⟨p.qb, 8, none⟩ v) ∧ (∀ i, PF { p with dnv := v, dn := l } i → PF p i ∨ w.heap.size ≤ i) := by
  have k2 : KeptF (fun i => i = p.qb) w1 (w1.setCell ⟨p.qb, 8, none⟩ v) := (KeptF.refl (fun i => i = p.qb) w1).setCell (p := ⟨p.qb, 8, none⟩) (.inl rfl) _
  have hc1 := h.core.keep k1 (fun i hi e => h.oap i e hi)
  have hap : ∀ g, v.ownBlock = some g → ¬ Foot p.qb p.mb p.dv p.ds g := fun g hg hF => by
    rcases hf g hg with h1 | h1
    · exact h.oap g h1 hF
    · have := (h.core.foot_lt hF).2; omega
  refine ⟨⟨hc1.setRest (hc1.blk.set 8 v) k2, h.filled, h.wid1, h.wid2, h.nle, h.lenle, ho.keep k2 (fun g hg e => hap g hg (.inl e)), hap⟩, ?_, ?_⟩
  · exact (k1.weaken (fun _ _ e => .inr e)).trans (k2.weaken (fun _ _ e => by subst e; exact PF.q))
  · rintro i (h1 | h1)
    · exact .inl (.inl h1)
    · rcases hf i h1 with h2 | h2
      · exact .inl (.inr h2)
      · exact .inr h2

theorem PAt.top_none {w : World} {B : Nat} {p : Pr} (h : PAt w B p) (ht : p.top = none) : p.ds = [] := by
  unfold Pr.top at ht
  split at ht
  · assumption
  · rename_i x l hd
    have := (h.filled x (by rw [hd]; simp)).1
    split at ht
    · rename_i he; exact absurd he this
    · cases ht
theorem PAt.top_form {w : World} {B : Nat} {p : Pr} {t : It} (_h : PAt w B p) (ht : p.top = some t) : ∃ x l e r, p.ds = x :: l ∧ x.es = e :: r ∧ t = e.it := by
  unfold Pr.top at ht
  split at ht
  · cases ht
  · rename_i x l hd
    split at ht
    · cases ht
    · rename_i e r he
      cases ht
      exact ⟨x, l, e, r, hd, he, rfl⟩
theorem PAt.top_least {w : World} {B : Nat} {p : Pr} {t : It} (h : PAt w B p) (ht : p.top = some t) : t ∈ p.its ∧ ∀ a ∈ p.its, ¬ a.lt t := by
  obtain ⟨x, l, e, r, hd, he, rfl⟩ := h.top_form ht
  have hc := h.core
  rw [hd] at hc
  have hF := h.filled
  rw [hd] at hF
  refine ⟨?_, fun a ha => ?_⟩
  · unfold Pr.its
    rw [hd]
    exact List.mem_map_of_mem (by simp [allEs, he])
  · unfold Pr.its at ha
    rw [hd] at ha
    obtain ⟨b, hb, rfl⟩ := List.mem_map.1 ha
    have := QCore.top_least hc h.wid1 hF he b hb
    intro hl
    rw [(Ent.ltB_iff b e).2 (.inl hl)] at this
    cases this
theorem PAt.its_nil {w : World} {B : Nat} {p : Pr} (h : PAt w B p) (ht : p.top = none) : p.its = [] := by
  unfold Pr.its; rw [h.top_none ht]; rfl

theorem pLeast_none (w : World) (B : Nat) (p : Pr) (h : PAt w B p) (ht : p.top = none) :
    Calls Try.prog 47 #[.pointer (some ⟨p.qb, 0, none⟩)] w fun e w' => e = .returned (.tuple #[.agg #[.int .i64 0, .int .i64 0, .int .i64 0, .int .i64 0], .bool false]) ∧ Below w.heap.size w w' := by
  have hd := h.top_none ht
  have hc := h.core
  have h0 : ((allEs p.ds).length : Int) = ((0 : Nat) : Int) := by rw [hd]; rfl
  rw [h0] at hc
  exact least_none w B p.qb p.mb p.dv p.n p.ds _ _ p.width p.pushed hc

theorem pLeast_some (w : World) (B : Nat) (p : Pr) (t : It) (h : PAt w B p) (ht : p.top = some t) :
    Calls Try.prog 47 #[.pointer (some ⟨p.qb, 0, none⟩)] w fun e w' => e = .returned (.tuple #[.agg #[.int .i64 t.t, .int .i64 t.f, .int .i64 t.s, .int .i64 t.l], .bool true]) ∧ Below w.heap.size w w' := by
  obtain ⟨x, l, e, r, hd, he, rfl⟩ := h.top_form ht
  have hc := h.core
  have h0 : 0 < (allEs p.ds).length := by rw [hd]; simp [allEs, he]
  rw [hd] at hc
  exact least_some w B p.qb p.mb p.dv p.n l x _ _ p.width _ p.pushed e r hc (by rw [← hd]; exact h0) he

/-- a process behind a change of its queue -/
structure PTurn (w w' : World) (B : Nat) (p p' : Pr) : Prop where
  at_ : PAt w' B p'
  qb : p'.qb = p.qb
  num : p'.num = p.num
  st : p'.st = p.st
  sent : p'.sent = p.sent
  dn : p'.dn = p.dn
  kept : KeptF (PF p) w w'
  foot : ∀ k, PF p' k → PF p k ∨ w.heap.size ≤ k

theorem pPop (w : World) (B : Nat) (p : Pr) (t : It) (h : PAt w B p) (ht : p.top = some t) (hI : ∀ a ∈ p.its, InInt a.t) (hb : p.pushed ≤ 5000) :
    Calls Try.prog 44 #[.pointer (some ⟨p.qb, 0, none⟩)] w fun e w' => e = .returned (.tuple #[.agg #[.int .i64 t.t, .int .i64 t.f, .int .i64 t.s, .int .i64 t.l], .bool true]) ∧ ∃ p', PTurn w w' B p p' ∧ p'.pushed = p.pushed ∧ (t :: p'.its).Perm p.its := by
  obtain ⟨x, l, e, r, hd, he, rfl⟩ := h.top_form ht
  have hc := h.core
  have hF := h.filled
  have hle := h.lenle
  have h1 : ∃ c, (allEs p.ds).length = c + 1 := ⟨(allEs p.ds).length - 1, by rw [hd]; simp [allEs, he]⟩
  obtain ⟨c, hcc⟩ := h1
  have hlx : x.es.length ≤ (allEs p.ds).length := es_le_allEs _ x (by rw [hd]; simp)
  have hll : p.ds.length ≤ (allEs p.ds).length := length_allEs _ (fun y hy => (h.filled y hy).1)
  have hll2 : l.length + 1 ≤ (allEs p.ds).length := by rw [hd] at hll ⊢; simpa using hll
  rw [hcc] at hc
  rw [hd] at hF
  rw [hd] at hc
  refine (pop_some w B p.qb p.mb p.dv p.n l x _ _ p.width c p.pushed e r hc hF he h.wid1 (fun a ha => hI a.it (by unfold Pr.its; rw [hd]; exact List.mem_map_of_mem (by simp [allEs]; exact .inl ha))) (by omega) (by omega) (by omega)).mono ?_
  rintro e' w' ⟨rfl, dv', ds', hQ, hP, hF', hK, hfo, hl'⟩
  have hPd : (e :: allEs ds').Perm (allEs p.ds) := by rw [hd]; exact hP
  have hcl : (allEs ds').length = c := by have := hPd.length_eq; simp only [List.length_cons] at this; omega
  rw [← hcl] at hQ
  have hapx : ∀ g, p.dnv.ownBlock = some g → ¬ Foot p.qb p.mb p.dv (x :: l) g := by rw [← hd]; exact h.oap
  refine ⟨rfl, ⟨p.qb, p.mb, dv', p.n, ds', p.width, p.pushed, p.num, p.st, p.sent, p.dnv, p.dn⟩, ⟨⟨hQ, hF', h.wid1, h.wid2, h.nle, by simp only; omega, h.own.keep hK hapx, fun g hg hF => ?_⟩, rfl, rfl, rfl, rfl, rfl, ?_, ?_⟩, rfl, ?_⟩
  · rcases hfo g hF with h1 | h1
    · exact hapx g hg h1
    · have := (h.own.lt hg).2; omega
  · have hPF : PF p = fun i => Foot p.qb p.mb p.dv (x :: l) i ∨ p.dnv.ownBlock = some i := by unfold PF; rw [hd]
    rw [hPF]; exact hK.weaken (fun _ _ e => .inl e)
  · rintro k (hk | hk)
    · rcases hfo k hk with h1 | h1
      · left; left; rw [hd]; exact h1
      · exact .inr h1
    · exact .inl (.inr hk)
  · have := hPd.map Ent.it
    simpa [Pr.its] using this

theorem pPush (w : World) (B : Nat) (p : Pr) (t : It) (h : PAt w B p) (hBw : B ≤ w.heap.size) (hI : InInt t.t) (hb : p.pushed ≤ 5000) :
    Calls Try.prog 43 #[.pointer (some ⟨p.qb, 0, none⟩), .agg #[.int .i64 t.t, .int .i64 t.f, .int .i64 t.s, .int .i64 t.l]] w fun e w' => e = .returned (.tuple #[]) ∧ ∃ p', PTurn w w' B p p' ∧ p'.pushed = p.pushed + 1 ∧ p'.its.Perm (t :: p.its) := by
  have hle := h.lenle
  have hn := h.nle
  have hll : p.ds.length ≤ (allEs p.ds).length := length_allEs _ (fun y hy => (h.filled y hy).1)
  refine (qpush_any w B p.qb p.mb p.dv p.n p.ds _ _ p.width _ p.pushed t h.core h.filled hBw h.wid1 h.wid2 hI (by omega) (by omega) (by omega) (by omega) (fun x hx => by have := es_le_allEs _ x hx; omega)).mono ?_
  rintro e' w' ⟨rfl, dv', n', ds', hQ, hn', hP, hF', hK, hfo, hl'⟩
  have hcl : (allEs ds').length = (allEs p.ds).length + 1 := by have := hP.length_eq; simpa using this
  rw [← hcl] at hQ
  refine ⟨rfl, ⟨p.qb, p.mb, dv', n', ds', p.width, p.pushed + 1, p.num, p.st, p.sent, p.dnv, p.dn⟩, ⟨⟨hQ, hF', h.wid1, h.wid2, by simp only; omega, by simp only; omega, h.own.keep hK h.oap, fun g hg hF => ?_⟩, rfl, rfl, rfl, rfl, rfl, hK.weaken (fun _ _ e => .inl e), ?_⟩, rfl, ?_⟩
  · rcases hfo g hF with h1 | h1
    · exact h.oap g hg h1
    · have := (h.own.lt hg).2; omega
  · rintro k (hk | hk)
    · exact (hfo k hk).imp .inl id
    · exact .inl (.inr hk)
  have := hP.map Ent.it
  simpa [Pr.its] using this

/-! ### all processes -/
structure Procs (w : World) (B pb N : Nat) (ps : List Pr) : Prop where
  arr : Blk w pb (ps.map ptr ++ List.replicate (N - ps.length) (Value.pointer none)).toArray 124
  each : ∀ p ∈ ps, PAt w B p
  apart : ∀ (i j : Nat) (p q : Pr), ps[i]? = some p → ps[j]? = some q → i ≠ j → ∀ k, PF p k → ¬ PF q k
  out : ∀ p ∈ ps, ¬ PF p pb
  low : B ≤ pb

theorem Procs.cell {w : World} {B pb N : Nat} {ps : List Pr} (h : Procs w B pb N ps) {i : Nat} {p : Pr} (hp : ps[i]? = some p) : w.cell? ⟨pb, i, none⟩ = some (.pointer (some ⟨p.qb, 0, none⟩)) := by
  have hi := get_lt hp
  rw [h.arr.cell, List.getElem?_toArray, List.getElem?_append_left (by simpa using hi), List.getElem?_map, hp]
  rfl

/-- the blocks of all processes and of their row -/
def AllF (pb : Nat) (ps : List Pr) (k : Nat) : Prop := k = pb ∨ ∃ p ∈ ps, PF p k

theorem Procs.lt {w : World} {B pb N : Nat} {ps : List Pr} (h : Procs w B pb N ps) {k : Nat} (hk : AllF pb ps k) : B ≤ k ∧ k < w.heap.size := by
  rcases hk with rfl | ⟨p, hp, hk⟩
  · exact ⟨h.low, h.arr.lt⟩
  · exact (h.each p hp).lt hk

theorem Procs.keep {G : Nat → Prop} {w w' : World} {B pb N : Nat} {ps : List Pr} (h : Procs w B pb N ps) (k : KeptF G w w') (hG : ∀ i, AllF pb ps i → ¬ G i) : Procs w' B pb N ps :=
  ⟨h.arr.keep k (hG pb (.inl rfl)), fun p hp => (h.each p hp).keep k (fun i hi => hG i (.inr ⟨p, hp, hi⟩)), h.apart, h.out, h.low⟩

theorem Procs.grow {w w' : World} {B pb N : Nat} {ps : List Pr} (h : Procs w B pb N ps) (k : KeptF (fun _ => False) w w') : Procs w' B pb N ps := h.keep k (fun _ _ e => e)

theorem Procs.turn {w w' : World} {B pb N : Nat} {ps : List Pr} (h : Procs w B pb N ps) {i : Nat} {p p' : Pr} (hp : ps[i]? = some p) (k : KeptF (PF p) w w') (hp' : PAt w' B p') (hq : p'.qb = p.qb)
    (hf : ∀ k, PF p' k → PF p k ∨ w.heap.size ≤ k) : Procs w' B pb N (ps.set i p') := by
  have hi := get_lt hp
  have hpm := List.mem_of_getElem? hp
  have hmem : ∀ q ∈ ps.set i p', q = p' ∨ ∃ j, j ≠ i ∧ ps[j]? = some q := by
    intro q hq
    obtain ⟨j, hj⟩ := List.getElem?_of_mem hq
    rcases set_get hj with ⟨_, e⟩ | ⟨e1, e2⟩
    · exact .inl e
    · exact .inr ⟨j, e1, e2⟩
  refine ⟨?_, ?_, ?_, ?_, h.low⟩
  · have e : (ps.set i p').map ptr = ps.map ptr := by
      apply List.ext_getElem?
      intro j
      rw [List.getElem?_map, List.getElem?_map]
      by_cases e : j = i
      · subst e
        rw [List.getElem?_set_self hi, hp]
        simp [ptr, hq]
      · rw [List.getElem?_set_ne (by omega)]
    rw [e, List.length_set]
    exact h.arr.keep k (h.out p hpm)
  · intro q hq'
    rcases hmem q hq' with rfl | ⟨j, hj, hjq⟩
    · exact hp'
    · exact (h.each q (List.mem_of_getElem? hjq)).keep k (h.apart j i q p hjq hp hj)
  · intro a b x y hx hy hab c hc hc'
    rcases set_get hx with ⟨e1, e2⟩ | ⟨e1, e2⟩
    · rcases set_get hy with ⟨e3, _⟩ | ⟨e3, e4⟩
      · omega
      · subst e2
        rcases hf c hc with h1 | h1
        · exact h.apart i b p y hp e4 (by omega) c h1 hc'
        · have := ((h.each y (List.mem_of_getElem? e4)).lt hc').2; omega
    · rcases set_get hy with ⟨e3, e4⟩ | ⟨e3, e4⟩
      · subst e4
        rcases hf c hc' with h1 | h1
        · exact h.apart a i x p e2 hp (by omega) c hc h1
        · have := ((h.each x (List.mem_of_getElem? e2)).lt hc).2; omega
      · exact h.apart a b x y e2 e4 hab c hc hc'
  · intro q hq' hk
    rcases hmem q hq' with rfl | ⟨j, hj, hjq⟩
    · rcases hf pb hk with h1 | h1
      · exact h.out p hpm h1
      · have := h.arr.lt; omega
    · exact h.out q (List.mem_of_getElem? hjq) hk

theorem Procs.turned {w w' : World} {B pb N : Nat} {ps : List Pr} (h : Procs w B pb N ps) {i : Nat} {p p' : Pr} (hp : ps[i]? = some p) (t : PTurn w w' B p p') : Procs w' B pb N (ps.set i p') := h.turn hp t.kept t.at_ t.qb t.foot

end Go.Proofs.Ytbpaigpjffdcbaa
