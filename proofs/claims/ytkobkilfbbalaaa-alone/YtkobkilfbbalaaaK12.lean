/-
  All that happens, told by what each process does: in order, and just what comes of the starts and of the emissions. Nothing of the program.
  A part of what happens: of each process a beginning of what it does. What can still come to a process; what is next there. Nothing of the program.
  The net, plainly: its state, and what a step does to it. Nothing of the program.
  The net's invariant: a part of what happens is done, and what waits or is under way is just what comes of that part. Nothing of the program.
  The net's invariant is kept: an event is done, words are said, a process goes on. Nothing of the program.
  The net's invariant is kept: words are said, a process goes on. Nothing of the program.
-/
import Derived.Test.YtkobkilfbbalaaaK06
import Derived.Test.YtkobkilfbbalaaaK03
namespace Go.Proofs.Ytkobkilfbbalaaa
open Go.RowKit Go.Sort Go.Maps

def itsOf (c : Cs) (p : Nat) : List It := (c.done.getD p []).map Dn.it
/-- the starts, and all emissions of what is done -/
def genAll (m : Mdl) (I : Nat → List It) : List Ev := m.starts.mapIdx initEv ++ (List.range (np m)).flatMap (fun q : Nat => emsP m (q : Int) (I q))
def evsAt (p : Nat) (d : List Dn) (k : List Int) : List Ev := List.zipWith (fun (x : Dn) (c : Int) => (⟨x.it, (p : Int), c⟩ : Ev)) d k
def doneEvs (n : Nat) (c : Cs) : List Ev := (List.range n).flatMap (fun p => evsAt p (c.done.getD p []) (c.causes.getD p []))

theorem flatMap_same {α : Type} {f f' : Nat → List α} : ∀ {n : Nat}, (∀ q, q < n → f' q = f q) → (List.range n).flatMap f' = (List.range n).flatMap f
  | 0, _ => rfl
  | n + 1, h => by
    rw [List.range_succ, List.flatMap_append, List.flatMap_append, flatMap_same (n := n) (fun q hq => h q (by omega))]
    simp [h n (by omega)]
theorem flatMap_turn {α : Type} {f f' : Nat → List α} {p : Nat} {x : List α} (h : f' p = f p ++ x) (ho : ∀ q, q ≠ p → f' q = f q) : ∀ {n : Nat}, p < n → ((List.range n).flatMap f').Perm ((List.range n).flatMap f ++ x)
  | 0, hp => by omega
  | n + 1, hp => by
    rw [List.range_succ, List.flatMap_append, List.flatMap_append]
    simp only [List.flatMap_cons, List.flatMap_nil, List.append_nil]
    by_cases e : p = n
    · subst e
      rw [flatMap_same (fun q hq => ho q (by omega)), h, List.append_assoc]
    · rw [ho n (by omega)]
      refine ((flatMap_turn h ho (n := n) (by omega)).append_right (f n)).trans ?_
      rw [List.append_assoc, List.append_assoc]
      exact List.Perm.append_left _ List.perm_append_comm

theorem evsAt_items {p : Nat} : ∀ {d : List Dn} {k : List Int}, k.length = d.length → (evsAt p d k).map Ev.it = d.map Dn.it
  | [], [], _ => rfl
  | [], c :: k, h => by simp at h
  | x :: d, [], h => by simp at h
  | x :: d, c :: k, h => by
    have := evsAt_items (p := p) (d := d) (k := k) (by simpa using h)
    unfold evsAt at this ⊢
    simp only [List.zipWith_cons_cons, List.map_cons, this]
theorem evsAt_snoc {p : Nat} {d : List Dn} {k : List Int} (h : k.length = d.length) (x : Dn) (c : Int) : evsAt p (d ++ [x]) (k ++ [c]) = evsAt p d k ++ [⟨x.it, (p : Int), c⟩] := by
  unfold evsAt
  rw [List.zipWith_append h.symm]
  rfl
theorem evsAt_get {p : Nat} {d : List Dn} {k : List Int} {y : Ev} (h : y ∈ evsAt p d k) : ∃ (i : Nat) (x : Dn), d[i]? = some x ∧ k[i]? = some y.c ∧ y.it = x.it ∧ y.p = (p : Int) := by
  obtain ⟨i, hi⟩ := List.getElem?_of_mem h
  unfold evsAt at hi
  rw [List.getElem?_zipWith] at hi
  cases hd : d[i]? with
  | none => rw [hd] at hi; simp at hi
  | some x =>
    cases hk : k[i]? with
    | none => rw [hd, hk] at hi; simp at hi
    | some c =>
      rw [hd, hk] at hi
      simp at hi
      subst hi
      exact ⟨i, x, hd, hk, rfl, rfl⟩
theorem evsAt_mem {p : Nat} {d : List Dn} {k : List Int} {i : Nat} {x : Dn} {c : Int} (hd : d[i]? = some x) (hk : k[i]? = some c) : (⟨x.it, (p : Int), c⟩ : Ev) ∈ evsAt p d k := by
  refine List.mem_of_getElem? (i := i) ?_
  unfold evsAt
  rw [List.getElem?_zipWith, hd, hk]

theorem mem_doneEvs {n : Nat} {c : Cs} {y : Ev} : y ∈ doneEvs n c ↔ ∃ p, p < n ∧ y ∈ evsAt p (c.done.getD p []) (c.causes.getD p []) := by
  unfold doneEvs
  rw [List.mem_flatMap]
  constructor
  · rintro ⟨p, hp, h⟩; exact ⟨p, by simpa using hp, h⟩
  · rintro ⟨p, hp, h⟩; exact ⟨p, by simpa using hp, h⟩

structure G (m : Mdl) (c : Cs) : Prop where
  st : ∀ p : Nat, p < np m → c.states[p]? = some (runP m (p : Int) (itsOf c p)).1
  sq : ∀ p : Nat, p < np m → c.seqs[p]? = some (runP m (p : Int) (itsOf c p)).2
  hs : ∀ p : Nat, p < np m → c.done[p]? = some (hist m (p : Int) (itsOf c p))
  lc : ∀ p : Nat, p < np m → (c.causes.getD p []).length = (c.done.getD p []).length
  pm : (doneEvs (np m) c ++ c.wait).Perm (genAll m (itsOf c))
  od : ∀ d ∈ doneEvs (np m) c, ∀ y ∈ c.wait, d.it.lt y.it
  sr : ∀ p : Nat, p < np m → (itsOf c p).Pairwise It.lt

theorem getD_nil {α : Type} (n p : Nat) : (List.replicate n ([] : List α)).getD p [] = [] := by
  rw [List.getD_eq_getElem?_getD, List.getElem?_replicate]
  split <;> rfl

theorem G_c0 (m : Mdl) : G m (c0 m) := by
  have hI : ∀ p, itsOf (c0 m) p = [] := fun p => by
    unfold itsOf
    show ((List.replicate (np m) ([] : List Dn)).getD p []).map Dn.it = []
    rw [getD_nil]; rfl
  have hD : doneEvs (np m) (c0 m) = [] := by
    unfold doneEvs
    rw [List.flatMap_eq_nil_iff]
    intro p _
    show evsAt p ((List.replicate (np m) ([] : List Dn)).getD p []) _ = []
    rw [getD_nil]; rfl
  have hE : (List.range (np m)).flatMap (fun q : Nat => emsP m (q : Int) (itsOf (c0 m) q)) = [] := by
    rw [List.flatMap_eq_nil_iff]
    intro p _
    rw [hI]; rfl
  refine ⟨fun p hp => ?_, fun p hp => ?_, fun p hp => ?_, fun p hp => ?_, ?_, fun d hd => ?_, fun p hp => ?_⟩
  · rw [hI]; show (List.replicate (np m) (0 : Int))[p]? = _; rw [List.getElem?_replicate, if_pos hp]; rfl
  · rw [hI]; show (List.replicate (np m) (0 : Int))[p]? = _; rw [List.getElem?_replicate, if_pos hp]; rfl
  · rw [hI]; show (List.replicate (np m) ([] : List Dn))[p]? = _; rw [List.getElem?_replicate, if_pos hp]; rfl
  · show ((List.replicate (np m) ([] : List Int)).getD p []).length = ((List.replicate (np m) ([] : List Dn)).getD p []).length
    rw [getD_nil, getD_nil]; rfl
  · unfold genAll
    rw [hD, hE, List.nil_append, List.append_nil]
    exact List.Perm.refl _
  · rw [hD] at hd; simp at hd
  · rw [hI]; exact List.Pairwise.nil

theorem doEv_causes (m : Mdl) (c : Cs) (j : Nat) (e : Ev) : (doEv m c j e).causes = c.causes.set e.p.toNat (c.causes.getD e.p.toNat [] ++ [e.c]) := by
  unfold doEv
  split <;> rfl

theorem mem_erase_ne {α : Type} {l : List α} {j : Nat} {y : α} (h : y ∈ l.eraseIdx j) : ∃ i, i ≠ j ∧ l[i]? = some y := by
  obtain ⟨i, hi⟩ := List.getElem?_of_mem h
  rw [List.getElem?_eraseIdx] at hi
  split at hi
  · exact ⟨i, by omega, hi⟩
  · exact ⟨i + 1, by omega, hi⟩

theorem getD_set {α : Type} {l : List (List α)} {p q : Nat} {v : List α} (hp : p < l.length) : (l.set p v).getD q [] = if q = p then v else l.getD q [] := by
  rw [List.getD_eq_getElem?_getD, List.getD_eq_getElem?_getD]
  by_cases e : q = p
  · subst e; rw [List.getElem?_set_self hp, if_pos rfl]; rfl
  · rw [List.getElem?_set_ne (by omega), if_neg e]

theorem G_do {m : Mdl} {c : Cs} (hm : Right m) (hI : Inv m c) (g : G m c) {en : Int} {j : Nat} {e : Ev} (he : c.wait[j]? = some e) (ht : e.it.t < en) (hmin : ∀ y ∈ c.wait, y.it.t < en → ¬ y.it.lt e.it) : G m (doEv m c j e) := by
  have hem := List.mem_of_getElem? he
  obtain ⟨hp0, hp1, _⟩ := hI.ev e hem
  obtain ⟨p, hpe⟩ : ∃ p : Nat, e.p = (p : Int) := ⟨e.p.toNat, by omega⟩
  have hpt : e.p.toNat = p := by omega
  have hp : p < np m := by unfold np; omega
  have hst := g.st p hp
  have hsq := g.sq p hp
  have hdn := g.hs p hp
  have hlc := g.lc p hp
  obtain ⟨hD, hS, hQ, hW⟩ := doEv_out2 (m := m) (c := c) (j := j) (e := e) (by rw [hpt]; exact hst) (by rw [hpt]; exact hsq) (by rw [hpt]; exact hdn)
  have hC := doEv_causes m c j e
  rw [hpt, hpe] at hD hS hQ
  rw [hpt] at hC
  rw [hpe, hist_length] at hW
  have hout : (ruleOut m (p : Int) (runP m (p : Int) (itsOf c p)).1 (runP m (p : Int) (itsOf c p)).2 e.it).1 = outP m (p : Int) (itsOf c p) e.it := rfl
  rw [hout] at hW
  have hpd : p < c.done.length := by rw [hI.ld]; exact hp
  have hpc : p < c.causes.length := by rw [hI.lc]; exact hp
  have hdg : c.done.getD p [] = hist m (p : Int) (itsOf c p) := by rw [List.getD_eq_getElem?_getD, hdn]; rfl
  have hits : itsOf (doEv m c j e) p = itsOf c p ++ [e.it] := by
    have h0 : itsOf (doEv m c j e) p = ((doEv m c j e).done.getD p []).map Dn.it := rfl
    rw [h0, hD, getD_set hpd, if_pos rfl, List.map_append, hist_items]
    rfl
  have hito : ∀ q, q ≠ p → itsOf (doEv m c j e) q = itsOf c q := fun q hq => by
    have h0 : itsOf (doEv m c j e) q = ((doEv m c j e).done.getD q []).map Dn.it := rfl
    rw [h0, hD, getD_set hpd, if_neg hq]
    rfl
  have hrun : runP m (p : Int) (itsOf c p ++ [e.it]) = (ruleOut m (p : Int) (runP m (p : Int) (itsOf c p)).1 (runP m (p : Int) (itsOf c p)).2 e.it).2 := runP_snoc m p _ _
  have hdone : (doneEvs (np m) (doEv m c j e)).Perm (doneEvs (np m) c ++ [e]) := by
    unfold doneEvs
    refine flatMap_turn (p := p) ?_ (fun q hq => ?_) hp
    · rw [hD, hC, getD_set hpd, getD_set hpc, if_pos rfl, if_pos rfl, ← hdg, evsAt_snoc hlc]
      show _ ++ [(⟨e.it, (p : Int), e.c⟩ : Ev)] = _
      rw [← hpe]
    · rw [hD, hC, getD_set hpd, getD_set hpc, if_neg hq, if_neg hq]
  have hgen : (genAll m (itsOf (doEv m c j e))).Perm (genAll m (itsOf c) ++ (outP m (p : Int) (itsOf c p) e.it).map (toEv m ((itsOf c p).length : Int))) := by
    unfold genAll
    rw [List.append_assoc]
    refine List.Perm.append_left _ (flatMap_turn (p := p) ?_ (fun q hq => ?_) hp)
    · rw [hits]; exact emsP_snoc m p _ _
    · rw [hito q hq]
  have hdlt : ∀ d ∈ doneEvs (np m) c, d.it.lt e.it := fun d hd => g.od d hd e hem
  have hwlt : ∀ y ∈ (doEv m c j e).wait, e.it.lt y.it := by
    intro y hy
    rcases doEv_wait hm y hy with h1 | h1
    · rw [hW] at hy
      rcases List.mem_append.1 hy with h2 | h2
      · obtain ⟨i, hij, hi⟩ := mem_erase_ne h2
        by_cases hyt : y.it.t < en
        · have h3 := hmin y h1 hyt
          refine Classical.byContradiction fun h4 => ?_
          obtain ⟨k1, k2⟩ := It.lt_total h3 h4
          exact hij (nodup_idx hI.keys hi he (by simp [evKey, k1, k2]))
        · unfold It.lt; omega
      · obtain ⟨em, hem', rfl⟩ := List.mem_map.1 h2
        obtain ⟨z, z1, _, _, _, z5, _⟩ := ruleOut_link hm hem'
        have := hm.link z1
        show e.it.lt em.it
        unfold It.lt; omega
    · unfold It.lt; omega
  refine ⟨fun q hq => ?_, fun q hq => ?_, fun q hq => ?_, fun q hq => ?_, ?_, fun d hd y hy => ?_, fun q hq => ?_⟩
  · rw [hS]
    by_cases e1 : q = p
    · subst e1
      rw [List.getElem?_set_self (get_lt hst), hits, hrun]
    · rw [List.getElem?_set_ne (by omega), hito q e1]; exact g.st q hq
  · rw [hQ]
    by_cases e1 : q = p
    · subst e1
      rw [List.getElem?_set_self (get_lt hsq), hits, hrun]
    · rw [List.getElem?_set_ne (by omega), hito q e1]; exact g.sq q hq
  · rw [hD]
    by_cases e1 : q = p
    · subst e1
      rw [List.getElem?_set_self hpd, hits, hist_snoc]
      rfl
    · rw [List.getElem?_set_ne (by omega), hito q e1]; exact g.hs q hq
  · rw [hD, hC, getD_set hpd, getD_set hpc]
    by_cases e1 : q = p
    · subst e1
      rw [if_pos rfl, if_pos rfl, List.length_append, List.length_append, hlc, hdg]
      rfl
    · rw [if_neg e1, if_neg e1]; exact g.lc q hq
  · rw [hW]
    refine (hdone.append_right _).trans ?_
    refine List.Perm.trans ?_ hgen.symm
    rw [List.append_assoc, ← List.append_assoc [e], ← List.append_assoc]
    refine List.Perm.append_right _ ?_
    refine List.Perm.trans ?_ g.pm
    refine List.Perm.append_left _ ?_
    exact (perm_eraseIdx c.wait j e he).symm
  · have hd' := hdone.mem_iff.1 hd
    have h1 := hwlt y hy
    rcases List.mem_append.1 hd' with h2 | h2
    · exact It.lt_trans (hdlt d h2) h1
    · simp at h2; subst h2; exact h1
  · by_cases e1 : q = p
    · subst e1
      rw [hits, List.pairwise_append]
      refine ⟨g.sr q hq, List.pairwise_singleton _ _, fun a ha b hb => ?_⟩
      simp at hb
      subst hb
      have h2 : a ∈ (evsAt q (c.done.getD q []) (c.causes.getD q [])).map Ev.it := by rw [evsAt_items hlc]; exact ha
      obtain ⟨d, hd, rfl⟩ := List.mem_map.1 h2
      exact hdlt d (mem_doneEvs.2 ⟨q, hq, hd⟩)
    · rw [hito q e1]; exact g.sr q hq

theorem G_atK {m : Mdl} (hm : Right m) {en : Int} (hen : en ≤ 200) : ∀ k, G m (atK m en k)
  | 0 => G_c0 m
  | k + 1 => by
    show G m (stepF m en (atK m en k))
    have ih := G_atK hm hen k
    cases h : nx en (atK m en k).wait with
    | none => rw [stepF_none h]; exact ih
    | some j =>
      obtain ⟨e, he, ht, hmin⟩ := nx_is h
      rw [stepF_some h he]
      exact G_do hm (atK_inv hm hen k) ih he ht hmin

/-- F: what is done at each process, in all; C: of each, which event of its sender emitted it -/
structure Full (m : Mdl) (en : Int) (F : Nat → List It) (C : Nat → List Int) : Prop where
  srt : ∀ p : Nat, p < np m → (F p).Pairwise It.lt
  low : ∀ p : Nat, p < np m → ∀ x ∈ F p, x.t < en
  gen : ∀ y ∈ genAll m F, y.it.t < en → ∃ (p i : Nat), p < np m ∧ y.p = (p : Int) ∧ (F p)[i]? = some y.it ∧ (C p)[i]? = some y.c
  com : ∀ (p i : Nat) (x : It), p < np m → (F p)[i]? = some x → ∃ y ∈ genAll m F, y.p = (p : Int) ∧ y.it = x ∧ (C p)[i]? = some y.c
  len : ∀ p : Nat, p < np m → (C p).length = (F p).length

theorem full_atK {m : Mdl} (hm : Right m) {en : Int} (hen : en ≤ 200) {k : Nat} (h : nx en (atK m en k).wait = none) : Full m en (itsOf (atK m en k)) (fun p => (atK m en k).causes.getD p []) := by
  have g := G_atK hm hen k
  have hw := nx_none_all h
  refine ⟨g.sr, fun p hp x hx => ?_, fun y hy ht => ?_, fun p i x hp hx => ?_, fun p hp => ?_⟩
  · obtain ⟨d, hd, rfl⟩ := List.mem_map.1 hx
    have h1 := g.hs p hp
    have h2 : (atK m en k).done.getD p [] = hist m (p : Int) (itsOf (atK m en k) p) := by rw [List.getD_eq_getElem?_getD, h1]; rfl
    rw [h2] at hd
    exact done_below hm hen k p _ h1 d hd
  · rcases List.mem_append.1 (g.pm.mem_iff.2 hy) with h1 | h1
    · obtain ⟨p, hp, h2⟩ := mem_doneEvs.1 h1
      obtain ⟨i, x, h3, h4, h5, h6⟩ := evsAt_get h2
      refine ⟨p, i, hp, h6, ?_, h4⟩
      unfold itsOf
      rw [List.getElem?_map, h3, h5]; rfl
    · have := hw y h1; omega
  · unfold itsOf at hx
    rw [List.getElem?_map] at hx
    obtain ⟨d, hd, rfl⟩ := Option.map_eq_some_iff.1 hx
    obtain ⟨c, hc⟩ := get_of_lt (d := (atK m en k).causes.getD p []) (k := i) (by rw [g.lc p hp]; exact get_lt hd)
    refine ⟨⟨d.it, (p : Int), c⟩, g.pm.mem_iff.1 (List.mem_append_left _ (mem_doneEvs.2 ⟨p, hp, evsAt_mem hd hc⟩)), rfl, rfl, hc⟩
  · rw [g.lc p hp]; simp [itsOf]

end Go.Proofs.Ytkobkilfbbalaaa

namespace Go.Proofs.Ytkobkilfbbalaaa
open Go.RowKit Go.Sort Go.Maps

/-- the first N p of what each process does -/
def cutI (F : Nat → List It) (N : Nat → Nat) (p : Nat) : List It := (F p).take (N p)

theorem mem_genAll {m : Mdl} {I : Nat → List It} {y : Ev} : y ∈ genAll m I ↔ (∃ (i : Nat) (s : MStart), m.starts[i]? = some s ∧ y = initEv i s) ∨ ∃ q : Nat, q < np m ∧ y ∈ emsP m (q : Int) (I q) := by
  unfold genAll
  rw [List.mem_append, List.mem_flatMap]
  constructor
  · rintro (h | ⟨q, hq, h⟩)
    · obtain ⟨i, hi⟩ := List.getElem?_of_mem h
      rw [List.getElem?_mapIdx] at hi
      obtain ⟨s, hs, rfl⟩ := Option.map_eq_some_iff.1 hi
      exact .inl ⟨i, s, hs, rfl⟩
    · exact .inr ⟨q, by simpa using hq, h⟩
  · rintro (⟨i, s, hs, rfl⟩ | ⟨q, hq, h⟩)
    · left
      refine List.mem_of_getElem? (i := i) ?_
      rw [List.getElem?_mapIdx, hs]; rfl
    · exact .inr ⟨q, by simpa using hq, h⟩

theorem gen_from {m : Mdl} {I : Nat → List It} {y : Ev} (h : y ∈ genAll m I) : y.it.f = -1 ∨ ∃ q : Nat, q < np m ∧ y.it.f = (q : Int) ∧ y ∈ emsP m (q : Int) (I q) := by
  rcases mem_genAll.1 h with ⟨i, s, _, rfl⟩ | ⟨q, hq, h⟩
  · exact .inl rfl
  · obtain ⟨j, hj⟩ := List.getElem?_of_mem h
    exact .inr ⟨q, hq, (emsP_key hj).1, h⟩

/-- From and Seq tell an event from all others -/
theorem gen_uniq {m : Mdl} {I : Nat → List It} {y y' : Ev} (h : y ∈ genAll m I) (h' : y' ∈ genAll m I) (hf : y.it.f = y'.it.f) (hs : y.it.s = y'.it.s) : y = y' := by
  rcases mem_genAll.1 h with ⟨i, s, h1, rfl⟩ | ⟨q, hq, h1⟩
  · rcases mem_genAll.1 h' with ⟨i', s', h2, rfl⟩ | ⟨q', hq', h2⟩
    · have hs : (i : Int) = (i' : Int) := hs
      have e : i = i' := by omega
      subst e
      rw [h1] at h2; cases h2; rfl
    · obtain ⟨j, hj⟩ := List.getElem?_of_mem h2
      have := (emsP_key hj).1
      have hf : (-1 : Int) = y'.it.f := hf
      omega
  · obtain ⟨j, hj⟩ := List.getElem?_of_mem h1
    have k1 := emsP_key hj
    rcases mem_genAll.1 h' with ⟨i', s', h2, rfl⟩ | ⟨q', hq', h2⟩
    · have hf : y.it.f = (-1 : Int) := hf
      omega
    · obtain ⟨j', hj'⟩ := List.getElem?_of_mem h2
      have k2 := emsP_key hj'
      have e1 : q = q' := by omega
      have e2 : j = j' := by omega
      subst e1 e2
      rw [hj] at hj'; cases hj'; rfl

theorem take_get {α : Type} {l : List α} {n i : Nat} {x : α} : (l.take n)[i]? = some x ↔ i < n ∧ l[i]? = some x := by
  constructor
  · intro h
    have := get_lt h
    rw [List.length_take] at this
    rw [List.getElem?_take_of_lt (by omega)] at h
    exact ⟨by omega, h⟩
  · rintro ⟨h1, h2⟩
    rw [List.getElem?_take_of_lt h1]; exact h2

theorem cut_gen {m : Mdl} {F : Nat → List It} {N : Nat → Nat} {y : Ev} (h : y ∈ genAll m (cutI F N)) : y ∈ genAll m F := by
  rcases mem_genAll.1 h with h | ⟨q, hq, h⟩
  · exact mem_genAll.2 (.inl h)
  · obtain ⟨z, hz⟩ := emsP_take m (q : Int) (F q) (N q)
    exact mem_genAll.2 (.inr ⟨q, hq, by rw [hz]; exact List.mem_append_left _ h⟩)

/-- what comes of all comes of the part, or of an event that is not in it -/
theorem gen_cut {m : Mdl} {F : Nat → List It} (N : Nat → Nat) {y : Ev} (h : y ∈ genAll m F) : y ∈ genAll m (cutI F N) ∨ ∃ (q i : Nat) (x : It) (e : Em), q < np m ∧ N q ≤ i ∧ (F q)[i]? = some x ∧ y = toEv m (i : Int) e ∧ e ∈ outP m (q : Int) ((F q).take i) x := by
  rcases mem_genAll.1 h with h | ⟨q, hq, h⟩
  · exact .inl (mem_genAll.2 (.inl h))
  · obtain ⟨i, x, e, h1, h2, h3⟩ := emsP_mem h
    by_cases hi : i < N q
    · left
      refine mem_genAll.2 (.inr ⟨q, hq, ?_⟩)
      rw [h2]
      refine mem_emsP (x := x) ?_ ?_
      · exact take_get.2 ⟨hi, h1⟩
      · unfold cutI
        rw [List.take_take, Nat.min_eq_left (by omega)]
        exact h3
    · exact .inr ⟨q, i, x, e, hq, by omega, h1, h2, h3⟩

theorem srt_idx {l : List It} (h : l.Pairwise It.lt) {i j : Nat} {x y : It} (hi : l[i]? = some x) (hj : l[j]? = some y) (hij : i < j) : x.lt y := by
  rw [List.pairwise_iff_getElem] at h
  have hi' := get_lt hi
  have hj' := get_lt hj
  rw [List.getElem?_eq_getElem hi', Option.some.injEq] at hi
  rw [List.getElem?_eq_getElem hj', Option.some.injEq] at hj
  rw [← hi, ← hj]
  exact h i j hi' hj' hij
theorem srt_same {l : List It} (h : l.Pairwise It.lt) {i j : Nat} {x : It} (hi : l[i]? = some x) (hj : l[j]? = some x) : i = j := by
  rcases Nat.lt_trichotomy i j with k | k | k
  · exact absurd (srt_idx h hi hj k) (It.lt_irrefl x)
  · exact k
  · exact absurd (srt_idx h hj hi k) (It.lt_irrefl x)
theorem not_in_cut {F : Nat → List It} {N : Nat → Nat} {p i : Nat} {x : It} (h : (F p).Pairwise It.lt) (hi : (F p)[i]? = some x) (hn : N p ≤ i) : x ∉ cutI F N p := by
  intro hx
  obtain ⟨j, hj⟩ := List.getElem?_of_mem hx
  obtain ⟨h1, h2⟩ := take_get.1 hj
  have := srt_same h hi h2
  omega

/-- THE NEXT EVENT of a process: the least of all that comes to it and is not done, if that is below the end -/
theorem next_is {m : Mdl} {en : Int} {F : Nat → List It} {C : Nat → List Int} (hF : Full m en F C) {N : Nat → Nat} {p : Nat} (hp : p < np m) {e : Ev} (he : e ∈ genAll m F) (hep : e.p = (p : Int)) (het : e.it.t < en) (hnot : e.it ∉ cutI F N p)
    (hmin : ∀ y ∈ genAll m F, y.p = (p : Int) → y.it ∉ cutI F N p → y.it.t < en → ¬ y.it.lt e.it) : (F p)[N p]? = some e.it ∧ (C p)[N p]? = some e.c := by
  obtain ⟨p', i, hp', h1, h2, h3⟩ := hF.gen e he het
  have e1 : p' = p := by omega
  subst e1
  have hi : N p' ≤ i := by
    rcases Nat.lt_or_ge i (N p') with h | h
    · exact absurd (List.mem_of_getElem? (take_get.2 ⟨h, h2⟩)) hnot
    · exact h
  have key : i = N p' := by
    rcases Nat.lt_or_ge (N p') i with h | h
    · obtain ⟨x, hx⟩ := get_of_lt (d := F p') (k := N p') (by have := get_lt h2; omega)
      obtain ⟨y, hy, hyp, hyx, _⟩ := hF.com p' (N p') x hp hx
      have h4 := srt_idx (hF.srt p' hp) hx h2 h
      have h5 := hmin y hy hyp (by rw [hyx]; exact not_in_cut (hF.srt p' hp) hx (Nat.le_refl _)) (by rw [hyx]; exact hF.low p' hp x (List.mem_of_getElem? hx))
      rw [hyx] at h5
      exact absurd h4 h5
    · omega
  subst key
  exact ⟨h2, h3⟩

/-- nothing that is not yet emitted comes along the link ahead of c -/
def Prom (F : Nat → List It) (N : Nat → Nat) (z : MLink) (c : Int) : Prop := ∀ (i : Nat) (x : It), N z.f.toNat ≤ i → (F z.f.toNat)[i]? = some x → c ≤ x.t + z.a

theorem Prom.less {F : Nat → List It} {N : Nat → Nat} {z : MLink} {c c' : Int} (h : Prom F N z c) (hc : c' ≤ c) : Prom F N z c' := fun i x hi hx => Int.le_trans hc (h i x hi hx)
theorem Prom.more {F : Nat → List It} {N N' : Nat → Nat} {z : MLink} {c : Int} (h : Prom F N z c) (hN : ∀ q, N q ≤ N' q) : Prom F N' z c := fun i x hi hx => h i x (Nat.le_trans (hN _) hi) hx

/-- a process is sure: what comes to it is there, or comes at T or later -/
theorem sure_of {m : Mdl} (hm : Right m) {F : Nat → List It} {N : Nat → Nat} {p : Nat} {T : Int} (hT : ∀ z ∈ m.links, z.t = (p : Int) → Prom F N z T) {y : Ev} (h : y ∈ genAll m F) (hy : y.p = (p : Int)) : y ∈ genAll m (cutI F N) ∨ T ≤ y.it.t := by
  rcases gen_cut N h with h1 | ⟨q, i, x, e, hq, hi, hx, rfl, he⟩
  · exact .inl h1
  · right
    obtain ⟨z, z1, _, z3, z4, z5, _⟩ := ruleOut_link hm he
    have hy : linkTo m e.k = (p : Int) := hy
    have h1 := hT z (List.mem_of_getElem? z1) (by rw [← z4]; exact hy) i x (by rw [z3]; simpa using hi) (by rw [z3]; simpa using hx)
    show T ≤ e.it.t
    omega

/-- what a process can promise: what it does later is not earlier than the least that waits, nor than what it is sure of -/
theorem later_of {m : Mdl} (hm : Right m) {en : Int} {F : Nat → List It} {C : Nat → List Int} (hF : Full m en F C) {N : Nat → Nat} {q : Nat} (hq : q < np m) {L T : Int} (hT : ∀ z ∈ m.links, z.t = (q : Int) → Prom F N z T)
    (hL : ∀ y ∈ genAll m (cutI F N), y.p = (q : Int) → y.it ∉ cutI F N q → y.it.t < en → L ≤ y.it.t) : ∀ (i : Nat) (x : It), N q ≤ i → (F q)[i]? = some x → L ≤ x.t ∨ T ≤ x.t := by
  intro i x hi hx
  obtain ⟨y, hy, hyp, hyx, _⟩ := hF.com q i x hq hx
  rcases sure_of hm hT hy hyp with h1 | h1
  · left
    rw [← hyx]
    exact hL y h1 hyp (by rw [hyx]; exact not_in_cut (hF.srt q hq) hx hi) (by rw [hyx]; exact hF.low q hq x (List.mem_of_getElem? hx))
  · right; rw [← hyx]; exact h1
theorem prom_of {F : Nat → List It} {N : Nat → Nat} {z : MLink} {c : Int} (h : ∀ (i : Nat) (x : It), N z.f.toNat ≤ i → (F z.f.toNat)[i]? = some x → c ≤ x.t) : Prom F N z (c + z.a) := fun i x hi hx => by
  have := h i x hi hx; omega

/-- P8, the first half: who emitted it has done so -/
theorem cause_done {m : Mdl} {en : Int} {F : Nat → List It} {C : Nat → List Int} (hF : Full m en F C) {N : Nat → Nat} {p i q : Nat} (hp : p < np m) {y : Ev} (hy : y ∈ genAll m (cutI F N)) (hyp : y.p = (p : Int)) (hi : (F p)[i]? = some y.it) (hq : y.it.f = (q : Int)) :
    ∃ j : Nat, (C p)[i]? = some (j : Int) ∧ j < N q := by
  rcases gen_from hy with h | ⟨q', hq', h1, h2⟩
  · omega
  · have e1 : q' = q := by omega
    subst e1
    obtain ⟨j, x, e, h3, h4, _⟩ := emsP_mem h2
    have h5 := (take_get.1 h3).1
    obtain ⟨p', i', h6, h7, h8, h9⟩ := hF.gen y (cut_gen hy) (hF.low p hp y.it (List.mem_of_getElem? hi))
    have e2 : p' = p := by omega
    subst e2
    have e3 := srt_same (hF.srt p' hp) hi h8
    subst e3
    refine ⟨j, ?_, h5⟩
    rw [h9, h4]; rfl

/-- an event more is done at p: what comes of it -/
theorem gen_step {m : Mdl} {I I' : Nat → List It} {p : Nat} (hp : p < np m) {x : It} (h : I' p = I p ++ [x]) (ho : ∀ q, q ≠ p → I' q = I q) : (genAll m I').Perm (genAll m I ++ (outP m (p : Int) (I p) x).map (toEv m ((I p).length : Int))) := by
  unfold genAll
  rw [List.append_assoc]
  refine List.Perm.append_left _ (flatMap_turn (p := p) ?_ (fun q hq => ?_) hp)
  · rw [h]; exact emsP_snoc m p _ _
  · rw [ho q hq]
theorem cut_step {F : Nat → List It} {N : Nat → Nat} {p : Nat} {x : It} (hx : (F p)[N p]? = some x) : cutI F (fun q => if q = p then N p + 1 else N q) p = cutI F N p ++ [x] := by
  unfold cutI
  simp only [if_true]
  rw [List.take_add_one, hx]; rfl
theorem cut_other {F : Nat → List It} {N : Nat → Nat} {p q : Nat} (n : Nat) (h : q ≠ p) : cutI F (fun r => if r = p then n else N r) q = cutI F N q := by
  unfold cutI
  simp only [if_neg h]

end Go.Proofs.Ytkobkilfbbalaaa

namespace Go.Proofs.Ytkobkilfbbalaaa
open Go.RowKit Go.Sort Go.Maps

structure NP where
  q : List It
  hr : Int → Option Int
  ws : List Wy
  st : Int
  sent : Int
  dn : List Dn
structure NS where
  ps : List NP
  ls : List (List Pcl)

/-! ### in order -/
theorem It.lt_asymm {x y : It} (h1 : x.lt y) (h2 : y.lt x) : False := by unfold It.lt at *; omega
def insI (x : It) : List It → List It
  | [] => [x]
  | y :: l => if x.aheadB y then x :: y :: l else y :: insI x l
def srtI : List It → List It
  | [] => []
  | x :: l => insI x (srtI l)
theorem insI_perm (x : It) : ∀ l : List It, (insI x l).Perm (x :: l)
  | [] => List.Perm.refl _
  | y :: l => by
    unfold insI
    split
    · exact List.Perm.refl _
    · exact ((insI_perm x l).cons y).trans (List.Perm.swap x y l)
theorem srtI_perm : ∀ l : List It, (srtI l).Perm l
  | [] => List.Perm.refl _
  | x :: l => (insI_perm x (srtI l)).trans ((srtI_perm l).cons x)
/-- no two alike -/
def Uq (l : List It) : Prop := l.Pairwise (fun x y => x.lt y ∨ y.lt x)
theorem Uq.perm {l l' : List It} (h : Uq l) (p : l.Perm l') : Uq l' := (p.pairwise_iff (fun {_ _} h => h.symm)).1 h
theorem Uq.sub {l l' : List It} (h : Uq l) (p : l'.Sublist l) : Uq l' := List.Pairwise.sublist p h
theorem insI_srt {x : It} : ∀ {l : List It}, l.Pairwise It.lt → (∀ y ∈ l, x.lt y ∨ y.lt x) → (insI x l).Pairwise It.lt
  | [], _, _ => by simp [insI]
  | y :: l, h, hx => by
    rw [List.pairwise_cons] at h
    unfold insI
    split
    · rename_i hb
      have hb := (It.aheadB_iff x y).1 hb
      refine List.pairwise_cons.2 ⟨fun z hz => ?_, List.pairwise_cons.2 h⟩
      rcases List.mem_cons.1 hz with rfl | hz
      · exact hb
      · exact It.lt_trans hb (h.1 z hz)
    · rename_i hb
      have hyx : y.lt x := (hx y (by simp)).elim (fun e => absurd ((It.aheadB_iff x y).2 e) hb) id
      refine List.pairwise_cons.2 ⟨fun z hz => ?_, insI_srt h.2 (fun z hz => hx z (by simp [hz]))⟩
      rcases List.mem_cons.1 ((insI_perm x l).mem_iff.1 hz) with rfl | hz
      · exact hyx
      · exact h.1 z hz
theorem srtI_srt : ∀ {l : List It}, Uq l → (srtI l).Pairwise It.lt
  | [], _ => List.Pairwise.nil
  | x :: l, h => by
    have h' := List.pairwise_cons.1 h
    exact insI_srt (srtI_srt h'.2) (fun y hy => h'.1 y ((srtI_perm l).mem_iff.1 hy))
theorem srt_unique : ∀ {a b : List It}, a.Pairwise It.lt → b.Pairwise It.lt → a.Perm b → a = b
  | [], b, _, _, p => (List.Perm.eq_nil p.symm).symm
  | x :: a, b, ha, hb, p => by
    cases b with
    | nil => exact absurd p.eq_nil (by simp)
    | cons y b =>
      have ha' := List.pairwise_cons.1 ha
      have hb' := List.pairwise_cons.1 hb
      have hxy : x = y := by
        rcases List.mem_cons.1 (p.mem_iff.1 (List.mem_cons_self (a := x) (l := a))) with h | h
        · exact h
        · rcases List.mem_cons.1 (p.symm.mem_iff.1 (List.mem_cons_self (a := y) (l := b))) with h2 | h2
          · exact h2.symm
          · exact (It.lt_asymm (hb'.1 x h) (ha'.1 y h2)).elim
      subst hxy
      rw [srt_unique ha'.2 hb'.2 p.cons_inv]

/-! ### what is under way -/
def takeIn (a : NP) (x : Pcl) : NP :=
  if x.kd = 0 then { a with q := x.it :: a.q }
  else if x.kd = 1 then { a with hr := fun j => if j = x.k then some x.it.t else a.hr j }
  else if x.kd = 2 then { a with hr := fun j => if j = x.k then none else a.hr j }
  else a
def leads (m : Mdl) (p i : Nat) : Bool := match m.links[i]? with
  | some z => decide (z.t = (p : Int))
  | none => false
def boxI (m : Mdl) (ls : List (List Pcl)) (p i : Nat) : List Pcl := if leads m p i then ls.getD i [] else []
def inbox (m : Mdl) (ls : List (List Pcl)) (p n : Nat) : List Pcl := (List.range n).flatMap (boxI m ls p)
def drain (m : Mdl) (ls : List (List Pcl)) (p n : Nat) : List (List Pcl) := ls.mapIdx (fun i l => if decide (i < n) && leads m p i then [] else l)
def send1 (ls : List (List Pcl)) (x : Pcl) : List (List Pcl) := ls.set x.k.toNat (ls.getD x.k.toNat [] ++ [x])
def send (ls : List (List Pcl)) (xs : List Pcl) : List (List Pcl) := xs.foldl send1 ls
def msgs (l : List Pcl) : List It := (l.filter (fun x => decide (x.kd = 0))).map Pcl.it
def transit (m : Mdl) (ls : List (List Pcl)) (p : Nat) : List It := msgs (inbox m ls p m.links.length)

theorem send_append (ls : List (List Pcl)) (a b : List Pcl) : send ls (a ++ b) = send (send ls a) b := List.foldl_append
theorem send_cons (ls : List (List Pcl)) (x : Pcl) (b : List Pcl) : send ls (x :: b) = send (send1 ls x) b := rfl
theorem send1_length (ls : List (List Pcl)) (x : Pcl) : (send1 ls x).length = ls.length := by simp [send1]
theorem send_length : ∀ (xs : List Pcl) (ls : List (List Pcl)), (send ls xs).length = ls.length
  | [], ls => rfl
  | x :: xs, ls => by rw [send_cons, send_length xs, send1_length]
theorem msgs_append (a b : List Pcl) : msgs (a ++ b) = msgs a ++ msgs b := by simp [msgs, List.filter_append]
theorem msgs_perm {a b : List Pcl} (h : a.Perm b) : (msgs a).Perm (msgs b) := (h.filter _).map _
theorem mem_msgs {l : List Pcl} {y : It} : y ∈ msgs l ↔ ∃ x ∈ l, x.kd = 0 ∧ x.it = y := by
  unfold msgs
  simp only [List.mem_map, List.mem_filter, decide_eq_true_eq]
  constructor
  · rintro ⟨x, ⟨h1, h2⟩, h3⟩; exact ⟨x, h1, h2, h3⟩
  · rintro ⟨x, h1, h2, h3⟩; exact ⟨x, ⟨h1, h2⟩, h3⟩

theorem getD_set_self {α : Type} {l : List α} {i : Nat} {v d : α} (h : i < l.length) : (l.set i v).getD i d = v := by
  rw [List.getD_eq_getElem?_getD, List.getElem?_set_self h]; rfl
theorem getD_set_ne {α : Type} {l : List α} {i j : Nat} {v d : α} (h : j ≠ i) : (l.set i v).getD j d = l.getD j d := by
  rw [List.getD_eq_getElem?_getD, List.getD_eq_getElem?_getD, List.getElem?_set_ne (by omega)]
theorem getD_some {α : Type} {l : List α} {i : Nat} {v d : α} (h : l[i]? = some v) : l.getD i d = v := by
  rw [List.getD_eq_getElem?_getD, h]; rfl

theorem send1_get {ls : List (List Pcl)} {x : Pcl} (hx : x.k.toNat < ls.length) (j : Nat) : (send1 ls x).getD j [] = if j = x.k.toNat then ls.getD j [] ++ [x] else ls.getD j [] := by
  unfold send1
  by_cases h : j = x.k.toNat
  · subst h; rw [if_pos rfl, getD_set_self hx]
  · rw [if_neg h, getD_set_ne h]
theorem send_get : ∀ {xs : List Pcl} {ls : List (List Pcl)}, (∀ x ∈ xs, x.k.toNat < ls.length) → ∀ j : Nat, (send ls xs).getD j [] = ls.getD j [] ++ xs.filter (fun x => decide (x.k.toNat = j))
  | [], ls, _, j => by simp [send]
  | x :: xs, ls, h, j => by
    rw [send_cons, send_get (fun y hy => by rw [send1_length]; exact h y (by simp [hy])), send1_get (h x (by simp))]
    by_cases e : j = x.k.toNat
    · subst e
      rw [if_pos rfl, List.filter_cons_of_pos (by simp), List.append_assoc]; rfl
    · rw [if_neg e, List.filter_cons_of_neg (by simp; omega)]

theorem inbox_send1 {m : Mdl} {ls : List (List Pcl)} {x : Pcl} (hx : x.k.toNat < ls.length) {p n : Nat} (hn : x.k.toNat < n) : (inbox m (send1 ls x) p n).Perm (inbox m ls p n ++ (if leads m p x.k.toNat then [x] else [])) := by
  unfold inbox
  refine flatMap_turn (p := x.k.toNat) ?_ (fun q hq => ?_) hn
  · unfold boxI
    rw [send1_get hx]
    split <;> simp
  · unfold boxI
    rw [send1_get hx, if_neg hq]
theorem inbox_send {m : Mdl} {p n : Nat} : ∀ {xs : List Pcl} {ls : List (List Pcl)}, (∀ x ∈ xs, x.k.toNat < ls.length ∧ x.k.toNat < n) → (inbox m (send ls xs) p n).Perm (inbox m ls p n ++ xs.filter (fun x => leads m p x.k.toNat))
  | [], ls, _ => by simp [send]
  | x :: xs, ls, h => by
    rw [send_cons]
    refine (inbox_send (fun y hy => by rw [send1_length]; exact h y (by simp [hy]))).trans ?_
    refine ((inbox_send1 (h x (by simp)).1 (h x (by simp)).2).append_right _).trans ?_
    rw [List.append_assoc]
    refine List.Perm.append_left _ ?_
    by_cases e : leads m p x.k.toNat
    · rw [if_pos e, List.filter_cons_of_pos (by exact e)]; exact List.Perm.refl _
    · rw [if_neg e, List.filter_cons_of_neg (by exact e)]; exact List.Perm.refl _

theorem drain_length (m : Mdl) (ls : List (List Pcl)) (p n : Nat) : (drain m ls p n).length = ls.length := by simp [drain]
theorem drain_get (m : Mdl) (ls : List (List Pcl)) (p n j : Nat) : (drain m ls p n).getD j [] = if decide (j < n) && leads m p j then [] else ls.getD j [] := by
  unfold drain
  rw [List.getD_eq_getElem?_getD, List.getElem?_mapIdx, List.getD_eq_getElem?_getD]
  cases ls[j]? with
  | none => simp
  | some l => simp
theorem inbox_drain (m : Mdl) (ls : List (List Pcl)) (p q n : Nat) : inbox m (drain m ls p n) q n = if q = p then [] else inbox m ls q n := by
  by_cases e : q = p
  · subst e
    rw [if_pos rfl]
    unfold inbox
    rw [List.flatMap_eq_nil_iff]
    intro i hi
    unfold boxI
    rw [drain_get]
    have : i < n := by simpa using hi
    by_cases h : leads m q i <;> simp [h, this]
  · rw [if_neg e]
    unfold inbox
    refine flatMap_same (fun i hi => ?_)
    unfold boxI
    by_cases h : leads m q i
    · rw [if_pos h, if_pos h, drain_get]
      have : leads m p i = false := by
        unfold leads at h ⊢
        cases hz : m.links[i]? with
        | none => rfl
        | some z =>
          rw [hz] at h
          simp only [decide_eq_true_eq] at h
          simp only [decide_eq_false_iff_not]
          omega
      simp [this]
    · rw [if_neg h, if_neg h]

/-! ### a process goes on -/
def doP (m : Mdl) (num en : Int) (a : NP) (x : It) : NP × List Pcl :=
  ({ a with st := (ruleOut m num a.st a.sent x).2.1, sent := (ruleOut m num a.st a.sent x).2.2, dn := a.dn ++ [⟨x, (ruleOut m num a.st a.sent x).2.1⟩] },
    ((ruleOut m num a.st a.sent x).1.filter (fun e => decide (e.it.t < en))).map msg)
def doAll (m : Mdl) (num en : Int) : List It → NP × List Pcl → NP × List Pcl
  | [], s => s
  | x :: l, s => doAll m num en l ((doP m num en s.1 x).1, s.2 ++ (doP m num en s.1 x).2)
def toDo (en : Int) (b : NP) : List It := srtI (b.q.filter (fun x => decide (x.t < hz en b.hr)))
def left_ (en : Int) (b : NP) : List It := b.q.filter (fun x => decide (¬ x.t < hz en b.hr))
def advP (m : Mdl) (num en : Int) (b : NP) : NP × List Pcl :=
  let d := doAll m num en (toDo en b) ({ b with q := left_ en b }, [])
  ({ d.1 with ws := b.ws.map (wyN en (hz en b.hr)) }, d.2 ++ wyO en (hz en b.hr) b.ws)
def taken (m : Mdl) (ls : List (List Pcl)) (p n : Nat) (a : NP) : NP := (inbox m ls p n).foldl takeIn a
def goOn (m : Mdl) (en : Int) (s : NS) (p : Nat) : NS := match s.ps[p]? with
  | none => s
  | some a =>
    let d := advP m (p : Int) en (taken m s.ls p m.links.length a)
    ⟨s.ps.set p d.1, send (drain m s.ls p m.links.length) d.2⟩
def goOnB (m : Mdl) (en : Int) (s : NS) (p : Nat) : Bool := match s.ps[p]? with
  | none => false
  | some a =>
    let b := taken m s.ls p m.links.length a
    !(inbox m s.ls p m.links.length).isEmpty || !(advP m (p : Int) en b).2.isEmpty || !(toDo en b).isEmpty

theorem doAll_append (m : Mdl) (num en : Int) : ∀ (l l' : List It) (s : NP × List Pcl), doAll m num en (l ++ l') s = doAll m num en l' (doAll m num en l s)
  | [], _, _ => rfl
  | _ :: l, l', _ => doAll_append m num en l l' _
theorem doAll_out (m : Mdl) (num en : Int) : ∀ (l : List It) (a : NP) (o : List Pcl), doAll m num en l (a, o) = ((doAll m num en l (a, [])).1, o ++ (doAll m num en l (a, [])).2)
  | [], a, o => by simp [doAll]
  | x :: l, a, o => by
    simp only [doAll]
    rw [doAll_out m num en l _ (o ++ _), doAll_out m num en l _ ([] ++ _)]
    simp [List.append_assoc]
theorem doAll_keep (m : Mdl) (num en : Int) : ∀ (l : List It) (s : NP × List Pcl), (doAll m num en l s).1.q = s.1.q ∧ (doAll m num en l s).1.hr = s.1.hr ∧ (doAll m num en l s).1.ws = s.1.ws ∧ (doAll m num en l s).1.dn.length = s.1.dn.length + l.length
  | [], s => ⟨rfl, rfl, rfl, rfl⟩
  | x :: l, s => by
    obtain ⟨h1, h2, h3, h4⟩ := doAll_keep m num en l ((doP m num en s.1 x).1, s.2 ++ (doP m num en s.1 x).2)
    refine ⟨h1, h2, h3, ?_⟩
    show (doAll m num en l _).1.dn.length = _
    rw [h4]
    simp only [doP, List.length_append, List.length_cons, List.length_nil]
    omega
/-- the queue's own row does not touch the rest -/
theorem doAll_q (m : Mdl) (num en : Int) (q : List It) : ∀ (l : List It) (a : NP) (o : List Pcl), doAll m num en l ({ a with q := q }, o) = ({ (doAll m num en l (a, o)).1 with q := q }, (doAll m num en l (a, o)).2)
  | [], a, o => rfl
  | x :: l, a, o => by
    simp only [doAll]
    exact doAll_q m num en q l (doP m num en a x).1 (o ++ (doP m num en a x).2)

theorem takeIn_keep (a : NP) (x : Pcl) : (takeIn a x).ws = a.ws ∧ (takeIn a x).st = a.st ∧ (takeIn a x).sent = a.sent ∧ (takeIn a x).dn = a.dn := by
  unfold takeIn
  split
  · exact ⟨rfl, rfl, rfl, rfl⟩
  · split
    · exact ⟨rfl, rfl, rfl, rfl⟩
    · split <;> exact ⟨rfl, rfl, rfl, rfl⟩
theorem takeIn_q (a : NP) (x : Pcl) : (takeIn a x).q = msgs [x] ++ a.q := by
  unfold takeIn msgs
  by_cases h : x.kd = 0
  · simp [h]
  · rw [if_neg h]
    split
    · simp [h]
    · split <;> simp [h]
theorem takeAll_keep : ∀ (l : List Pcl) (a : NP), (l.foldl takeIn a).ws = a.ws ∧ (l.foldl takeIn a).st = a.st ∧ (l.foldl takeIn a).sent = a.sent ∧ (l.foldl takeIn a).dn = a.dn
  | [], a => ⟨rfl, rfl, rfl, rfl⟩
  | x :: l, a => by
    obtain ⟨h1, h2, h3, h4⟩ := takeAll_keep l (takeIn a x)
    obtain ⟨k1, k2, k3, k4⟩ := takeIn_keep a x
    exact ⟨h1.trans k1, h2.trans k2, h3.trans k3, h4.trans k4⟩
theorem takeAll_q : ∀ (l : List Pcl) (a : NP), (l.foldl takeIn a).q.Perm (a.q ++ msgs l)
  | [], a => by simp [msgs]
  | x :: l, a => by
    refine (takeAll_q l (takeIn a x)).trans ?_
    rw [takeIn_q]
    have : msgs (x :: l) = msgs [x] ++ msgs l := msgs_append [x] l
    rw [this, ← List.append_assoc]
    exact (List.perm_append_comm (l₁ := msgs [x]) (l₂ := a.q)).append_right _

/-! ### what a receiver will have heard -/
def lastHr (c : Option Int) (l : List Pcl) : Option Int := l.foldl (fun c x => if x.kd = 1 then some x.it.t else if x.kd = 2 then none else c) c
theorem takeAll_hr (k : Int) : ∀ (l : List Pcl) (a : NP), (∀ x ∈ l, x.kd = 0 ∨ x.kd = 1 ∨ x.kd = 2) → (l.foldl takeIn a).hr k = lastHr (a.hr k) (l.filter (fun x => decide (x.k = k)))
  | [], a, _ => rfl
  | x :: l, a, h => by
    have ih := takeAll_hr k l (takeIn a x) (fun y hy => h y (by simp [hy]))
    show (l.foldl takeIn (takeIn a x)).hr k = _
    rw [ih]
    have hx := h x (by simp)
    by_cases e : x.k = k
    · rw [List.filter_cons_of_pos (by simpa using e)]
      show _ = lastHr (if x.kd = 1 then some x.it.t else if x.kd = 2 then none else a.hr k) _
      congr 1
      unfold takeIn
      rcases hx with h0 | h0 | h0
      · simp [h0]
      · simp [h0, e]
      · simp [h0, e]
    · rw [List.filter_cons_of_neg (by simpa using e)]
      congr 1
      unfold takeIn
      have e' : ¬ k = x.k := fun h => e h.symm
      rcases hx with h0 | h0 | h0
      · simp [h0]
      · simp [h0, e']
      · simp [h0, e']

end Go.Proofs.Ytkobkilfbbalaaa

namespace Go.Proofs.Ytkobkilfbbalaaa
open Go.RowKit Go.Sort Go.Maps

/-- what comes: the starts, and what is emitted below the end -/
def genE (m : Mdl) (en : Int) (I : Nat → List It) : List Ev := (genAll m I).filter (fun y => decide (y.it.f = -1 ∨ y.it.t < en))
/-- what the receiver of a link will have heard -/
def effo (m : Mdl) (s : NS) (k : Nat) : Option Int := match m.links[k]? with
  | some z => (match s.ps[z.t.toNat]? with
    | some a => lastHr (a.hr (k : Int)) (s.ls.getD k [])
    | none => none)
  | none => none
def effm (m : Mdl) (en : Int) (s : NS) (k : Nat) : Int := min ((effo m s k).getD en) en

structure PI (m : Mdl) (en : Int) (F : Nat → List It) (N : Nat → Nat) (ls : List (List Pcl)) (p : Nat) (a : NP) : Prop where
  dn : a.dn = hist m (p : Int) (cutI F N p)
  run : (a.st, a.sent) = runP m (p : Int) (cutI F N p)
  has : ((a.q ++ transit m ls p) ++ cutI F N p).Perm (atP p (genE m en (cutI F N)))
  tim : ∀ x ∈ a.q, 0 ≤ x.t ∧ x.t ≤ 200
  hrd : ∀ (k c : Int), a.hr k = some c → 0 ≤ k ∧ leads m p k.toNat = true ∧ 0 ≤ c ∧ c ≤ 1000
  hrp : ∀ (k : Nat) (z : MLink), m.links[k]? = some z → z.t = (p : Int) → Prom F N z ((a.hr (k : Int)).getD en)
  wys : a.ws.map (fun w => (w.k, w.a)) = (ways0 m (p : Int) m.links.length).map (fun w => (w.k, w.a))

/-- what lies on a link -/
def LnkOk (en : Int) (F : Nat → List It) (N : Nat → Nat) (z : MLink) (k : Nat) (x : Pcl) : Prop :=
  x.k = (k : Int) ∧ ((x.kd = 0 ∧ 0 ≤ x.it.t ∧ x.it.t < en) ∨ (x.kd = 1 ∧ 0 ≤ x.it.t ∧ x.it.t < en ∧ Prom F N z x.it.t) ∨ (x.kd = 2 ∧ Prom F N z en))
def SadOk (m : Mdl) (en : Int) (s : NS) (w : Wy) : Prop := -1 ≤ w.said ∧ w.said ≤ effm m en s w.k.toNat ∧ effm m en s w.k.toNat ≤ max w.said (min w.a en)

structure NInv (m : Mdl) (en : Int) (F : Nat → List It) (N : Nat → Nat) (s : NS) : Prop where
  lp : s.ps.length = np m
  ll : s.ls.length = m.links.length
  nle : ∀ p, p < np m → N p ≤ (F p).length
  pi : ∀ (p : Nat) (a : NP), s.ps[p]? = some a → PI m en F N s.ls p a
  lnk : ∀ (k : Nat) (z : MLink), m.links[k]? = some z → ∀ x ∈ s.ls.getD k [], LnkOk en F N z k x
  sad : ∀ (p : Nat) (a : NP), s.ps[p]? = some a → ∀ w ∈ a.ws, SadOk m en s w
  kn : ∀ (p i : Nat) (x : It), p < np m → i < N p → (F p)[i]? = some x → ∀ z ∈ m.links, z.t = (p : Int) → Prom F N z (x.t + 1)

theorem leads_iff {m : Mdl} {p i : Nat} : leads m p i = true ↔ ∃ z, m.links[i]? = some z ∧ z.t = (p : Int) := by
  unfold leads
  cases h : m.links[i]? with
  | none => simp
  | some z => simp

theorem mem_inbox {m : Mdl} {ls : List (List Pcl)} {p n : Nat} {x : Pcl} : x ∈ inbox m ls p n ↔ ∃ i, i < n ∧ leads m p i = true ∧ x ∈ ls.getD i [] := by
  unfold inbox
  rw [List.mem_flatMap]
  constructor
  · rintro ⟨i, hi, h⟩
    unfold boxI at h
    split at h
    · rename_i hl
      exact ⟨i, by simpa using hi, hl, h⟩
    · simp at h
  · rintro ⟨i, hi, hl, h⟩
    refine ⟨i, by simpa using hi, ?_⟩
    unfold boxI
    rw [if_pos hl]; exact h

theorem inbox_filter {m : Mdl} {ls : List (List Pcl)} {p : Nat} (k : Nat) : ∀ {n : Nat}, (∀ i, i < n → ∀ x ∈ ls.getD i [], x.k = (i : Int)) → (inbox m ls p n).filter (fun x => decide (x.k = (k : Int))) = if k < n then boxI m ls p k else []
  | 0, _ => by simp [inbox]
  | n + 1, h => by
    have ih := inbox_filter (m := m) (ls := ls) (p := p) k (n := n) (fun i hi => h i (by omega))
    unfold inbox at ih ⊢
    rw [List.range_succ, List.flatMap_append, List.filter_append, ih]
    simp only [List.flatMap_cons, List.flatMap_nil, List.append_nil]
    have hb : ∀ x ∈ boxI m ls p n, x.k = (n : Int) := fun x hx => by
      unfold boxI at hx
      split at hx
      · exact h n (by omega) x hx
      · simp at hx
    by_cases e : k = n
    · subst e
      rw [if_neg (by omega), if_pos (by omega), List.nil_append]
      exact List.filter_eq_self.2 (fun x hx => by simpa using hb x hx)
    · have h2 : (boxI m ls p n).filter (fun x => decide (x.k = (k : Int))) = [] := by
        rw [List.filter_eq_nil_iff]
        intro x hx
        have := hb x hx
        simp; omega
      rw [h2, List.append_nil]
      by_cases e2 : k < n
      · rw [if_pos e2, if_pos (by omega)]
      · rw [if_neg e2, if_neg (by omega)]

theorem lastHr_snoc (c : Option Int) (l : List Pcl) (x : Pcl) : lastHr c (l ++ [x]) = if x.kd = 1 then some x.it.t else if x.kd = 2 then none else lastHr c l := by
  unfold lastHr; rw [List.foldl_append]; rfl
theorem lastHr_append (c : Option Int) (l l' : List Pcl) : lastHr c (l ++ l') = lastHr (lastHr c l) l' := by
  unfold lastHr; rw [List.foldl_append]
theorem lastHr_msgs : ∀ (l : List Pcl) (c : Option Int), (∀ x ∈ l, x.kd = 0) → lastHr c l = c
  | [], c, _ => rfl
  | x :: l, c, h => by
    have h0 := h x (by simp)
    show lastHr (if x.kd = 1 then some x.it.t else if x.kd = 2 then none else c) l = c
    rw [h0]
    exact lastHr_msgs l c (fun y hy => h y (by simp [hy]))
theorem lastHr_some : ∀ {l : List Pcl} {c0 : Option Int} {c : Int}, lastHr c0 l = some c → c0 = some c ∨ ∃ x ∈ l, x.kd = 1 ∧ x.it.t = c
  | [], c0, c, h => .inl h
  | x :: l, c0, c, h => by
    rcases lastHr_some (l := l) h with h1 | ⟨y, hy, h1⟩
    · simp only at h1
      by_cases e : x.kd = 1
      · rw [if_pos e] at h1
        cases h1
        exact .inr ⟨x, by simp, e, rfl⟩
      · rw [if_neg e] at h1
        split at h1
        · cases h1
        · exact .inl h1
    · exact .inr ⟨y, by simp [hy], h1⟩
theorem lastHr_none : ∀ {l : List Pcl} {c0 : Option Int}, lastHr c0 l = none → c0 = none ∨ ∃ x ∈ l, x.kd = 2
  | [], c0, h => .inl h
  | x :: l, c0, h => by
    rcases lastHr_none (l := l) h with h1 | ⟨y, hy, h1⟩
    · simp only at h1
      by_cases e : x.kd = 1
      · rw [if_pos e] at h1; cases h1
      · rw [if_neg e] at h1
        by_cases e2 : x.kd = 2
        · exact .inr ⟨x, by simp, e2⟩
        · rw [if_neg e2] at h1; exact .inl h1
    · exact .inr ⟨y, by simp [hy], h1⟩

section
variable {m : Mdl} {en : Int} {F : Nat → List It} {N : Nat → Nat} {s : NS}

theorem NInv.keys (h : NInv m en F N s) : ∀ i, i < m.links.length → ∀ x ∈ s.ls.getD i [], x.k = (i : Int) := fun i hi x hx => by
  obtain ⟨z, hz⟩ := get_of_lt hi
  exact (h.lnk i z hz x hx).1
theorem NInv.kinds (h : NInv m en F N s) {p : Nat} : ∀ x ∈ inbox m s.ls p m.links.length, x.kd = 0 ∨ x.kd = 1 ∨ x.kd = 2 := fun x hx => by
  obtain ⟨i, hi, _, hx⟩ := mem_inbox.1 hx
  obtain ⟨z, hz⟩ := get_of_lt hi
  rcases (h.lnk i z hz x hx).2 with h1 | h1 | h1
  · exact .inl h1.1
  · exact .inr (.inl h1.1)
  · exact .inr (.inr h1.1)
/-- what p has heard along link k when all is taken in -/
theorem NInv.taken_hr (h : NInv m en F N s) {p : Nat} {a : NP} (k : Nat) (hk : k < m.links.length) : (taken m s.ls p m.links.length a).hr (k : Int) = lastHr (a.hr (k : Int)) (boxI m s.ls p k) := by
  unfold taken
  rw [takeAll_hr (k : Int) _ a h.kinds, inbox_filter k h.keys, if_pos hk]
theorem boxI_leads {ls : List (List Pcl)} {p k : Nat} (h : leads m p k = true) : boxI m ls p k = ls.getD k [] := by unfold boxI; rw [if_pos h]
theorem boxI_not {ls : List (List Pcl)} {p k : Nat} (h : ¬ leads m p k = true) : boxI m ls p k = [] := by unfold boxI; rw [if_neg h]
theorem NInv.taken_hr' (h : NInv m en F N s) {p : Nat} {a : NP} {k c : Int} (hc : (taken m s.ls p m.links.length a).hr k = some c) : a.hr k = some c ∨ (0 ≤ k ∧ leads m p k.toNat = true ∧ ∃ x ∈ s.ls.getD k.toNat [], x.kd = 1 ∧ x.it.t = c) := by
  unfold taken at hc
  rw [takeAll_hr k _ a h.kinds] at hc
  rcases lastHr_some hc with h1 | ⟨x, hx, h1, h2⟩
  · exact .inl h1
  · obtain ⟨hx, hxk⟩ := List.mem_filter.1 hx
    simp only [decide_eq_true_eq] at hxk
    obtain ⟨i, hi, hl, hx⟩ := mem_inbox.1 hx
    have := h.keys i hi x hx
    have e : k.toNat = i := by omega
    exact .inr ⟨by omega, by rw [e]; exact hl, x, by rw [e]; exact hx, h1, h2⟩

/-- what comes to p is taken in -/
theorem NInv.deliver (hm : Right m) (hen : en ≤ 200) (h : NInv m en F N s) {p : Nat} {a : NP} (hp : s.ps[p]? = some a) : NInv m en F N ⟨s.ps.set p (taken m s.ls p m.links.length a), drain m s.ls p m.links.length⟩ := by
  have hpl : p < s.ps.length := get_lt hp
  have hP := h.pi p a hp
  have hK := takeAll_keep (inbox m s.ls p m.links.length) a
  have hdr : ∀ k, k < m.links.length → (drain m s.ls p m.links.length).getD k [] = if leads m p k = true then [] else s.ls.getD k [] := fun k hk => by
    rw [drain_get]
    by_cases e : leads m p k = true <;> simp [e, hk]
  refine ⟨by simp [h.lp], by rw [drain_length]; exact h.ll, h.nle, ?_, ?_, ?_, h.kn⟩
  · intro q b hq
    simp only at hq
    rcases set_get hq with ⟨e1, e2⟩ | ⟨e1, e2⟩
    · subst e1 e2
      refine ⟨?_, ?_, ?_, ?_, ?_, ?_, ?_⟩
      · show (taken m s.ls q m.links.length a).dn = _
        unfold taken; rw [hK.2.2.2]; exact hP.dn
      · show ((taken m s.ls q m.links.length a).st, (taken m s.ls q m.links.length a).sent) = _
        unfold taken; rw [hK.2.1, hK.2.2.1]; exact hP.run
      · unfold transit
        simp only
        rw [inbox_drain, if_pos rfl]
        have h1 : (taken m s.ls q m.links.length a).q.Perm (a.q ++ transit m s.ls q) := takeAll_q _ a
        refine List.Perm.trans ?_ hP.has
        refine List.Perm.append_right _ ?_
        simpa [msgs] using h1
      · intro x hx
        have h1 : (taken m s.ls q m.links.length a).q.Perm (a.q ++ transit m s.ls q) := takeAll_q _ a
        rcases List.mem_append.1 (h1.mem_iff.1 hx) with h2 | h2
        · exact hP.tim x h2
        · obtain ⟨y, hy, hy0, rfl⟩ := mem_msgs.1 h2
          obtain ⟨i, hi, _, hy⟩ := mem_inbox.1 hy
          obtain ⟨z, hz⟩ := get_of_lt hi
          rcases (h.lnk i z hz y hy).2 with h3 | h3 | h3 <;> omega
      · intro k c hc
        rcases h.taken_hr' hc with h1 | ⟨h1, h2, x, hx, h3, h4⟩
        · exact hP.hrd k c h1
        · obtain ⟨z, hz, hzt⟩ := leads_iff.1 h2
          refine ⟨h1, h2, ?_⟩
          rcases (h.lnk _ z hz x hx).2 with h5 | h5 | h5 <;> omega
      · intro k z hz hzt
        show Prom F N z (((taken m s.ls q m.links.length a).hr (k : Int)).getD en)
        have hl : leads m q k = true := leads_iff.2 ⟨z, hz, hzt⟩
        rw [h.taken_hr k (get_lt hz), boxI_leads hl]
        cases hc : lastHr (a.hr (k : Int)) (s.ls.getD k []) with
        | none =>
          rcases lastHr_none hc with h1 | ⟨x, hx, h1⟩
          · have := hP.hrp k z hz hzt
            rw [h1] at this; exact this
          · rcases (h.lnk k z hz x hx).2 with h5 | h5 | h5
            · omega
            · omega
            · exact h5.2
        | some c =>
          rcases lastHr_some hc with h1 | ⟨x, hx, h1, h2⟩
          · have := hP.hrp k z hz hzt
            rw [h1] at this; exact this
          · rcases (h.lnk k z hz x hx).2 with h5 | h5 | h5
            · omega
            · rw [h2] at h5; exact h5.2.2.2
            · omega
      · show (taken m s.ls q m.links.length a).ws.map _ = _
        unfold taken; rw [hK.1]; exact hP.wys
    · have hQ := h.pi q b e2
      refine ⟨hQ.dn, hQ.run, ?_, hQ.tim, hQ.hrd, hQ.hrp, hQ.wys⟩
      unfold transit
      simp only
      rw [inbox_drain, if_neg e1]
      exact hQ.has
  · intro k z hz x hx
    simp only at hx
    rw [hdr k (get_lt hz)] at hx
    split at hx
    · simp at hx
    · exact h.lnk k z hz x hx
  · have heff : ∀ k : Nat, effo m ⟨s.ps.set p (taken m s.ls p m.links.length a), drain m s.ls p m.links.length⟩ k = effo m s k := by
      intro k
      unfold effo
      cases hz : m.links[k]? with
      | none => rfl
      | some z =>
        simp only
        have hzb := hm.link hz
        by_cases e : z.t.toNat = p
        · rw [e, List.getElem?_set_self hpl, hp]
          simp only
          have hl : leads m p k = true := leads_iff.2 ⟨z, hz, by omega⟩
          rw [hdr k (get_lt hz), if_pos hl, h.taken_hr k (get_lt hz), boxI_leads hl]
          rfl
        · rw [List.getElem?_set_ne (by omega)]
          have hl : ¬ leads m p k = true := fun hl => by
            obtain ⟨z', hz', hzt⟩ := leads_iff.1 hl
            rw [hz] at hz'; cases hz'; omega
          rw [hdr k (get_lt hz), if_neg hl]
    intro q b hq w hw
    simp only at hq
    have hbw : ∃ b', s.ps[q]? = some b' ∧ b'.ws = b.ws := by
      rcases set_get hq with ⟨e1, e2⟩ | ⟨e1, e2⟩
      · subst e1 e2; exact ⟨a, hp, by unfold taken; rw [hK.1]⟩
      · exact ⟨b, e2, rfl⟩
    obtain ⟨b', hb', hbw⟩ := hbw
    have := h.sad q b' hb' w (by rw [hbw]; exact hw)
    unfold SadOk effm at this ⊢
    rw [heff]
    exact this

end

end Go.Proofs.Ytkobkilfbbalaaa

namespace Go.Proofs.Ytkobkilfbbalaaa
open Go.RowKit Go.Sort Go.Maps

/-! ### no two that come are alike -/
theorem ems_nodup (m : Mdl) (q : Int) (l : List It) : ((emsP m q l).map evKey).Nodup := by
  rw [List.nodup_iff_pairwise_ne, List.pairwise_iff_getElem]
  intro i j hi hj hij
  rw [List.getElem_map, List.getElem_map]
  have h1 := emsP_key (List.getElem?_eq_getElem (l := emsP m q l) (i := i) (by simpa using hi))
  have h2 := emsP_key (List.getElem?_eq_getElem (l := emsP m q l) (i := j) (by simpa using hj))
  intro e
  unfold evKey at e
  simp only [Prod.mk.injEq] at e
  omega
theorem gen_nodup (m : Mdl) (I : Nat → List It) : ((genAll m I).map evKey).Nodup := by
  unfold genAll
  rw [List.map_append]
  refine nodup_append' ?_ ?_ ?_
  · rw [List.nodup_iff_pairwise_ne, List.pairwise_iff_getElem]
    intro i j hi hj hij
    simp only [List.getElem_map, List.getElem_mapIdx, evKey, initEv]
    intro e
    simp only [Prod.mk.injEq] at e
    omega
  · suffices ∀ n : Nat, (((List.range n).flatMap (fun q : Nat => emsP m (q : Int) (I q))).map evKey).Nodup from this _
    intro n
    induction n with
    | zero => simp
    | succ n ih =>
      rw [List.range_succ, List.flatMap_append, List.map_append]
      simp only [List.flatMap_cons, List.flatMap_nil, List.append_nil]
      refine nodup_append' ih (ems_nodup m _ _) ?_
      intro k hk hk'
      obtain ⟨y, hy, rfl⟩ := List.mem_map.1 hk
      obtain ⟨y', hy', e⟩ := List.mem_map.1 hk'
      obtain ⟨q, hq, hy⟩ := List.mem_flatMap.1 hy
      obtain ⟨j, hj⟩ := List.getElem?_of_mem hy
      obtain ⟨j', hj'⟩ := List.getElem?_of_mem hy'
      have h1 := emsP_key hj
      have h2 := emsP_key hj'
      have hq : q < n := by simpa using hq
      unfold evKey at e
      simp only [Prod.mk.injEq] at e
      omega
  · intro k hk hk'
    obtain ⟨y, hy, rfl⟩ := List.mem_map.1 hk
    obtain ⟨y', hy', e⟩ := List.mem_map.1 hk'
    obtain ⟨q, hq, hy'⟩ := List.mem_flatMap.1 hy'
    obtain ⟨j', hj'⟩ := List.getElem?_of_mem hy'
    have h2 := emsP_key hj'
    obtain ⟨i, hi⟩ := List.getElem?_of_mem hy
    rw [List.getElem?_mapIdx] at hi
    obtain ⟨s, _, rfl⟩ := Option.map_eq_some_iff.1 hi
    unfold evKey initEv at e
    simp only [Prod.mk.injEq] at e
    omega
theorem uq_of_keys {l : List Ev} (h : (l.map evKey).Nodup) : Uq (l.map Ev.it) := by
  rw [List.nodup_iff_pairwise_ne, List.pairwise_map] at h
  unfold Uq
  rw [List.pairwise_map]
  refine h.imp (fun {x y} hne => ?_)
  by_cases h1 : x.it.lt y.it
  · exact .inl h1
  · by_cases h2 : y.it.lt x.it
    · exact .inr h2
    · have := It.lt_total h1 h2
      exact absurd (by unfold evKey; rw [this.1, this.2]) hne
theorem uq_comes (m : Mdl) (en : Int) (I : Nat → List It) (p : Nat) : Uq (atP p (genE m en I)) := by
  unfold atP genE
  refine uq_of_keys ?_
  exact List.Nodup.sublist ((List.filter_sublist.trans List.filter_sublist).map evKey) (gen_nodup m I)
theorem Uq.not_both {a b : List It} (h : Uq (a ++ b)) {x : It} (h1 : x ∈ a) (h2 : x ∈ b) : False := by
  have := (List.pairwise_append.1 h).2.2 x h1 x h2
  exact this.elim (It.lt_irrefl x) (It.lt_irrefl x)

theorem mem_genE {m : Mdl} {en : Int} {I : Nat → List It} {y : Ev} : y ∈ genE m en I ↔ y ∈ genAll m I ∧ (y.it.f = -1 ∨ y.it.t < en) := by
  unfold genE; rw [List.mem_filter, decide_eq_true_eq]

/-! ### messages -/
theorem msgs_at {m : Mdl} {p : Nat} {c : Int} : ∀ {l : List Em}, (∀ e ∈ l, ∃ z, m.links[e.k.toNat]? = some z ∧ linkTo m e.k = z.t) → msgs ((l.map msg).filter (fun x => leads m p x.k.toNat)) = atP p (l.map (toEv m c))
  | [], _ => rfl
  | e :: l, h => by
    have ih := msgs_at (m := m) (p := p) (c := c) (l := l) (fun e he => h e (by simp [he]))
    obtain ⟨z, hz, hzt⟩ := h e (by simp)
    rw [List.map_cons, List.map_cons, atP_cons, ← ih]
    by_cases hl : leads m p e.k.toNat = true
    · rw [List.filter_cons_of_pos (by exact hl)]
      obtain ⟨z', hz', h1⟩ := leads_iff.1 hl
      rw [hz] at hz'; cases hz'
      have : (toEv m c e).p = (p : Int) := by show linkTo m e.k = _; omega
      rw [if_pos this]
      rfl
    · rw [List.filter_cons_of_neg (by exact hl)]
      have : ¬ (toEv m c e).p = (p : Int) := fun h1 => hl (leads_iff.2 ⟨z, hz, by rw [← hzt]; exact h1⟩)
      rw [if_neg this, List.nil_append]

theorem atP_append (i : Nat) (a b : List Ev) : atP i (a ++ b) = atP i a ++ atP i b := by
  unfold atP; rw [List.filter_append, List.map_append]

theorem gen_stepE {m : Mdl} (hm : Right m) {en : Int} {I I' : Nat → List It} {p : Nat} (hp : p < np m) {x : It} (h : I' p = I p ++ [x]) (ho : ∀ q, q ≠ p → I' q = I q) : (genE m en I').Perm (genE m en I ++ ((outP m (p : Int) (I p) x).filter (fun e => decide (e.it.t < en))).map (toEv m ((I p).length : Int))) := by
  unfold genE
  refine ((gen_step hp h ho).filter _).trans ?_
  rw [List.filter_append]
  refine List.Perm.append_left _ ?_
  rw [List.filter_map]
  refine List.Perm.of_eq (congrArg _ (List.filter_congr (fun e he => ?_)))
  obtain ⟨z, _, _, _, _, _, _, hf⟩ := ruleOut_link hm he
  show decide (e.it.f = -1 ∨ e.it.t < en) = decide (e.it.t < en)
  have : ¬ e.it.f = -1 := by omega
  simp [this]

section
variable {m : Mdl} {en : Int} {F : Nat → List It} {C : Nat → List Int} {N : Nat → Nat} {s : NS}

theorem NInv.permq (h : NInv m en F N s) {p : Nat} {a : NP} (hp : s.ps[p]? = some a) {q' : List It} (hq : a.q.Perm q') : NInv m en F N ⟨s.ps.set p { a with q := q' }, s.ls⟩ := by
  have hP := h.pi p a hp
  have hpl := get_lt hp
  refine ⟨by simp [h.lp], h.ll, h.nle, ?_, h.lnk, ?_, h.kn⟩
  · intro q b hb
    rcases set_get hb with ⟨e1, e2⟩ | ⟨e1, e2⟩
    · subst e1 e2
      exact ⟨hP.dn, hP.run, (((hq.symm.append_right _).append_right _).trans hP.has), fun x hx => hP.tim x (hq.mem_iff.2 hx), hP.hrd, hP.hrp, hP.wys⟩
    · exact h.pi q b e2
  · have heff : ∀ k : Nat, effo m ⟨s.ps.set p { a with q := q' }, s.ls⟩ k = effo m s k := by
      intro k
      unfold effo
      cases hz : m.links[k]? with
      | none => rfl
      | some z =>
        simp only
        by_cases e : z.t.toNat = p
        · rw [e, List.getElem?_set_self hpl, hp]
        · rw [List.getElem?_set_ne (by omega)]
    intro q b hb w hw
    have hbw : ∃ b', s.ps[q]? = some b' ∧ b'.ws = b.ws := by
      rcases set_get hb with ⟨e1, e2⟩ | ⟨e1, e2⟩
      · subst e1 e2; exact ⟨a, hp, rfl⟩
      · exact ⟨b, e2, rfl⟩
    obtain ⟨b', hb', hbw⟩ := hbw
    have := h.sad q b' hb' w (by rw [hbw]; exact hw)
    unfold SadOk effm at this ⊢
    rw [heff]
    exact this

/-- what waits at p and is not done comes, and what comes is done or waits -/
theorem NInv.comes (h : NInv m en F N s) {p : Nat} {a : NP} (hp : s.ps[p]? = some a) {x : It} : x ∈ a.q ∨ x ∈ transit m s.ls p ∨ x ∈ cutI F N p ↔ ∃ y, y ∈ genE m en (cutI F N) ∧ y.p = (p : Int) ∧ y.it = x := by
  have := (h.pi p a hp).has.mem_iff (a := x)
  rw [mem_atP, List.mem_append, List.mem_append, or_assoc] at this
  exact this
theorem NInv.uq (h : NInv m en F N s) {p : Nat} {a : NP} (hp : s.ps[p]? = some a) : Uq ((a.q ++ transit m s.ls p) ++ cutI F N p) := (uq_comes m en _ p).perm (h.pi p a hp).has.symm

/-- the first of what waits, of which p is sure, is the next that happens there -/
theorem NInv.next (hm : Right m) (hF : Full m en F C) (h : NInv m en F N s) {p : Nat} {a : NP} (hp : s.ps[p]? = some a) {x : It} {q' : List It} (hq : a.q = x :: q') {T : Int} (hx : x.t < T) (hTe : T ≤ en)
    (hPT : ∀ z ∈ m.links, z.t = (p : Int) → Prom F N z T) (hmin : ∀ y ∈ q', T ≤ y.t ∨ x.lt y) (htr : ∀ y ∈ transit m s.ls p, T ≤ y.t) : (F p)[N p]? = some x := by
  have hpn : p < np m := by rw [← h.lp]; exact get_lt hp
  obtain ⟨e, he, hep, hex⟩ := (h.comes hp).1 (.inl (by rw [hq]; simp : x ∈ a.q))
  have he' := mem_genE.1 he
  have hnot : e.it ∉ cutI F N p := fun hc => by
    have hu := h.uq hp
    rw [hex] at hc
    exact hu.not_both (List.mem_append_left _ (by rw [hq]; simp : x ∈ a.q)) hc
  have := next_is hF hpn (cut_gen he'.1) hep (by rw [hex]; omega) hnot (fun y hy hyp hyn hyt hlt => by
    rw [hex] at hlt
    have hge : T ≤ y.it.t → False := fun h1 => by unfold It.lt at hlt; omega
    rcases sure_of hm hPT hy hyp with h1 | h1
    · rcases (h.comes hp).2 ⟨y, mem_genE.2 ⟨h1, .inr hyt⟩, hyp, rfl⟩ with h2 | h2 | h2
      · rw [hq] at h2
        rcases List.mem_cons.1 h2 with h3 | h3
        · rw [h3] at hlt; exact It.lt_irrefl x hlt
        · rcases hmin _ h3 with h4 | h4
          · exact hge h4
          · exact It.lt_asymm h4 hlt
      · exact hge (htr _ h2)
      · exact hyn h2
    · exact hge h1)
  rw [hex] at this
  exact this.1

/-- an event is done -/
theorem NInv.did (hm : Right m) (hen : en ≤ 200) (hF : Full m en F C) (h : NInv m en F N s) {p : Nat} {a : NP} (hp : s.ps[p]? = some a) {x : It} {q' : List It} (hq : a.q = x :: q') {T : Int} (hx : x.t < T) (hTe : T ≤ en)
    (hPT : ∀ z ∈ m.links, z.t = (p : Int) → Prom F N z T) (hmin : ∀ y ∈ q', T ≤ y.t ∨ x.lt y) (htr : ∀ y ∈ transit m s.ls p, T ≤ y.t) :
    NInv m en F (fun r => if r = p then N p + 1 else N r) ⟨s.ps.set p { (doP m (p : Int) en a x).1 with q := q' }, send s.ls (doP m (p : Int) en a x).2⟩ ∧ (∀ y ∈ transit m (send s.ls (doP m (p : Int) en a x).2) p, T ≤ y.t) := by
  have hnx := h.next hm hF hp hq hx hTe hPT hmin htr
  have hpl := get_lt hp
  have hpn : p < np m := by rw [← h.lp]; exact hpl
  have hP := h.pi p a hp
  have hc1 : cutI F (fun r => if r = p then N p + 1 else N r) p = cutI F N p ++ [x] := cut_step hnx
  have hc2 : ∀ q, q ≠ p → cutI F (fun r => if r = p then N p + 1 else N r) q = cutI F N q := fun q hqp => cut_other _ hqp
  have hN : ∀ q, N q ≤ (fun r => if r = p then N p + 1 else N r) q := fun q => by
    by_cases e : q = p
    · subst e; simp
    · simp [e]
  have hrun : (runP m (p : Int) (cutI F N p)).1 = a.st ∧ (runP m (p : Int) (cutI F N p)).2 = a.sent := by rw [← hP.run]; exact ⟨rfl, rfl⟩
  have hout : outP m (p : Int) (cutI F N p) x = (ruleOut m (p : Int) a.st a.sent x).1 := by unfold outP; rw [hrun.1, hrun.2]
  obtain ⟨lo, hlo⟩ : ∃ lo, lo = (ruleOut m (p : Int) a.st a.sent x).1 := ⟨_, rfl⟩
  have hlk : ∀ e ∈ lo, ∃ z, m.links[e.k.toNat]? = some z ∧ 0 ≤ e.k ∧ z.f = (p : Int) ∧ linkTo m e.k = z.t ∧ x.t + z.a ≤ e.it.t ∧ e.it.t ≤ x.t + 60 ∧ e.it.f = (p : Int) := fun e he => ruleOut_link hm (by rw [hlo] at he; exact he)
  have ho2 : (doP m (p : Int) en a x).2 = (lo.filter (fun e => decide (e.it.t < en))).map msg := by rw [hlo]; rfl
  rw [ho2]
  have hlk' : ∀ e ∈ lo.filter (fun e => decide (e.it.t < en)), ∃ z, m.links[e.k.toNat]? = some z ∧ linkTo m e.k = z.t := fun e he => by
    obtain ⟨z, h1, _, _, h2, _⟩ := hlk e (List.mem_filter.1 he).1
    exact ⟨z, h1, h2⟩
  have hrng : ∀ y ∈ (lo.filter (fun e => decide (e.it.t < en))).map msg, y.k.toNat < s.ls.length ∧ y.k.toNat < m.links.length := fun y hy => by
    obtain ⟨e, he, rfl⟩ := List.mem_map.1 hy
    obtain ⟨z, h1, _⟩ := hlk' e he
    have := get_lt h1
    exact ⟨by rw [h.ll]; exact this, this⟩
  have htrn : ∀ q, (transit m (send s.ls ((lo.filter (fun e => decide (e.it.t < en))).map msg)) q).Perm (transit m s.ls q ++ atP q ((lo.filter (fun e => decide (e.it.t < en))).map (toEv m ((cutI F N p).length : Int)))) := fun q => by
    unfold transit
    refine (msgs_perm (inbox_send hrng)).trans ?_
    rw [msgs_append, msgs_at (c := ((cutI F N p).length : Int)) hlk']
  have hgen := gen_stepE hm (en := en) hpn hc1 hc2
  rw [hout, ← hlo] at hgen
  have hx0 := hP.tim x (by rw [hq]; simp)
  refine ⟨⟨by simp [h.lp], by simp only; rw [send_length]; exact h.ll, ?_, ?_, ?_, ?_, ?_⟩, ?_⟩
  · intro q hqn
    by_cases e : q = p
    · subst e; simp only [if_true]; have := get_lt hnx; omega
    · simp only [if_neg e]; exact h.nle q hqn
  · intro q b hb
    simp only at hb
    rcases set_get hb with ⟨e1, e2⟩ | ⟨e1, e2⟩
    · subst e1 e2
      refine ⟨?_, ?_, ?_, ?_, hP.hrd, ?_, hP.wys⟩
      · rw [hc1, hist_snoc, ← hP.dn]
        show a.dn ++ [⟨x, (ruleOut m (q : Int) a.st a.sent x).2.1⟩] = _
        unfold stepP
        rw [hrun.1, hrun.2]
      · rw [hc1, runP_snoc, ← hP.run]; rfl
      · rw [hc1]
        have h1 := hP.has
        rw [hq] at h1
        have h2 := htrn q
        have h3 := atP_perm (i := q) hgen
        rw [atP_append] at h3
        refine List.Perm.trans ?_ h3.symm
        refine List.Perm.trans ?_ (h1.append_right _)
        simp only
        haveI : DecidableEq It := fun a b => Classical.propDecidable (a = b)
        rw [List.perm_iff_count] at h2 ⊢
        intro y
        have h2 := h2 y
        simp only [List.count_append, List.count_cons, List.count_nil] at h2 ⊢
        omega
      · intro y hy
        exact hP.tim y (by rw [hq]; simp [show y ∈ q' from hy])
      · intro k z hz hzt
        exact (hP.hrp k z hz hzt).more hN
    · have hQ := h.pi q b e2
      refine ⟨by rw [hc2 q e1]; exact hQ.dn, by rw [hc2 q e1]; exact hQ.run, ?_, hQ.tim, hQ.hrd, fun k z hz hzt => (hQ.hrp k z hz hzt).more hN, hQ.wys⟩
      rw [hc2 q e1]
      have h1 := hQ.has
      have h2 := htrn q
      have h3 := atP_perm (i := q) hgen
      rw [atP_append] at h3
      refine List.Perm.trans ?_ h3.symm
      refine List.Perm.trans ?_ (h1.append_right _)
      simp only
      haveI : DecidableEq It := fun a b => Classical.propDecidable (a = b)
      rw [List.perm_iff_count] at h2 ⊢
      intro y
      have h2 := h2 y
      simp only [List.count_append] at h2 ⊢
      omega
  · intro k z hz y hy
    simp only at hy
    rw [send_get (fun x hx => (hrng x hx).1)] at hy
    rcases List.mem_append.1 hy with hy | hy
    · obtain ⟨h1, h2⟩ := h.lnk k z hz y hy
      refine ⟨h1, ?_⟩
      rcases h2 with h2 | h2 | h2
      · exact .inl h2
      · exact .inr (.inl ⟨h2.1, h2.2.1, h2.2.2.1, h2.2.2.2.more hN⟩)
      · exact .inr (.inr ⟨h2.1, h2.2.more hN⟩)
    · obtain ⟨hy, hyk⟩ := List.mem_filter.1 hy
      simp only [decide_eq_true_eq] at hyk
      obtain ⟨e, he, rfl⟩ := List.mem_map.1 hy
      obtain ⟨he1, he2⟩ := List.mem_filter.1 he
      simp only [decide_eq_true_eq] at he2
      obtain ⟨z', h1, h2, _, _, h3, _⟩ := hlk e he1
      have hza := hm.link h1
      have hyk : e.k.toNat = k := hyk
      exact ⟨by show e.k = _; omega, .inl ⟨rfl, by show 0 ≤ e.it.t; omega, he2⟩⟩
  · have heff : ∀ k : Nat, effo m ⟨s.ps.set p { (doP m (p : Int) en a x).1 with q := q' }, send s.ls ((lo.filter (fun e => decide (e.it.t < en))).map msg)⟩ k = effo m s k := by
      intro k
      unfold effo
      cases hz : m.links[k]? with
      | none => rfl
      | some z =>
        simp only
        rw [send_get (fun x hx => (hrng x hx).1)]
        have hl : ∀ c, lastHr c (s.ls.getD k [] ++ ((lo.filter (fun e => decide (e.it.t < en))).map msg).filter (fun x => decide (x.k.toNat = k))) = lastHr c (s.ls.getD k []) := fun c => by
          rw [lastHr_append]
          refine lastHr_msgs _ _ (fun y hy => ?_)
          obtain ⟨e, _, rfl⟩ := List.mem_map.1 (List.mem_filter.1 hy).1
          rfl
        by_cases e : z.t.toNat = p
        · rw [e, List.getElem?_set_self hpl, hp]
          simp only
          rw [hl]; rfl
        · rw [List.getElem?_set_ne (by omega)]
          cases s.ps[z.t.toNat]? with
          | none => rfl
          | some b => simp only; rw [hl]
    intro q b hb w hw
    have hbw : ∃ b', s.ps[q]? = some b' ∧ b'.ws = b.ws := by
      rcases set_get hb with ⟨e1, e2⟩ | ⟨e1, e2⟩
      · subst e1 e2; exact ⟨a, hp, rfl⟩
      · exact ⟨b, e2, rfl⟩
    obtain ⟨b', hb', hbw⟩ := hbw
    have := h.sad q b' hb' w (by rw [hbw]; exact hw)
    unfold SadOk effm at this ⊢
    rw [heff]
    exact this
  · intro q i y hqn hi hy z hz hzt
    by_cases e : q = p
    · subst e
      simp only [if_true] at hi
      by_cases e2 : i = N q
      · subst e2
        rw [hnx] at hy
        cases hy
        exact ((hPT z hz hzt).less (by omega)).more hN
      · exact (h.kn q i y hqn (by omega) hy z hz hzt).more hN
    · simp only [if_neg e] at hi
      exact (h.kn q i y hqn hi hy z hz hzt).more hN
  · intro y hy
    rcases List.mem_append.1 ((htrn p).mem_iff.1 hy) with h1 | h1
    · exact htr y h1
    · obtain ⟨e, he, hep, rfl⟩ := mem_atP.1 h1
      obtain ⟨e', he', rfl⟩ := List.mem_map.1 he
      obtain ⟨z, h2, _, h3, h4, h5, _⟩ := hlk e' (List.mem_filter.1 he').1
      have hzt : z.t = (p : Int) := by rw [← h4]; exact hep
      have := hPT z (List.mem_of_getElem? h2) hzt (N p) x (by rw [h3]; simp) (by rw [h3]; simpa using hnx)
      show T ≤ e'.it.t
      omega

end

end Go.Proofs.Ytkobkilfbbalaaa

namespace Go.Proofs.Ytkobkilfbbalaaa
open Go.RowKit Go.Sort Go.Maps

/-! ### the links that begin at a process -/
theorem way1_some {m : Mdl} {p : Int} {j : Nat} {w : Wy} (h : way1 m p j = some w) : ∃ z, m.links[j]? = some z ∧ z.f = p ∧ w.k = (j : Int) ∧ w.a = z.a ∧ w.said = -1 := by
  unfold way1 at h
  cases hz : m.links[j]? with
  | none => rw [hz] at h; cases h
  | some z =>
    rw [hz] at h
    simp only at h
    split at h
    · rename_i hf
      cases h
      exact ⟨z, rfl, hf, rfl, rfl, rfl⟩
    · cases h
theorem ways0_mem {m : Mdl} {p : Int} {n : Nat} {w : Wy} (h : w ∈ ways0 m p n) : ∃ (j : Nat) (z : MLink), j < n ∧ m.links[j]? = some z ∧ z.f = p ∧ w.k = (j : Int) ∧ w.a = z.a ∧ w.said = -1 := by
  unfold ways0 at h
  obtain ⟨j, hj, hw⟩ := List.mem_filterMap.1 h
  obtain ⟨z, h1, h2, h3, h4⟩ := way1_some hw
  exact ⟨j, z, by simpa using hj, h1, h2, h3, h4⟩
theorem ways0_keys (m : Mdl) (p : Int) : ∀ n : Nat, (ways0 m p n).Pairwise (fun a b => a.k ≠ b.k)
  | 0 => List.Pairwise.nil
  | n + 1 => by
    rw [ways0_succ]
    rw [List.pairwise_append]
    refine ⟨ways0_keys m p n, ?_, fun a ha b hb => ?_⟩
    · cases way1 m p n <;> simp
    · obtain ⟨j, z, hj, _, _, h1, _⟩ := ways0_mem ha
      have hb : way1 m p n = some b := by simpa using hb
      obtain ⟨_, _, _, h2, _⟩ := way1_some hb
      omega

section
variable {m : Mdl} {en : Int} {F : Nat → List It} {C : Nat → List Int} {N : Nat → Nat} {s : NS}

theorem PI.ways {ls : List (List Pcl)} {p : Nat} {a : NP} (h : PI m en F N ls p a) {w : Wy} (hw : w ∈ a.ws) : ∃ (j : Nat) (z : MLink), m.links[j]? = some z ∧ z.f = (p : Int) ∧ w.k = (j : Int) ∧ w.a = z.a := by
  have h1 : (w.k, w.a) ∈ (ways0 m (p : Int) m.links.length).map (fun w => (w.k, w.a)) := by
    rw [← h.wys]; exact List.mem_map.2 ⟨w, hw, rfl⟩
  obtain ⟨w0, h2, h3⟩ := List.mem_map.1 h1
  obtain ⟨j, z, _, h4, h5, h6, h7, _⟩ := ways0_mem h2
  simp only [Prod.mk.injEq] at h3
  exact ⟨j, z, h4, h5, by omega, by omega⟩
theorem PI.wkeys {ls : List (List Pcl)} {p : Nat} {a : NP} (h : PI m en F N ls p a) : a.ws.Pairwise (fun a b => a.k ≠ b.k) := by
  have h1 : (a.ws.map (fun w => (w.k, w.a))).Pairwise (fun a b => a.1 ≠ b.1) := by
    rw [h.wys, List.pairwise_map]; exact ways0_keys m _ _
  rw [List.pairwise_map] at h1
  exact h1
/-- every link that begins at p is one of its ways -/
theorem PI.way_of {ls : List (List Pcl)} {p : Nat} {a : NP} (h : PI m en F N ls p a) {j : Nat} {z : MLink} (hz : m.links[j]? = some z) (hf : z.f = (p : Int)) : ∃ w ∈ a.ws, w.k = (j : Int) ∧ w.a = z.a := by
  have h1 : ((j : Int), z.a) ∈ a.ws.map (fun w => (w.k, w.a)) := by
    rw [h.wys]
    refine List.mem_map.2 ⟨⟨(j : Int), z.a, -1⟩, ?_, rfl⟩
    unfold ways0
    refine List.mem_filterMap.2 ⟨j, by simpa using get_lt hz, ?_⟩
    unfold way1
    rw [hz]
    simp [hf]
  obtain ⟨w, h2, h3⟩ := List.mem_map.1 h1
  simp only [Prod.mk.injEq] at h3
  exact ⟨w, h2, h3.1, h3.2⟩

/-! ### words -/
theorem wyP_k (en T : Int) (w : Wy) : (wyP en T w).k = w.k ∧ ((wyP en T w).kd = 1 ∨ (wyP en T w).kd = 2) := by
  unfold wyP
  split
  · exact ⟨rfl, .inr rfl⟩
  · exact ⟨rfl, .inl rfl⟩
theorem mem_wyO {en T : Int} {l : List Wy} {y : Pcl} (h : y ∈ wyO en T l) : ∃ w ∈ l, w.said < wyT en T w ∧ y = wyP en T w := by
  unfold wyO at h
  obtain ⟨w, hw, rfl⟩ := List.mem_map.1 h
  obtain ⟨h1, h2⟩ := List.mem_filter.1 hw
  exact ⟨w, h1, by simpa using h2, rfl⟩
theorem wyO_cons (en T : Int) (v : Wy) (l : List Wy) : wyO en T (v :: l) = (if v.said < wyT en T v then [wyP en T v] else []) ++ wyO en T l := by
  unfold wyO
  by_cases h : v.said < wyT en T v <;> simp [h]
theorem wyO_none {en T : Int} {l : List Wy} {j : Nat} (h : ∀ v ∈ l, v.k.toNat ≠ j) : (wyO en T l).filter (fun x => decide (x.k.toNat = j)) = [] := by
  rw [List.filter_eq_nil_iff]
  intro y hy
  obtain ⟨w, hw, _, rfl⟩ := mem_wyO hy
  have := h w hw
  rw [(wyP_k en T w).1]
  simpa using this
theorem wyO_one {en T : Int} : ∀ {l : List Wy} {w : Wy}, (∀ v ∈ l, 0 ≤ v.k) → l.Pairwise (fun a b => a.k ≠ b.k) → w ∈ l → (wyO en T l).filter (fun x => decide (x.k.toNat = w.k.toNat)) = if w.said < wyT en T w then [wyP en T w] else []
  | [], w, _, _, h => by simp at h
  | v :: l, w, h0, hp, h => by
    have hp' := List.pairwise_cons.1 hp
    have hw0 := h0 w h
    have hv0 := h0 v (by simp)
    rw [wyO_cons, List.filter_append]
    rcases List.mem_cons.1 h with e | hl
    · subst e
      rw [wyO_none (fun u hu => by have h1 := hp'.1 u hu; have h2 := h0 u (by simp [hu]); omega), List.append_nil]
      by_cases h1 : w.said < wyT en T w
      · rw [if_pos h1, List.filter_cons_of_pos (by rw [(wyP_k en T w).1]; simp)]; rfl
      · rw [if_neg h1]; rfl
    · have hne := hp'.1 w hl
      have h2 : (if v.said < wyT en T v then [wyP en T v] else []).filter (fun x => decide (x.k.toNat = w.k.toNat)) = [] := by
        rw [List.filter_eq_nil_iff]
        intro y hy
        split at hy
        · have hy : y = wyP en T v := by simpa using hy
          subst hy
          rw [(wyP_k en T v).1]
          simp; omega
        · simp at hy
      rw [h2, List.nil_append]
      exact wyO_one (fun u hu => h0 u (by simp [hu])) hp'.2 hl

/-- the words are said -/
theorem NInv.saidAll (hm : Right m) (hen0 : 0 ≤ en) (h : NInv m en F N s) {p : Nat} {a : NP} (hp : s.ps[p]? = some a) {T : Int} (hT0 : 0 ≤ T)
    (hlate : ∀ (i : Nat) (x : It), N p ≤ i → (F p)[i]? = some x → T ≤ x.t) :
    NInv m en F N ⟨s.ps.set p { a with ws := a.ws.map (wyN en T) }, send s.ls (wyO en T a.ws)⟩ ∧ ∀ k, k < m.links.length → effm m en s k ≤ effm m en ⟨s.ps.set p { a with ws := a.ws.map (wyN en T) }, send s.ls (wyO en T a.ws)⟩ k := by
  have hpl := get_lt hp
  have hP := h.pi p a hp
  have hw0 : ∀ v ∈ a.ws, 0 ≤ v.k := fun v hv => by obtain ⟨j, _, _, _, h1, _⟩ := hP.ways hv; omega
  have hrng : ∀ y ∈ wyO en T a.ws, y.k.toNat < s.ls.length ∧ y.k.toNat < m.links.length := fun y hy => by
    obtain ⟨w, hw, _, rfl⟩ := mem_wyO hy
    obtain ⟨j, z, h1, _, h2, _⟩ := hP.ways hw
    rw [(wyP_k en T w).1, h.ll]
    have := get_lt h1
    omega
  have htrn : ∀ q, (transit m (send s.ls (wyO en T a.ws)) q).Perm (transit m s.ls q) := fun q => by
    unfold transit
    refine (msgs_perm (inbox_send hrng)).trans ?_
    rw [msgs_append]
    have : msgs ((wyO en T a.ws).filter (fun x => leads m q x.k.toNat)) = [] := by
      unfold msgs
      rw [List.map_eq_nil_iff, List.filter_eq_nil_iff]
      intro y hy
      obtain ⟨w, _, _, rfl⟩ := mem_wyO (List.mem_filter.1 hy).1
      have := (wyP_k en T w).2
      simp; omega
    rw [this, List.append_nil]
  have hget := fun k => send_get (ls := s.ls) (fun x hx => (hrng x hx).1) k
  -- what the receivers will have heard
  have heff : ∀ k, k < m.links.length → effo m ⟨s.ps.set p { a with ws := a.ws.map (wyN en T) }, send s.ls (wyO en T a.ws)⟩ k = lastHr (effo m s k) ((wyO en T a.ws).filter (fun x => decide (x.k.toNat = k))) := by
    intro k hk
    obtain ⟨z, hz⟩ := get_of_lt hk
    have hzb := hm.link hz
    unfold effo
    rw [hz]
    simp only
    rw [hget k]
    obtain ⟨b, hb⟩ := get_of_lt (d := s.ps) (k := z.t.toNat) (by rw [h.lp]; unfold np; omega)
    by_cases e : z.t.toNat = p
    · rw [e, List.getElem?_set_self hpl, hp]
      simp only
      rw [lastHr_append]
    · rw [List.getElem?_set_ne (by omega), hb]
      simp only
      rw [lastHr_append]
  have hsame : ∀ k, k < m.links.length → (∀ v ∈ a.ws, v.k.toNat ≠ k) → effm m en ⟨s.ps.set p { a with ws := a.ws.map (wyN en T) }, send s.ls (wyO en T a.ws)⟩ k = effm m en s k := fun k hk hv => by
    unfold effm
    rw [heff k hk, wyO_none hv]; rfl
  have hway : ∀ w ∈ a.ws, (w.said < wyT en T w → effm m en ⟨s.ps.set p { a with ws := a.ws.map (wyN en T) }, send s.ls (wyO en T a.ws)⟩ w.k.toNat = wyT en T w) ∧ (¬ w.said < wyT en T w → effm m en ⟨s.ps.set p { a with ws := a.ws.map (wyN en T) }, send s.ls (wyO en T a.ws)⟩ w.k.toNat = effm m en s w.k.toNat) := fun w hw => by
    obtain ⟨j, z, h1, _, h2, _⟩ := hP.ways hw
    have hk : w.k.toNat < m.links.length := by have := get_lt h1; omega
    unfold effm
    rw [heff _ hk, wyO_one hw0 hP.wkeys hw]
    refine ⟨fun hlt => ?_, fun hlt => ?_⟩
    · rw [if_pos hlt]
      have htop : wyT en T w ≤ en := by unfold wyT; omega
      unfold wyP lastHr
      by_cases e : wyT en T w = en
      · rw [if_pos e]; simp; omega
      · rw [if_neg e]; simp; omega
    · rw [if_neg hlt]; rfl
  have htime : ∀ w ∈ a.ws, 0 ≤ wyT en T w ∧ min w.a en ≤ wyT en T w ∧ wyT en T w ≤ en := fun w hw => by
    obtain ⟨j, z, h1, _, h2, h3⟩ := hP.ways hw
    have := hm.link h1
    unfold wyT; omega
  refine ⟨⟨by simp [h.lp], by simp only; rw [send_length]; exact h.ll, h.nle, ?_, ?_, ?_, h.kn⟩, ?_⟩
  · intro q b hb
    simp only at hb
    rcases set_get hb with ⟨e1, e2⟩ | ⟨e1, e2⟩
    · subst e1 e2
      refine ⟨hP.dn, hP.run, ?_, hP.tim, hP.hrd, hP.hrp, ?_⟩
      · exact (((List.Perm.refl _).append (htrn q)).append_right _).trans hP.has
      · show (a.ws.map (wyN en T)).map _ = _
        rw [List.map_map, ← hP.wys]
        refine List.map_congr_left (fun w _ => ?_)
        show ((wyN en T w).k, (wyN en T w).a) = (w.k, w.a)
        unfold wyN
        split <;> rfl
    · have hQ := h.pi q b e2
      exact ⟨hQ.dn, hQ.run, (((List.Perm.refl _).append (htrn q)).append_right _).trans hQ.has, hQ.tim, hQ.hrd, hQ.hrp, hQ.wys⟩
  · intro k z hz y hy
    simp only at hy
    rw [hget k] at hy
    rcases List.mem_append.1 hy with hy | hy
    · exact h.lnk k z hz y hy
    · obtain ⟨hy, hyk⟩ := List.mem_filter.1 hy
      obtain ⟨w, hw, hws, rfl⟩ := mem_wyO hy
      rw [(wyP_k en T w).1] at hyk
      simp only [decide_eq_true_eq] at hyk
      obtain ⟨j, z', h1, h2, h3, h4⟩ := hP.ways hw
      have ejk : j = k := by omega
      subst ejk
      rw [hz] at h1; cases h1
      have ht := htime w hw
      have hprom : Prom F N z (wyT en T w) := fun i x hi hx => by
        rw [h2] at hi hx
        have := hlate i x (by simpa using hi) (by simpa using hx)
        unfold wyT; omega
      refine ⟨by rw [(wyP_k en T w).1]; exact h3, ?_⟩
      unfold wyP
      by_cases e : wyT en T w = en
      · rw [if_pos e]
        exact .inr (.inr ⟨rfl, by rw [← e]; exact hprom⟩)
      · rw [if_neg e]
        exact .inr (.inl ⟨rfl, ht.1, by show wyT en T w < en; omega, hprom⟩)
  · intro q b hb w hw
    simp only at hb
    rcases set_get hb with ⟨e1, e2⟩ | ⟨e1, e2⟩
    · subst e1 e2
      have hw : w ∈ a.ws.map (wyN en T) := hw
      obtain ⟨w0, hw0', rfl⟩ := List.mem_map.1 hw
      have ht := htime w0 hw0'
      have hwy := hway w0 hw0'
      have hold := h.sad q a hp w0 hw0'
      unfold SadOk at hold ⊢
      by_cases hlt : w0.said < wyT en T w0
      · have e3 : wyN en T w0 = { w0 with said := wyT en T w0 } := by unfold wyN; rw [if_pos hlt]
        rw [e3]
        simp only
        rw [hwy.1 hlt]
        omega
      · have e3 : wyN en T w0 = w0 := by unfold wyN; rw [if_neg hlt]
        rw [e3, hwy.2 hlt]
        exact hold
    · have hold := h.sad q b e2 w hw
      obtain ⟨j, z, h1, h2, h3, _⟩ := (h.pi q b e2).ways hw
      have hjl := get_lt h1
      unfold SadOk at hold ⊢
      rw [hsame _ (by omega) (fun v hv => by
        obtain ⟨j', z', h1', h2', h3', _⟩ := hP.ways hv
        intro e
        have : j' = j := by omega
        subst this
        rw [h1] at h1'; cases h1'; omega)]
      exact hold
  · intro k hk
    by_cases hv : ∃ v ∈ a.ws, v.k.toNat = k
    · obtain ⟨v, hv, rfl⟩ := hv
      have ht := htime v hv
      have hold := h.sad p a hp v hv
      unfold SadOk at hold
      by_cases hlt : v.said < wyT en T v
      · rw [(hway v hv).1 hlt]; omega
      · rw [(hway v hv).2 hlt]; exact Int.le_refl _
    · rw [hsame k hk (fun v hv' e => hv ⟨v, hv', e⟩)]; exact Int.le_refl _

/-! ### events, one behind the other -/
theorem effo_ext {s s' : NS} (hl : s'.ls = s.ls) (hh : ∀ q : Nat, (s'.ps[q]?).map NP.hr = (s.ps[q]?).map NP.hr) (k : Nat) : effo m s' k = effo m s k := by
  unfold effo
  cases m.links[k]? with
  | none => rfl
  | some z =>
    simp only
    have := hh z.t.toNat
    cases h1 : s'.ps[z.t.toNat]? with
    | none =>
      rw [h1] at this
      cases h2 : s.ps[z.t.toNat]? with
      | none => rfl
      | some b => rw [h2] at this; cases this
    | some b' =>
      rw [h1] at this
      cases h2 : s.ps[z.t.toNat]? with
      | none => rw [h2] at this; cases this
      | some b =>
        rw [h2] at this
        simp only [Option.map_some, Option.some.injEq] at this
        simp only
        rw [this, hl]

theorem NInv.didAll (hm : Right m) (hen : en ≤ 200) (hF : Full m en F C) {p : Nat} {T : Int} (hTe : T ≤ en) {rest : List It} (hrest : ∀ y ∈ rest, T ≤ y.t) : ∀ (l : List It) {N : Nat → Nat} {s : NS} {a : NP}, NInv m en F N s → s.ps[p]? = some a → a.q = l ++ rest → l.Pairwise It.lt → (∀ x ∈ l, x.t < T) →
    (∀ z ∈ m.links, z.t = (p : Int) → Prom F N z T) → (∀ y ∈ transit m s.ls p, T ≤ y.t) →
    ∃ N' : Nat → Nat, NInv m en F N' ⟨s.ps.set p { (doAll m (p : Int) en l (a, [])).1 with q := rest }, send s.ls (doAll m (p : Int) en l (a, [])).2⟩ ∧ (∀ q, q ≠ p → N' q = N q) ∧ N' p = N p + l.length ∧ (∀ y ∈ transit m (send s.ls (doAll m (p : Int) en l (a, [])).2) p, T ≤ y.t)
  | [], N, s, a, h, hp, hq, _, _, _, htr => by
    refine ⟨N, ?_, fun _ _ => rfl, rfl, htr⟩
    have e : s.ps.set p { a with q := rest } = s.ps := by
      have : ({ a with q := rest } : NP) = a := by rw [List.nil_append] at hq; rw [← hq]
      rw [this]; exact set_same hp
    show NInv m en F N ⟨s.ps.set p { a with q := rest }, s.ls⟩
    rw [e]; exact h
  | x :: l, N, s, a, h, hp, hq, hs, hlt, hPT, htr => by
    have hs' := List.pairwise_cons.1 hs
    have hpl := get_lt hp
    obtain ⟨h1, htr1⟩ := h.did hm hen hF hp (q' := l ++ rest) hq (hlt x (by simp)) hTe hPT (fun y hy => by
      rcases List.mem_append.1 hy with hy | hy
      · exact .inr (hs'.1 y hy)
      · exact .inl (hrest y hy)) htr
    have hN : ∀ q, N q ≤ (fun r => if r = p then N p + 1 else N r) q := fun q => by
      by_cases e : q = p
      · subst e; simp
      · simp [e]
    obtain ⟨N', h2, h3, h4, h5⟩ := NInv.didAll hm hen hF hTe hrest l h1 (List.getElem?_set_self hpl) rfl hs'.2 (fun y hy => hlt y (by simp [hy])) (fun z hz hzt => (hPT z hz hzt).more hN) htr1
    have e1 : doAll m (p : Int) en (x :: l) (a, []) = ((doAll m (p : Int) en l ((doP m (p : Int) en a x).1, [])).1, (doP m (p : Int) en a x).2 ++ (doAll m (p : Int) en l ((doP m (p : Int) en a x).1, [])).2) := by
      show doAll m (p : Int) en l ((doP m (p : Int) en a x).1, [] ++ (doP m (p : Int) en a x).2) = _
      rw [List.nil_append, doAll_out]
    have e2 := doAll_q m (p : Int) en (l ++ rest) l (doP m (p : Int) en a x).1 []
    refine ⟨N', ?_, fun q hq => ?_, ?_, ?_⟩
    · rw [e1]
      simp only at h2 ⊢
      rw [e2, List.set_set] at h2
      rw [send_append]
      exact h2
    · rw [h3 q hq]; simp [hq]
    · rw [h4]; simp; omega
    · rw [e1]
      simp only at h5 ⊢
      rw [e2] at h5
      rw [send_append]
      exact h5

end

end Go.Proofs.Ytkobkilfbbalaaa

