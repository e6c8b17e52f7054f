/-
  The net's invariant is kept: an event is done, words are said, a process goes on. Nothing of the program.
  The net's invariant is kept: words are said, a process goes on. Nothing of the program.
  A process of the net goes on: what is kept, what grows, what comes to an end. Nothing of the program.
  The net's steps come to an end; what is done at every moment, and when all is over. Nothing of the program.
  Steps of the net: the invariant at every moment, who can go on, when all is over. Nothing of the program.
  The net: what is known, no company that waits for itself, rounds to the end, the beginning. Nothing of the program.
  The net at its beginning, and what it is held against: all that happens, one behind the other. Nothing of the program.
-/
import Derived.Test.YtaieackeflmhgaaSafe10
namespace Go.Proofs.Ytaieackeflmhgaa
open Go.RowKit Go.Sort Go.Maps

/-! ### no two that come are alike -/
theorem ems_nodup (m : Mdl) (q : Int) (l : List It) : ((emsP m q l).map evKey).Nodup := by
  rw [List.nodup_iff_pairwise_ne, List.pairwise_iff_getElem]
  intro i j hi hj hij
  rw [List.getElem_map, List.getElem_map]
  have h1 := emsP_key (List.getElem?_eq_getElem (l := emsP m q l) (i := i) (by simpa using hi))
  have h2 := emsP_key (List.getElem?_eq_getElem (l := emsP m q l) (i := j) (by simpa using hj))
  intro e
  unfold evKey at e
  simp only [Prod.mk.injEq] at e
  omega
theorem gen_nodup (m : Mdl) (I : Nat → List It) : ((genAll m I).map evKey).Nodup := by
  unfold genAll
  rw [List.map_append]
  refine nodup_append' ?_ ?_ ?_
  · rw [List.nodup_iff_pairwise_ne, List.pairwise_iff_getElem]
    intro i j hi hj hij
    simp only [List.getElem_map, List.getElem_mapIdx, evKey, initEv]
    intro e
    simp only [Prod.mk.injEq] at e
    omega
  · suffices ∀ n : Nat, (((List.range n).flatMap (fun q : Nat => emsP m (q : Int) (I q))).map evKey).Nodup from this _
    intro n
    induction n with
    | zero => simp
    | succ n ih =>
      rw [List.range_succ, List.flatMap_append, List.map_append]
      simp only [List.flatMap_cons, List.flatMap_nil, List.append_nil]
      refine nodup_append' ih (ems_nodup m _ _) ?_
      intro k hk hk'
      obtain ⟨y, hy, rfl⟩ := List.mem_map.1 hk
      obtain ⟨y', hy', e⟩ := List.mem_map.1 hk'
      obtain ⟨q, hq, hy⟩ := List.mem_flatMap.1 hy
      obtain ⟨j, hj⟩ := List.getElem?_of_mem hy
      obtain ⟨j', hj'⟩ := List.getElem?_of_mem hy'
      have h1 := emsP_key hj
      have h2 := emsP_key hj'
      have hq : q < n := by simpa using hq
      unfold evKey at e
      simp only [Prod.mk.injEq] at e
      omega
  · intro k hk hk'
    obtain ⟨y, hy, rfl⟩ := List.mem_map.1 hk
    obtain ⟨y', hy', e⟩ := List.mem_map.1 hk'
    obtain ⟨q, hq, hy'⟩ := List.mem_flatMap.1 hy'
    obtain ⟨j', hj'⟩ := List.getElem?_of_mem hy'
    have h2 := emsP_key hj'
    obtain ⟨i, hi⟩ := List.getElem?_of_mem hy
    rw [List.getElem?_mapIdx] at hi
    obtain ⟨s, _, rfl⟩ := Option.map_eq_some_iff.1 hi
    unfold evKey initEv at e
    simp only [Prod.mk.injEq] at e
    omega
theorem uq_of_keys {l : List Ev} (h : (l.map evKey).Nodup) : Uq (l.map Ev.it) := by
  rw [List.nodup_iff_pairwise_ne, List.pairwise_map] at h
  unfold Uq
  rw [List.pairwise_map]
  refine h.imp (fun {x y} hne => ?_)
  by_cases h1 : x.it.lt y.it
  · exact .inl h1
  · by_cases h2 : y.it.lt x.it
    · exact .inr h2
    · have := It.lt_total h1 h2
      exact absurd (by unfold evKey; rw [this.1, this.2]) hne
theorem uq_comes (m : Mdl) (en : Int) (I : Nat → List It) (p : Nat) : Uq (atP p (genE m en I)) := by
  unfold atP genE
  refine uq_of_keys ?_
  exact List.Nodup.sublist ((List.filter_sublist.trans List.filter_sublist).map evKey) (gen_nodup m I)
theorem Uq.not_both {a b : List It} (h : Uq (a ++ b)) {x : It} (h1 : x ∈ a) (h2 : x ∈ b) : False := by
  have := (List.pairwise_append.1 h).2.2 x h1 x h2
  exact this.elim (It.lt_irrefl x) (It.lt_irrefl x)

theorem mem_genE {m : Mdl} {en : Int} {I : Nat → List It} {y : Ev} : y ∈ genE m en I ↔ y ∈ genAll m I ∧ (y.it.f = -1 ∨ y.it.t < en) := by
  unfold genE; rw [List.mem_filter, decide_eq_true_eq]

/-! ### messages -/
theorem msgs_at {m : Mdl} {p : Nat} {c : Int} : ∀ {l : List Em}, (∀ e ∈ l, ∃ z, m.links[e.k.toNat]? = some z ∧ linkTo m e.k = z.t) → msgs ((l.map msg).filter (fun x => leads m p x.k.toNat)) = atP p (l.map (toEv m c))
  | [], _ => rfl
  | e :: l, h => by
    have ih := msgs_at (m := m) (p := p) (c := c) (l := l) (fun e he => h e (by simp [he]))
    obtain ⟨z, hz, hzt⟩ := h e (by simp)
    rw [List.map_cons, List.map_cons, atP_cons, ← ih]
    by_cases hl : leads m p e.k.toNat = true
    · rw [List.filter_cons_of_pos (by exact hl)]
      obtain ⟨z', hz', h1⟩ := leads_iff.1 hl
      rw [hz] at hz'; cases hz'
      have : (toEv m c e).p = (p : Int) := by show linkTo m e.k = _; omega
      rw [if_pos this]
      rfl
    · rw [List.filter_cons_of_neg (by exact hl)]
      have : ¬ (toEv m c e).p = (p : Int) := fun h1 => hl (leads_iff.2 ⟨z, hz, by rw [← hzt]; exact h1⟩)
      rw [if_neg this, List.nil_append]

theorem atP_append (i : Nat) (a b : List Ev) : atP i (a ++ b) = atP i a ++ atP i b := by
  unfold atP; rw [List.filter_append, List.map_append]

theorem gen_stepE {m : Mdl} (hm : Right m) {en : Int} {I I' : Nat → List It} {p : Nat} (hp : p < np m) {x : It} (h : I' p = I p ++ [x]) (ho : ∀ q, q ≠ p → I' q = I q) : (genE m en I').Perm (genE m en I ++ ((outP m (p : Int) (I p) x).filter (fun e => decide (e.it.t < en))).map (toEv m ((I p).length : Int))) := by
  unfold genE
  refine ((gen_step hp h ho).filter _).trans ?_
  rw [List.filter_append]
  refine List.Perm.append_left _ ?_
  rw [List.filter_map]
  refine List.Perm.of_eq (congrArg _ (List.filter_congr (fun e he => ?_)))
  obtain ⟨z, _, _, _, _, _, _, hf⟩ := ruleOut_link hm he
  show decide (e.it.f = -1 ∨ e.it.t < en) = decide (e.it.t < en)
  have : ¬ e.it.f = -1 := by omega
  simp [this]

section
variable {m : Mdl} {en : Int} {F : Nat → List It} {C : Nat → List Int} {N : Nat → Nat} {s : NS}

theorem NInv.permq (h : NInv m en F N s) {p : Nat} {a : NP} (hp : s.ps[p]? = some a) {q' : List It} (hq : a.q.Perm q') : NInv m en F N ⟨s.ps.set p { a with q := q' }, s.ls⟩ := by
  have hP := h.pi p a hp
  have hpl := get_lt hp
  refine ⟨by simp [h.lp], h.ll, h.nle, ?_, h.lnk, ?_, h.kn⟩
  · intro q b hb
    rcases set_get hb with ⟨e1, e2⟩ | ⟨e1, e2⟩
    · subst e1 e2
      exact ⟨hP.dn, hP.run, (((hq.symm.append_right _).append_right _).trans hP.has), fun x hx => hP.tim x (hq.mem_iff.2 hx), hP.hrd, hP.hrp, hP.wys⟩
    · exact h.pi q b e2
  · have heff : ∀ k : Nat, effo m ⟨s.ps.set p { a with q := q' }, s.ls⟩ k = effo m s k := by
      intro k
      unfold effo
      cases hz : m.links[k]? with
      | none => rfl
      | some z =>
        simp only
        by_cases e : z.t.toNat = p
        · rw [e, List.getElem?_set_self hpl, hp]
        · rw [List.getElem?_set_ne (by omega)]
    intro q b hb w hw
    have hbw : ∃ b', s.ps[q]? = some b' ∧ b'.ws = b.ws := by
      rcases set_get hb with ⟨e1, e2⟩ | ⟨e1, e2⟩
      · subst e1 e2; exact ⟨a, hp, rfl⟩
      · exact ⟨b, e2, rfl⟩
    obtain ⟨b', hb', hbw⟩ := hbw
    have := h.sad q b' hb' w (by rw [hbw]; exact hw)
    unfold SadOk effm at this ⊢
    rw [heff]
    exact this

/-- what waits at p and is not done comes, and what comes is done or waits -/
theorem NInv.comes (h : NInv m en F N s) {p : Nat} {a : NP} (hp : s.ps[p]? = some a) {x : It} : x ∈ a.q ∨ x ∈ transit m s.ls p ∨ x ∈ cutI F N p ↔ ∃ y, y ∈ genE m en (cutI F N) ∧ y.p = (p : Int) ∧ y.it = x := by
  have := (h.pi p a hp).has.mem_iff (a := x)
  rw [mem_atP, List.mem_append, List.mem_append, or_assoc] at this
  exact this
theorem NInv.uq (h : NInv m en F N s) {p : Nat} {a : NP} (hp : s.ps[p]? = some a) : Uq ((a.q ++ transit m s.ls p) ++ cutI F N p) := (uq_comes m en _ p).perm (h.pi p a hp).has.symm

/-- the first of what waits, of which p is sure, is the next that happens there -/
theorem NInv.next (hm : Right m) (hF : Full m en F C) (h : NInv m en F N s) {p : Nat} {a : NP} (hp : s.ps[p]? = some a) {x : It} {q' : List It} (hq : a.q = x :: q') {T : Int} (hx : x.t < T) (hTe : T ≤ en)
    (hPT : ∀ z ∈ m.links, z.t = (p : Int) → Prom F N z T) (hmin : ∀ y ∈ q', T ≤ y.t ∨ x.lt y) (htr : ∀ y ∈ transit m s.ls p, T ≤ y.t) : (F p)[N p]? = some x := by
  have hpn : p < np m := by rw [← h.lp]; exact get_lt hp
  obtain ⟨e, he, hep, hex⟩ := (h.comes hp).1 (.inl (by rw [hq]; simp : x ∈ a.q))
  have he' := mem_genE.1 he
  have hnot : e.it ∉ cutI F N p := fun hc => by
    have hu := h.uq hp
    rw [hex] at hc
    exact hu.not_both (List.mem_append_left _ (by rw [hq]; simp : x ∈ a.q)) hc
  have := next_is hF hpn (cut_gen he'.1) hep (by rw [hex]; omega) hnot (fun y hy hyp hyn hyt hlt => by
    rw [hex] at hlt
    have hge : T ≤ y.it.t → False := fun h1 => by unfold It.lt at hlt; omega
    rcases sure_of hm hPT hy hyp with h1 | h1
    · rcases (h.comes hp).2 ⟨y, mem_genE.2 ⟨h1, .inr hyt⟩, hyp, rfl⟩ with h2 | h2 | h2
      · rw [hq] at h2
        rcases List.mem_cons.1 h2 with h3 | h3
        · rw [h3] at hlt; exact It.lt_irrefl x hlt
        · rcases hmin _ h3 with h4 | h4
          · exact hge h4
          · exact It.lt_asymm h4 hlt
      · exact hge (htr _ h2)
      · exact hyn h2
    · exact hge h1)
  rw [hex] at this
  exact this.1

/-- an event is done -/
theorem NInv.did (hm : Right m) (hen : en ≤ 200) (hF : Full m en F C) (h : NInv m en F N s) {p : Nat} {a : NP} (hp : s.ps[p]? = some a) {x : It} {q' : List It} (hq : a.q = x :: q') {T : Int} (hx : x.t < T) (hTe : T ≤ en)
    (hPT : ∀ z ∈ m.links, z.t = (p : Int) → Prom F N z T) (hmin : ∀ y ∈ q', T ≤ y.t ∨ x.lt y) (htr : ∀ y ∈ transit m s.ls p, T ≤ y.t) :
    NInv m en F (fun r => if r = p then N p + 1 else N r) ⟨s.ps.set p { (doP m (p : Int) en a x).1 with q := q' }, send s.ls (doP m (p : Int) en a x).2⟩ ∧ (∀ y ∈ transit m (send s.ls (doP m (p : Int) en a x).2) p, T ≤ y.t) := by
  have hnx := h.next hm hF hp hq hx hTe hPT hmin htr
  have hpl := get_lt hp
  have hpn : p < np m := by rw [← h.lp]; exact hpl
  have hP := h.pi p a hp
  have hc1 : cutI F (fun r => if r = p then N p + 1 else N r) p = cutI F N p ++ [x] := cut_step hnx
  have hc2 : ∀ q, q ≠ p → cutI F (fun r => if r = p then N p + 1 else N r) q = cutI F N q := fun q hqp => cut_other _ hqp
  have hN : ∀ q, N q ≤ (fun r => if r = p then N p + 1 else N r) q := fun q => by
    by_cases e : q = p
    · subst e; simp
    · simp [e]
  have hrun : (runP m (p : Int) (cutI F N p)).1 = a.st ∧ (runP m (p : Int) (cutI F N p)).2 = a.sent := by rw [← hP.run]; exact ⟨rfl, rfl⟩
  have hout : outP m (p : Int) (cutI F N p) x = (ruleOut m (p : Int) a.st a.sent x).1 := by unfold outP; rw [hrun.1, hrun.2]
  obtain ⟨lo, hlo⟩ : ∃ lo, lo = (ruleOut m (p : Int) a.st a.sent x).1 := ⟨_, rfl⟩
  have hlk : ∀ e ∈ lo, ∃ z, m.links[e.k.toNat]? = some z ∧ 0 ≤ e.k ∧ z.f = (p : Int) ∧ linkTo m e.k = z.t ∧ x.t + z.a ≤ e.it.t ∧ e.it.t ≤ x.t + 60 ∧ e.it.f = (p : Int) := fun e he => ruleOut_link hm (by rw [hlo] at he; exact he)
  have ho2 : (doP m (p : Int) en a x).2 = (lo.filter (fun e => decide (e.it.t < en))).map msg := by rw [hlo]; rfl
  rw [ho2]
  have hlk' : ∀ e ∈ lo.filter (fun e => decide (e.it.t < en)), ∃ z, m.links[e.k.toNat]? = some z ∧ linkTo m e.k = z.t := fun e he => by
    obtain ⟨z, h1, _, _, h2, _⟩ := hlk e (List.mem_filter.1 he).1
    exact ⟨z, h1, h2⟩
  have hrng : ∀ y ∈ (lo.filter (fun e => decide (e.it.t < en))).map msg, y.k.toNat < s.ls.length ∧ y.k.toNat < m.links.length := fun y hy => by
    obtain ⟨e, he, rfl⟩ := List.mem_map.1 hy
    obtain ⟨z, h1, _⟩ := hlk' e he
    have := get_lt h1
    exact ⟨by rw [h.ll]; exact this, this⟩
  have htrn : ∀ q, (transit m (send s.ls ((lo.filter (fun e => decide (e.it.t < en))).map msg)) q).Perm (transit m s.ls q ++ atP q ((lo.filter (fun e => decide (e.it.t < en))).map (toEv m ((cutI F N p).length : Int)))) := fun q => by
    unfold transit
    refine (msgs_perm (inbox_send hrng)).trans ?_
    rw [msgs_append, msgs_at (c := ((cutI F N p).length : Int)) hlk']
  have hgen := gen_stepE hm (en := en) hpn hc1 hc2
  rw [hout, ← hlo] at hgen
  have hx0 := hP.tim x (by rw [hq]; simp)
  refine ⟨⟨by simp [h.lp], by simp only; rw [send_length]; exact h.ll, ?_, ?_, ?_, ?_, ?_⟩, ?_⟩
  · intro q hqn
    by_cases e : q = p
    · subst e; simp only [if_true]; have := get_lt hnx; omega
    · simp only [if_neg e]; exact h.nle q hqn
  · intro q b hb
    simp only at hb
    rcases set_get hb with ⟨e1, e2⟩ | ⟨e1, e2⟩
    · subst e1 e2
      refine ⟨?_, ?_, ?_, ?_, hP.hrd, ?_, hP.wys⟩
      · rw [hc1, hist_snoc, ← hP.dn]
        show a.dn ++ [⟨x, (ruleOut m (q : Int) a.st a.sent x).2.1⟩] = _
        unfold stepP
        rw [hrun.1, hrun.2]
      · rw [hc1, runP_snoc, ← hP.run]; rfl
      · rw [hc1]
        have h1 := hP.has
        rw [hq] at h1
        have h2 := htrn q
        have h3 := atP_perm (i := q) hgen
        rw [atP_append] at h3
        refine List.Perm.trans ?_ h3.symm
        refine List.Perm.trans ?_ (h1.append_right _)
        simp only
        haveI : DecidableEq It := fun a b => Classical.propDecidable (a = b)
        rw [List.perm_iff_count] at h2 ⊢
        intro y
        have h2 := h2 y
        simp only [List.count_append, List.count_cons, List.count_nil] at h2 ⊢
        omega
      · intro y hy
        exact hP.tim y (by rw [hq]; simp [show y ∈ q' from hy])
      · intro k z hz hzt
        exact (hP.hrp k z hz hzt).more hN
    · have hQ := h.pi q b e2
      refine ⟨by rw [hc2 q e1]; exact hQ.dn, by rw [hc2 q e1]; exact hQ.run, ?_, hQ.tim, hQ.hrd, fun k z hz hzt => (hQ.hrp k z hz hzt).more hN, hQ.wys⟩
      rw [hc2 q e1]
      have h1 := hQ.has
      have h2 := htrn q
      have h3 := atP_perm (i := q) hgen
      rw [atP_append] at h3
      refine List.Perm.trans ?_ h3.symm
      refine List.Perm.trans ?_ (h1.append_right _)
      simp only
      haveI : DecidableEq It := fun a b => Classical.propDecidable (a = b)
      rw [List.perm_iff_count] at h2 ⊢
      intro y
      have h2 := h2 y
      simp only [List.count_append] at h2 ⊢
      omega
  · intro k z hz y hy
    simp only at hy
    rw [send_get (fun x hx => (hrng x hx).1)] at hy
    rcases List.mem_append.1 hy with hy | hy
    · obtain ⟨h1, h2⟩ := h.lnk k z hz y hy
      refine ⟨h1, ?_⟩
      rcases h2 with h2 | h2 | h2
      · exact .inl h2
      · exact .inr (.inl ⟨h2.1, h2.2.1, h2.2.2.1, h2.2.2.2.more hN⟩)
      · exact .inr (.inr ⟨h2.1, h2.2.more hN⟩)
    · obtain ⟨hy, hyk⟩ := List.mem_filter.1 hy
      simp only [decide_eq_true_eq] at hyk
      obtain ⟨e, he, rfl⟩ := List.mem_map.1 hy
      obtain ⟨he1, he2⟩ := List.mem_filter.1 he
      simp only [decide_eq_true_eq] at he2
      obtain ⟨z', h1, h2, _, _, h3, _⟩ := hlk e he1
      have hza := hm.link h1
      have hyk : e.k.toNat = k := hyk
      exact ⟨by show e.k = _; omega, .inl ⟨rfl, by show 0 ≤ e.it.t; omega, he2⟩⟩
  · have heff : ∀ k : Nat, effo m ⟨s.ps.set p { (doP m (p : Int) en a x).1 with q := q' }, send s.ls ((lo.filter (fun e => decide (e.it.t < en))).map msg)⟩ k = effo m s k := by
      intro k
      unfold effo
      cases hz : m.links[k]? with
      | none => rfl
      | some z =>
        simp only
        rw [send_get (fun x hx => (hrng x hx).1)]
        have hl : ∀ c, lastHr c (s.ls.getD k [] ++ ((lo.filter (fun e => decide (e.it.t < en))).map msg).filter (fun x => decide (x.k.toNat = k))) = lastHr c (s.ls.getD k []) := fun c => by
          rw [lastHr_append]
          refine lastHr_msgs _ _ (fun y hy => ?_)
          obtain ⟨e, _, rfl⟩ := List.mem_map.1 (List.mem_filter.1 hy).1
          rfl
        by_cases e : z.t.toNat = p
        · rw [e, List.getElem?_set_self hpl, hp]
          simp only
          rw [hl]; rfl
        · rw [List.getElem?_set_ne (by omega)]
          cases s.ps[z.t.toNat]? with
          | none => rfl
          | some b => simp only; rw [hl]
    intro q b hb w hw
    have hbw : ∃ b', s.ps[q]? = some b' ∧ b'.ws = b.ws := by
      rcases set_get hb with ⟨e1, e2⟩ | ⟨e1, e2⟩
      · subst e1 e2; exact ⟨a, hp, rfl⟩
      · exact ⟨b, e2, rfl⟩
    obtain ⟨b', hb', hbw⟩ := hbw
    have := h.sad q b' hb' w (by rw [hbw]; exact hw)
    unfold SadOk effm at this ⊢
    rw [heff]
    exact this
  · intro q i y hqn hi hy z hz hzt
    by_cases e : q = p
    · subst e
      simp only [if_true] at hi
      by_cases e2 : i = N q
      · subst e2
        rw [hnx] at hy
        cases hy
        exact ((hPT z hz hzt).less (by omega)).more hN
      · exact (h.kn q i y hqn (by omega) hy z hz hzt).more hN
    · simp only [if_neg e] at hi
      exact (h.kn q i y hqn hi hy z hz hzt).more hN
  · intro y hy
    rcases List.mem_append.1 ((htrn p).mem_iff.1 hy) with h1 | h1
    · exact htr y h1
    · obtain ⟨e, he, hep, rfl⟩ := mem_atP.1 h1
      obtain ⟨e', he', rfl⟩ := List.mem_map.1 he
      obtain ⟨z, h2, _, h3, h4, h5, _⟩ := hlk e' (List.mem_filter.1 he').1
      have hzt : z.t = (p : Int) := by rw [← h4]; exact hep
      have := hPT z (List.mem_of_getElem? h2) hzt (N p) x (by rw [h3]; simp) (by rw [h3]; simpa using hnx)
      show T ≤ e'.it.t
      omega

end

end Go.Proofs.Ytaieackeflmhgaa

namespace Go.Proofs.Ytaieackeflmhgaa
open Go.RowKit Go.Sort Go.Maps

/-! ### the links that begin at a process -/
theorem way1_some {m : Mdl} {p : Int} {j : Nat} {w : Wy} (h : way1 m p j = some w) : ∃ z, m.links[j]? = some z ∧ z.f = p ∧ w.k = (j : Int) ∧ w.a = z.a ∧ w.said = -1 := by
  unfold way1 at h
  cases hz : m.links[j]? with
  | none => rw [hz] at h; cases h
  | some z =>
    rw [hz] at h
    simp only at h
    split at h
    · rename_i hf
      cases h
      exact ⟨z, rfl, hf, rfl, rfl, rfl⟩
    · cases h
theorem ways0_mem {m : Mdl} {p : Int} {n : Nat} {w : Wy} (h : w ∈ ways0 m p n) : ∃ (j : Nat) (z : MLink), j < n ∧ m.links[j]? = some z ∧ z.f = p ∧ w.k = (j : Int) ∧ w.a = z.a ∧ w.said = -1 := by
  unfold ways0 at h
  obtain ⟨j, hj, hw⟩ := List.mem_filterMap.1 h
  obtain ⟨z, h1, h2, h3, h4⟩ := way1_some hw
  exact ⟨j, z, by simpa using hj, h1, h2, h3, h4⟩
theorem ways0_keys (m : Mdl) (p : Int) : ∀ n : Nat, (ways0 m p n).Pairwise (fun a b => a.k ≠ b.k)
  | 0 => List.Pairwise.nil
  | n + 1 => by
    rw [ways0_succ]
    rw [List.pairwise_append]
    refine ⟨ways0_keys m p n, ?_, fun a ha b hb => ?_⟩
    · cases way1 m p n <;> simp
    · obtain ⟨j, z, hj, _, _, h1, _⟩ := ways0_mem ha
      have hb : way1 m p n = some b := by simpa using hb
      obtain ⟨_, _, _, h2, _⟩ := way1_some hb
      omega

section
variable {m : Mdl} {en : Int} {F : Nat → List It} {C : Nat → List Int} {N : Nat → Nat} {s : NS}

theorem PI.ways {ls : List (List Pcl)} {p : Nat} {a : NP} (h : PI m en F N ls p a) {w : Wy} (hw : w ∈ a.ws) : ∃ (j : Nat) (z : MLink), m.links[j]? = some z ∧ z.f = (p : Int) ∧ w.k = (j : Int) ∧ w.a = z.a := by
  have h1 : (w.k, w.a) ∈ (ways0 m (p : Int) m.links.length).map (fun w => (w.k, w.a)) := by
    rw [← h.wys]; exact List.mem_map.2 ⟨w, hw, rfl⟩
  obtain ⟨w0, h2, h3⟩ := List.mem_map.1 h1
  obtain ⟨j, z, _, h4, h5, h6, h7, _⟩ := ways0_mem h2
  simp only [Prod.mk.injEq] at h3
  exact ⟨j, z, h4, h5, by omega, by omega⟩
theorem PI.wkeys {ls : List (List Pcl)} {p : Nat} {a : NP} (h : PI m en F N ls p a) : a.ws.Pairwise (fun a b => a.k ≠ b.k) := by
  have h1 : (a.ws.map (fun w => (w.k, w.a))).Pairwise (fun a b => a.1 ≠ b.1) := by
    rw [h.wys, List.pairwise_map]; exact ways0_keys m _ _
  rw [List.pairwise_map] at h1
  exact h1
/-- every link that begins at p is one of its ways -/
theorem PI.way_of {ls : List (List Pcl)} {p : Nat} {a : NP} (h : PI m en F N ls p a) {j : Nat} {z : MLink} (hz : m.links[j]? = some z) (hf : z.f = (p : Int)) : ∃ w ∈ a.ws, w.k = (j : Int) ∧ w.a = z.a := by
  have h1 : ((j : Int), z.a) ∈ a.ws.map (fun w => (w.k, w.a)) := by
    rw [h.wys]
    refine List.mem_map.2 ⟨⟨(j : Int), z.a, -1⟩, ?_, rfl⟩
    unfold ways0
    refine List.mem_filterMap.2 ⟨j, by simpa using get_lt hz, ?_⟩
    unfold way1
    rw [hz]
    simp [hf]
  obtain ⟨w, h2, h3⟩ := List.mem_map.1 h1
  simp only [Prod.mk.injEq] at h3
  exact ⟨w, h2, h3.1, h3.2⟩

/-! ### words -/
theorem wyP_k (en T : Int) (w : Wy) : (wyP en T w).k = w.k ∧ ((wyP en T w).kd = 1 ∨ (wyP en T w).kd = 2) := by
  unfold wyP
  split
  · exact ⟨rfl, .inr rfl⟩
  · exact ⟨rfl, .inl rfl⟩
theorem mem_wyO {en T : Int} {l : List Wy} {y : Pcl} (h : y ∈ wyO en T l) : ∃ w ∈ l, w.said < wyT en T w ∧ y = wyP en T w := by
  unfold wyO at h
  obtain ⟨w, hw, rfl⟩ := List.mem_map.1 h
  obtain ⟨h1, h2⟩ := List.mem_filter.1 hw
  exact ⟨w, h1, by simpa using h2, rfl⟩
theorem wyO_cons (en T : Int) (v : Wy) (l : List Wy) : wyO en T (v :: l) = (if v.said < wyT en T v then [wyP en T v] else []) ++ wyO en T l := by
  unfold wyO
  by_cases h : v.said < wyT en T v <;> simp [h]
theorem wyO_none {en T : Int} {l : List Wy} {j : Nat} (h : ∀ v ∈ l, v.k.toNat ≠ j) : (wyO en T l).filter (fun x => decide (x.k.toNat = j)) = [] := by
  rw [List.filter_eq_nil_iff]
  intro y hy
  obtain ⟨w, hw, _, rfl⟩ := mem_wyO hy
  have := h w hw
  rw [(wyP_k en T w).1]
  simpa using this
theorem wyO_one {en T : Int} : ∀ {l : List Wy} {w : Wy}, (∀ v ∈ l, 0 ≤ v.k) → l.Pairwise (fun a b => a.k ≠ b.k) → w ∈ l → (wyO en T l).filter (fun x => decide (x.k.toNat = w.k.toNat)) = if w.said < wyT en T w then [wyP en T w] else []
  | [], w, _, _, h => by simp at h
  | v :: l, w, h0, hp, h => by
    have hp' := List.pairwise_cons.1 hp
    have hw0 := h0 w h
    have hv0 := h0 v (by simp)
    rw [wyO_cons, List.filter_append]
    rcases List.mem_cons.1 h with e | hl
    · subst e
      rw [wyO_none (fun u hu => by have h1 := hp'.1 u hu; have h2 := h0 u (by simp [hu]); omega), List.append_nil]
      by_cases h1 : w.said < wyT en T w
      · rw [if_pos h1, List.filter_cons_of_pos (by rw [(wyP_k en T w).1]; simp)]; rfl
      · rw [if_neg h1]; rfl
    · have hne := hp'.1 w hl
      have h2 : (if v.said < wyT en T v then [wyP en T v] else []).filter (fun x => decide (x.k.toNat = w.k.toNat)) = [] := by
        rw [List.filter_eq_nil_iff]
        intro y hy
        split at hy
        · have hy : y = wyP en T v := by simpa using hy
          subst hy
          rw [(wyP_k en T v).1]
          simp; omega
        · simp at hy
      rw [h2, List.nil_append]
      exact wyO_one (fun u hu => h0 u (by simp [hu])) hp'.2 hl

/-- the words are said -/
theorem NInv.saidAll (hm : Right m) (hen0 : 0 ≤ en) (h : NInv m en F N s) {p : Nat} {a : NP} (hp : s.ps[p]? = some a) {T : Int} (hT0 : 0 ≤ T)
    (hlate : ∀ (i : Nat) (x : It), N p ≤ i → (F p)[i]? = some x → T ≤ x.t) :
    NInv m en F N ⟨s.ps.set p { a with ws := a.ws.map (wyN en T) }, send s.ls (wyO en T a.ws)⟩ ∧ ∀ k, k < m.links.length → effm m en s k ≤ effm m en ⟨s.ps.set p { a with ws := a.ws.map (wyN en T) }, send s.ls (wyO en T a.ws)⟩ k := by
  have hpl := get_lt hp
  have hP := h.pi p a hp
  have hw0 : ∀ v ∈ a.ws, 0 ≤ v.k := fun v hv => by obtain ⟨j, _, _, _, h1, _⟩ := hP.ways hv; omega
  have hrng : ∀ y ∈ wyO en T a.ws, y.k.toNat < s.ls.length ∧ y.k.toNat < m.links.length := fun y hy => by
    obtain ⟨w, hw, _, rfl⟩ := mem_wyO hy
    obtain ⟨j, z, h1, _, h2, _⟩ := hP.ways hw
    rw [(wyP_k en T w).1, h.ll]
    have := get_lt h1
    omega
  have htrn : ∀ q, (transit m (send s.ls (wyO en T a.ws)) q).Perm (transit m s.ls q) := fun q => by
    unfold transit
    refine (msgs_perm (inbox_send hrng)).trans ?_
    rw [msgs_append]
    have : msgs ((wyO en T a.ws).filter (fun x => leads m q x.k.toNat)) = [] := by
      unfold msgs
      rw [List.map_eq_nil_iff, List.filter_eq_nil_iff]
      intro y hy
      obtain ⟨w, _, _, rfl⟩ := mem_wyO (List.mem_filter.1 hy).1
      have := (wyP_k en T w).2
      simp; omega
    rw [this, List.append_nil]
  have hget := fun k => send_get (ls := s.ls) (fun x hx => (hrng x hx).1) k
  -- what the receivers will have heard
  have heff : ∀ k, k < m.links.length → effo m ⟨s.ps.set p { a with ws := a.ws.map (wyN en T) }, send s.ls (wyO en T a.ws)⟩ k = lastHr (effo m s k) ((wyO en T a.ws).filter (fun x => decide (x.k.toNat = k))) := by
    intro k hk
    obtain ⟨z, hz⟩ := get_of_lt hk
    have hzb := hm.link hz
    unfold effo
    rw [hz]
    simp only
    rw [hget k]
    obtain ⟨b, hb⟩ := get_of_lt (d := s.ps) (k := z.t.toNat) (by rw [h.lp]; unfold np; omega)
    by_cases e : z.t.toNat = p
    · rw [e, List.getElem?_set_self hpl, hp]
      simp only
      rw [lastHr_append]
    · rw [List.getElem?_set_ne (by omega), hb]
      simp only
      rw [lastHr_append]
  have hsame : ∀ k, k < m.links.length → (∀ v ∈ a.ws, v.k.toNat ≠ k) → effm m en ⟨s.ps.set p { a with ws := a.ws.map (wyN en T) }, send s.ls (wyO en T a.ws)⟩ k = effm m en s k := fun k hk hv => by
    unfold effm
    rw [heff k hk, wyO_none hv]; rfl
  have hway : ∀ w ∈ a.ws, (w.said < wyT en T w → effm m en ⟨s.ps.set p { a with ws := a.ws.map (wyN en T) }, send s.ls (wyO en T a.ws)⟩ w.k.toNat = wyT en T w) ∧ (¬ w.said < wyT en T w → effm m en ⟨s.ps.set p { a with ws := a.ws.map (wyN en T) }, send s.ls (wyO en T a.ws)⟩ w.k.toNat = effm m en s w.k.toNat) := fun w hw => by
    obtain ⟨j, z, h1, _, h2, _⟩ := hP.ways hw
    have hk : w.k.toNat < m.links.length := by have := get_lt h1; omega
    unfold effm
    rw [heff _ hk, wyO_one hw0 hP.wkeys hw]
    refine ⟨fun hlt => ?_, fun hlt => ?_⟩
    · rw [if_pos hlt]
      have htop : wyT en T w ≤ en := by unfold wyT; omega
      unfold wyP lastHr
      by_cases e : wyT en T w = en
      · rw [if_pos e]; simp; omega
      · rw [if_neg e]; simp; omega
    · rw [if_neg hlt]; rfl
  have htime : ∀ w ∈ a.ws, 0 ≤ wyT en T w ∧ min w.a en ≤ wyT en T w ∧ wyT en T w ≤ en := fun w hw => by
    obtain ⟨j, z, h1, _, h2, h3⟩ := hP.ways hw
    have := hm.link h1
    unfold wyT; omega
  refine ⟨⟨by simp [h.lp], by simp only; rw [send_length]; exact h.ll, h.nle, ?_, ?_, ?_, h.kn⟩, ?_⟩
  · intro q b hb
    simp only at hb
    rcases set_get hb with ⟨e1, e2⟩ | ⟨e1, e2⟩
    · subst e1 e2
      refine ⟨hP.dn, hP.run, ?_, hP.tim, hP.hrd, hP.hrp, ?_⟩
      · exact (((List.Perm.refl _).append (htrn q)).append_right _).trans hP.has
      · show (a.ws.map (wyN en T)).map _ = _
        rw [List.map_map, ← hP.wys]
        refine List.map_congr_left (fun w _ => ?_)
        show ((wyN en T w).k, (wyN en T w).a) = (w.k, w.a)
        unfold wyN
        split <;> rfl
    · have hQ := h.pi q b e2
      exact ⟨hQ.dn, hQ.run, (((List.Perm.refl _).append (htrn q)).append_right _).trans hQ.has, hQ.tim, hQ.hrd, hQ.hrp, hQ.wys⟩
  · intro k z hz y hy
    simp only at hy
    rw [hget k] at hy
    rcases List.mem_append.1 hy with hy | hy
    · exact h.lnk k z hz y hy
    · obtain ⟨hy, hyk⟩ := List.mem_filter.1 hy
      obtain ⟨w, hw, hws, rfl⟩ := mem_wyO hy
      rw [(wyP_k en T w).1] at hyk
      simp only [decide_eq_true_eq] at hyk
      obtain ⟨j, z', h1, h2, h3, h4⟩ := hP.ways hw
      have ejk : j = k := by omega
      subst ejk
      rw [hz] at h1; cases h1
      have ht := htime w hw
      have hprom : Prom F N z (wyT en T w) := fun i x hi hx => by
        rw [h2] at hi hx
        have := hlate i x (by simpa using hi) (by simpa using hx)
        unfold wyT; omega
      refine ⟨by rw [(wyP_k en T w).1]; exact h3, ?_⟩
      unfold wyP
      by_cases e : wyT en T w = en
      · rw [if_pos e]
        exact .inr (.inr ⟨rfl, by rw [← e]; exact hprom⟩)
      · rw [if_neg e]
        exact .inr (.inl ⟨rfl, ht.1, by show wyT en T w < en; omega, hprom⟩)
  · intro q b hb w hw
    simp only at hb
    rcases set_get hb with ⟨e1, e2⟩ | ⟨e1, e2⟩
    · subst e1 e2
      have hw : w ∈ a.ws.map (wyN en T) := hw
      obtain ⟨w0, hw0', rfl⟩ := List.mem_map.1 hw
      have ht := htime w0 hw0'
      have hwy := hway w0 hw0'
      have hold := h.sad q a hp w0 hw0'
      unfold SadOk at hold ⊢
      by_cases hlt : w0.said < wyT en T w0
      · have e3 : wyN en T w0 = { w0 with said := wyT en T w0 } := by unfold wyN; rw [if_pos hlt]
        rw [e3]
        simp only
        rw [hwy.1 hlt]
        omega
      · have e3 : wyN en T w0 = w0 := by unfold wyN; rw [if_neg hlt]
        rw [e3, hwy.2 hlt]
        exact hold
    · have hold := h.sad q b e2 w hw
      obtain ⟨j, z, h1, h2, h3, _⟩ := (h.pi q b e2).ways hw
      have hjl := get_lt h1
      unfold SadOk at hold ⊢
      rw [hsame _ (by omega) (fun v hv => by
        obtain ⟨j', z', h1', h2', h3', _⟩ := hP.ways hv
        intro e
        have : j' = j := by omega
        subst this
        rw [h1] at h1'; cases h1'; omega)]
      exact hold
  · intro k hk
    by_cases hv : ∃ v ∈ a.ws, v.k.toNat = k
    · obtain ⟨v, hv, rfl⟩ := hv
      have ht := htime v hv
      have hold := h.sad p a hp v hv
      unfold SadOk at hold
      by_cases hlt : v.said < wyT en T v
      · rw [(hway v hv).1 hlt]; omega
      · rw [(hway v hv).2 hlt]; exact Int.le_refl _
    · rw [hsame k hk (fun v hv' e => hv ⟨v, hv', e⟩)]; exact Int.le_refl _

/-! ### events, one behind the other -/
theorem effo_ext {s s' : NS} (hl : s'.ls = s.ls) (hh : ∀ q : Nat, (s'.ps[q]?).map NP.hr = (s.ps[q]?).map NP.hr) (k : Nat) : effo m s' k = effo m s k := by
  unfold effo
  cases m.links[k]? with
  | none => rfl
  | some z =>
    simp only
    have := hh z.t.toNat
    cases h1 : s'.ps[z.t.toNat]? with
    | none =>
      rw [h1] at this
      cases h2 : s.ps[z.t.toNat]? with
      | none => rfl
      | some b => rw [h2] at this; cases this
    | some b' =>
      rw [h1] at this
      cases h2 : s.ps[z.t.toNat]? with
      | none => rw [h2] at this; cases this
      | some b =>
        rw [h2] at this
        simp only [Option.map_some, Option.some.injEq] at this
        simp only
        rw [this, hl]

theorem NInv.didAll (hm : Right m) (hen : en ≤ 200) (hF : Full m en F C) {p : Nat} {T : Int} (hTe : T ≤ en) {rest : List It} (hrest : ∀ y ∈ rest, T ≤ y.t) : ∀ (l : List It) {N : Nat → Nat} {s : NS} {a : NP}, NInv m en F N s → s.ps[p]? = some a → a.q = l ++ rest → l.Pairwise It.lt → (∀ x ∈ l, x.t < T) →
    (∀ z ∈ m.links, z.t = (p : Int) → Prom F N z T) → (∀ y ∈ transit m s.ls p, T ≤ y.t) →
    ∃ N' : Nat → Nat, NInv m en F N' ⟨s.ps.set p { (doAll m (p : Int) en l (a, [])).1 with q := rest }, send s.ls (doAll m (p : Int) en l (a, [])).2⟩ ∧ (∀ q, q ≠ p → N' q = N q) ∧ N' p = N p + l.length ∧ (∀ y ∈ transit m (send s.ls (doAll m (p : Int) en l (a, [])).2) p, T ≤ y.t)
  | [], N, s, a, h, hp, hq, _, _, _, htr => by
    refine ⟨N, ?_, fun _ _ => rfl, rfl, htr⟩
    have e : s.ps.set p { a with q := rest } = s.ps := by
      have : ({ a with q := rest } : NP) = a := by rw [List.nil_append] at hq; rw [← hq]
      rw [this]; exact set_same hp
    show NInv m en F N ⟨s.ps.set p { a with q := rest }, s.ls⟩
    rw [e]; exact h
  | x :: l, N, s, a, h, hp, hq, hs, hlt, hPT, htr => by
    have hs' := List.pairwise_cons.1 hs
    have hpl := get_lt hp
    obtain ⟨h1, htr1⟩ := h.did hm hen hF hp (q' := l ++ rest) hq (hlt x (by simp)) hTe hPT (fun y hy => by
      rcases List.mem_append.1 hy with hy | hy
      · exact .inr (hs'.1 y hy)
      · exact .inl (hrest y hy)) htr
    have hN : ∀ q, N q ≤ (fun r => if r = p then N p + 1 else N r) q := fun q => by
      by_cases e : q = p
      · subst e; simp
      · simp [e]
    obtain ⟨N', h2, h3, h4, h5⟩ := NInv.didAll hm hen hF hTe hrest l h1 (List.getElem?_set_self hpl) rfl hs'.2 (fun y hy => hlt y (by simp [hy])) (fun z hz hzt => (hPT z hz hzt).more hN) htr1
    have e1 : doAll m (p : Int) en (x :: l) (a, []) = ((doAll m (p : Int) en l ((doP m (p : Int) en a x).1, [])).1, (doP m (p : Int) en a x).2 ++ (doAll m (p : Int) en l ((doP m (p : Int) en a x).1, [])).2) := by
      show doAll m (p : Int) en l ((doP m (p : Int) en a x).1, [] ++ (doP m (p : Int) en a x).2) = _
      rw [List.nil_append, doAll_out]
    have e2 := doAll_q m (p : Int) en (l ++ rest) l (doP m (p : Int) en a x).1 []
    refine ⟨N', ?_, fun q hq => ?_, ?_, ?_⟩
    · rw [e1]
      simp only at h2 ⊢
      rw [e2, List.set_set] at h2
      rw [send_append]
      exact h2
    · rw [h3 q hq]; simp [hq]
    · rw [h4]; simp; omega
    · rw [e1]
      simp only at h5 ⊢
      rw [e2] at h5
      rw [send_append]
      exact h5

end

end Go.Proofs.Ytaieackeflmhgaa

namespace Go.Proofs.Ytaieackeflmhgaa
open Go.RowKit Go.Sort Go.Maps

section
variable {m : Mdl} {en : Int} {F : Nat → List It} {C : Nat → List Int} {N : Nat → Nat} {s : NS}

theorem effo_msgs {p : Nat} {a a' : NP} (hp : s.ps[p]? = some a) (hh : a'.hr = a.hr) {o : List Pcl} (ho : ∀ y ∈ o, y.kd = 0) (hr : ∀ y ∈ o, y.k.toNat < s.ls.length) (k : Nat) : effo m ⟨s.ps.set p a', send s.ls o⟩ k = effo m s k := by
  have hpl := get_lt hp
  unfold effo
  cases hz : m.links[k]? with
  | none => rfl
  | some z =>
    simp only
    rw [send_get hr]
    have hl : ∀ c, lastHr c (s.ls.getD k [] ++ o.filter (fun x => decide (x.k.toNat = k))) = lastHr c (s.ls.getD k []) := fun c => by
      rw [lastHr_append]
      exact lastHr_msgs _ _ (fun y hy => ho y (List.mem_filter.1 hy).1)
    by_cases e : z.t.toNat = p
    · rw [e, List.getElem?_set_self hpl, hp]
      simp only
      rw [hl, hh]
    · rw [List.getElem?_set_ne (by omega)]
      cases s.ps[z.t.toNat]? with
      | none => rfl
      | some b => simp only; rw [hl]
theorem effo_deliver (hm : Right m) (h : NInv m en F N s) {p : Nat} {a : NP} (hp : s.ps[p]? = some a) (k : Nat) : effo m ⟨s.ps.set p (taken m s.ls p m.links.length a), drain m s.ls p m.links.length⟩ k = effo m s k := by
  have hpl := get_lt hp
  unfold effo
  cases hz : m.links[k]? with
  | none => rfl
  | some z =>
    simp only
    have hzb := hm.link hz
    have hdr : (drain m s.ls p m.links.length).getD k [] = if leads m p k = true then [] else s.ls.getD k [] := by
      rw [drain_get]
      by_cases e : leads m p k = true <;> simp [e, get_lt hz]
    by_cases e : z.t.toNat = p
    · rw [e, List.getElem?_set_self hpl, hp]
      simp only
      have hl : leads m p k = true := leads_iff.2 ⟨z, hz, by omega⟩
      rw [hdr, if_pos hl, h.taken_hr k (get_lt hz), boxI_leads hl]
      rfl
    · rw [List.getElem?_set_ne (by omega)]
      have hl : ¬ leads m p k = true := fun hl => by
        obtain ⟨z', hz', hzt⟩ := leads_iff.1 hl
        rw [hz] at hz'; cases hz'; omega
      rw [hdr, if_neg hl]

theorem doAll_msgs (m : Mdl) (num en : Int) (hm : Right m) : ∀ (l : List It) (a : NP), ∀ y ∈ (doAll m num en l (a, [])).2, y.kd = 0 ∧ y.k.toNat < m.links.length
  | [], _, y, hy => by simp [doAll] at hy
  | x :: l, a, y, hy => by
    have e1 : doAll m num en (x :: l) (a, []) = doAll m num en l ((doP m num en a x).1, (doP m num en a x).2) := rfl
    rw [e1, doAll_out] at hy
    rcases List.mem_append.1 hy with hy | hy
    · unfold doP at hy
      obtain ⟨e, he, rfl⟩ := List.mem_map.1 hy
      obtain ⟨z, h1, _⟩ := ruleOut_link hm (List.mem_filter.1 he).1
      exact ⟨rfl, get_lt h1⟩
    · exact doAll_msgs m num en hm l _ y hy
theorem doAll_len (m : Mdl) (num en : Int) (hm : Right m) : ∀ (l : List It) (a : NP), (∀ x ∈ l, 0 ≤ x.t ∧ x.t < 200) → (doAll m num en l (a, [])).2.length ≤ 4 * l.length
  | [], _, _ => by simp [doAll]
  | x :: l, a, h => by
    have e1 : doAll m num en (x :: l) (a, []) = doAll m num en l ((doP m num en a x).1, (doP m num en a x).2) := rfl
    rw [e1, doAll_out]
    have h1 := doAll_len m num en hm l (doP m num en a x).1 (fun y hy => h y (by simp [hy]))
    have h2 : (doP m num en a x).2.length ≤ 4 := by
      unfold doP
      rw [List.length_map]
      have hx := h x (by simp)
      exact Nat.le_trans (List.length_filter_le _ _) (ruleOut_ok hm hx.1 hx.2).1
    simp only [List.length_append, List.length_cons]
    omega

/-- how far p is sure, when all is taken in -/
def sureOf (m : Mdl) (en : Int) (s : NS) (p : Nat) (a : NP) : Int := hz en (taken m s.ls p m.links.length a).hr

theorem NInv.hzIs (hm : Right m) (h : NInv m en F N s) {p : Nat} {a : NP} (hp : s.ps[p]? = some a) : IsHz en a.hr (hz en a.hr) := by
  refine hz_is (fun k c hk => ?_)
  obtain ⟨h1, h2, _⟩ := (h.pi p a hp).hrd k c hk
  obtain ⟨z, hz, _⟩ := leads_iff.1 h2
  have := get_lt hz
  have := hm.lim.nl
  exact ⟨h1, by omega⟩

/-- THE STEP: what is kept and what grows -/
structure Went (m : Mdl) (en : Int) (F : Nat → List It) (N N' : Nat → Nat) (s s' : NS) (p : Nat) (a : NP) : Prop where
  inv : NInv m en F N' s'
  oth : ∀ q, q ≠ p → N' q = N q
  mine : N' p = N p + (toDo en (taken m s.ls p m.links.length a)).length
  eff : ∀ k, k < m.links.length → effm m en s k ≤ effm m en s' k
  ways : ∀ b, s'.ps[p]? = some b → ∀ w ∈ b.ws, min (sureOf m en s p a + w.a) en ≤ w.said
  rest : ∀ b, s'.ps[p]? = some b → ∀ x ∈ b.q, sureOf m en s p a ≤ x.t
  same : ∀ q, q ≠ p → s'.ps[q]? = s.ps[q]?

theorem NInv.went (hm : Right m) (hen0 : 0 ≤ en) (hen : en ≤ 200) (hF : Full m en F C) (h : NInv m en F N s) {p : Nat} {a : NP} (hp : s.ps[p]? = some a) : ∃ N', Went m en F N N' s (goOn m en s p) p a := by
  have hpl := get_lt hp
  have hpn : p < np m := by rw [← h.lp]; exact hpl
  have h1 := h.deliver hm hen hp
  obtain ⟨b, hb⟩ : ∃ b, b = taken m s.ls p m.links.length a := ⟨_, rfl⟩
  obtain ⟨T, hT⟩ : ∃ T, T = hz en b.hr := ⟨_, rfl⟩
  rw [← hb] at h1
  have hp1 : (⟨s.ps.set p b, drain m s.ls p m.links.length⟩ : NS).ps[p]? = some b := List.getElem?_set_self hpl
  have hHz := h1.hzIs hm hp1
  rw [← hT] at hHz
  have hP1 := h1.pi p b hp1
  have hT0 : 0 ≤ T := by
    rcases hHz.one with e | ⟨k, hk⟩
    · omega
    · exact (hP1.hrd k T hk).2.2.1
  have hPT : ∀ z ∈ m.links, z.t = (p : Int) → Prom F N z T := fun z hz hzt => by
    obtain ⟨k, hk⟩ := List.getElem?_of_mem hz
    have h2 := hP1.hrp k z hk hzt
    cases hc : b.hr (k : Int) with
    | none => rw [hc] at h2; exact h2.less hHz.top
    | some c => rw [hc] at h2; exact h2.less (hHz.low _ _ hc)
  have htr0 : transit m (drain m s.ls p m.links.length) p = [] := by
    unfold transit; rw [inbox_drain, if_pos rfl]; rfl
  -- the queue parted
  have hperm : b.q.Perm (toDo en b ++ left_ en b) := by
    unfold toDo left_
    refine List.Perm.trans ?_ ((srtI_perm _).symm.append_right _)
    have := List.filter_append_perm (fun x : It => decide (x.t < hz en b.hr)) b.q
    refine this.symm.trans (List.Perm.append_left _ (List.Perm.of_eq (List.filter_congr (fun x _ => ?_))))
    by_cases e : x.t < hz en b.hr <;> simp [e]
  have hlt : ∀ x ∈ toDo en b, x.t < T := fun x hx => by
    have := List.mem_filter.1 ((srtI_perm _).mem_iff.1 hx)
    rw [hT]; simpa using this.2
  have hrest : ∀ x ∈ left_ en b, T ≤ x.t := fun x hx => by
    have := (List.mem_filter.1 hx).2
    rw [hT]
    simp only [decide_eq_true_eq] at this
    omega
  have hsrt : (toDo en b).Pairwise It.lt := by
    refine srtI_srt ?_
    refine (h1.uq hp1).sub ?_
    exact (List.filter_sublist.trans (List.sublist_append_left _ _)).trans (List.sublist_append_left _ _)
  have h2 := h1.permq hp1 hperm
  have hp2 : (⟨(s.ps.set p b).set p { b with q := toDo en b ++ left_ en b }, drain m s.ls p m.links.length⟩ : NS).ps[p]? = some { b with q := toDo en b ++ left_ en b } := List.getElem?_set_self (by simpa using hpl)
  obtain ⟨N', h3, hoth, hmine, htr3⟩ := NInv.didAll hm hen hF hHz.top hrest (toDo en b) h2 hp2 rfl hsrt hlt hPT (fun y hy => by simp only at hy; rw [htr0] at hy; simp at hy)
  simp only [List.set_set] at h3 htr3
  rw [doAll_q m (p : Int) en (toDo en b ++ left_ en b) (toDo en b) b []] at h3 htr3
  simp only at h3 htr3
  obtain ⟨o, ho⟩ : ∃ o, o = (doAll m (p : Int) en (toDo en b) (b, [])).2 := ⟨_, rfl⟩
  obtain ⟨d, hd⟩ : ∃ d : NP, d = { (doAll m (p : Int) en (toDo en b) (b, [])).1 with q := left_ en b } := ⟨_, rfl⟩
  have hd3 : (⟨s.ps.set p d, send (drain m s.ls p m.links.length) o⟩ : NS).ps[p]? = some d := List.getElem?_set_self hpl
  rw [← ho, ← hd] at h3
  rw [← ho] at htr3
  have hkeep := doAll_keep m (p : Int) en (toDo en b) (b, [])
  have hdws : d.ws = b.ws := by rw [hd]; exact hkeep.2.2.1
  have hdhr : d.hr = b.hr := by rw [hd]; exact hkeep.2.1
  have hdq : d.q = left_ en b := by rw [hd]
  have hPT' : ∀ z ∈ m.links, z.t = (p : Int) → Prom F N' z T := fun z hz hzt => (hPT z hz hzt).more (fun q => by
    by_cases e : q = p
    · subst e; rw [hmine]; omega
    · rw [hoth q e]; exact Nat.le_refl _)
  have hlate : ∀ (i : Nat) (x : It), N' p ≤ i → (F p)[i]? = some x → T ≤ x.t := fun i x hi hx => by
    have := later_of hm hF hpn hPT' (L := T) (fun y hy hyp hyn hyt => by
      rcases (h3.comes hd3).2 ⟨y, mem_genE.2 ⟨hy, .inr hyt⟩, hyp, rfl⟩ with h4 | h4 | h4
      · rw [hdq] at h4; exact hrest _ h4
      · exact htr3 _ h4
      · exact absurd h4 hyn) i x hi hx
    exact this.elim id id
  obtain ⟨h4, heff⟩ := h3.saidAll hm hen0 hd3 hT0 hlate
  simp only [List.set_set] at h4 heff
  have hgo : goOn m en s p = ⟨s.ps.set p { d with ws := d.ws.map (wyN en T) }, send (send (drain m s.ls p m.links.length) o) (wyO en T d.ws)⟩ := by
    unfold goOn
    rw [hp]
    simp only
    rw [← hb]
    unfold advP
    simp only
    rw [doAll_q m (p : Int) en (left_ en b) (toDo en b) b []]
    simp only
    rw [hdws, hd, ho, hT, send_append]
  have hsure : sureOf m en s p a = T := by unfold sureOf; rw [← hb, hT]
  have heff1 : ∀ k, effm m en ⟨s.ps.set p d, send (drain m s.ls p m.links.length) o⟩ k = effm m en s k := fun k => by
    unfold effm
    have e1 := effo_msgs (m := m) hp1 (a' := d) hdhr (o := o) (fun y hy => by rw [ho] at hy; exact (doAll_msgs m _ en hm _ _ y hy).1) (fun y hy => by rw [ho] at hy; rw [h1.ll]; exact (doAll_msgs m _ en hm _ _ y hy).2) k
    simp only [List.set_set] at e1
    rw [e1, hb, effo_deliver hm h hp k]
  refine ⟨N', ⟨?_, hoth, ?_, ?_, ?_, ?_, ?_⟩⟩
  · rw [hgo]; exact h4
  · rw [← hb]; exact hmine
  · intro k hk
    rw [hgo, ← heff1 k]
    exact heff k hk
  · intro c hc w hw
    rw [hgo] at hc
    simp only [List.getElem?_set_self hpl, Option.some.injEq] at hc
    subst hc
    have hw : w ∈ d.ws.map (wyN en T) := hw
    obtain ⟨w0, _, rfl⟩ := List.mem_map.1 hw
    rw [hsure]
    have hlt : wyT en T w0 = min (T + w0.a) en := rfl
    unfold wyN
    by_cases e : w0.said < wyT en T w0
    · rw [if_pos e]; show min (T + w0.a) en ≤ wyT en T w0; omega
    · rw [if_neg e]; omega
  · intro c hc x hx
    rw [hgo] at hc
    simp only [List.getElem?_set_self hpl, Option.some.injEq] at hc
    subst hc
    have hx : x ∈ d.q := hx
    rw [hdq] at hx
    rw [hsure]
    exact hrest x hx
  · intro q hq
    rw [hgo]
    simp only
    rw [List.getElem?_set_ne (by omega)]

end

end Go.Proofs.Ytaieackeflmhgaa

namespace Go.Proofs.Ytaieackeflmhgaa
open Go.RowKit Go.Sort Go.Maps

/-! ### a number that falls -/
def sumN (l : List Nat) : Nat := l.foldr (· + ·) 0
theorem sumN_cons (x : Nat) (l : List Nat) : sumN (x :: l) = x + sumN l := rfl
theorem sumN_append : ∀ (a b : List Nat), sumN (a ++ b) = sumN a + sumN b
  | [], b => by simp [sumN]
  | x :: a, b => by rw [List.cons_append, sumN_cons, sumN_cons, sumN_append a b]; omega
theorem sumN_set : ∀ {l : List Nat} {i : Nat} {x y : Nat}, l[i]? = some x → sumN (l.set i y) + x = sumN l + y
  | [], i, x, y, h => by simp at h
  | z :: l, 0, x, y, h => by
    simp only [List.getElem?_cons_zero, Option.some.injEq] at h
    subst h
    rw [List.set_cons_zero, sumN_cons, sumN_cons]; omega
  | z :: l, i + 1, x, y, h => by
    simp only [List.getElem?_cons_succ] at h
    have := sumN_set (y := y) h
    rw [List.set_cons_succ, sumN_cons, sumN_cons]; omega

def wyR (en : Int) (w : Wy) : Nat := (en - w.said).toNat
def npR (en : Int) (a : NP) : Nat := 5 * (300 - a.dn.length) + 2 * sumN (a.ws.map (wyR en))
/-- how much can still happen in a net -/
def rest (en : Int) (s : NS) : Nat := sumN (s.ps.map (npR en)) + sumN (s.ls.map List.length)

theorem send1_sum {ls : List (List Pcl)} {x : Pcl} (h : x.k.toNat < ls.length) : sumN ((send1 ls x).map List.length) = sumN (ls.map List.length) + 1 := by
  obtain ⟨l, hl⟩ := get_of_lt h
  unfold send1
  rw [List.map_set]
  have h1 : (ls.map List.length)[x.k.toNat]? = some l.length := by rw [List.getElem?_map, hl]; rfl
  have := sumN_set (y := (ls.getD x.k.toNat [] ++ [x]).length) h1
  rw [getD_some hl] at this ⊢
  simp only [List.length_append, List.length_cons, List.length_nil] at this ⊢
  omega
theorem send_sum : ∀ {xs : List Pcl} {ls : List (List Pcl)}, (∀ x ∈ xs, x.k.toNat < ls.length) → sumN ((send ls xs).map List.length) = sumN (ls.map List.length) + xs.length
  | [], ls, _ => rfl
  | x :: xs, ls, h => by
    rw [send_cons, send_sum (fun y hy => by rw [send1_length]; exact h y (by simp [hy])), send1_sum (h x (by simp)), List.length_cons]; omega
theorem drain_sum (m : Mdl) (p : Nat) : ∀ (n : Nat) (ls : List (List Pcl)), n ≤ ls.length → sumN ((drain m ls p n).map List.length) + (inbox m ls p n).length = sumN (ls.map List.length)
  | 0, ls, _ => by
    have e : drain m ls p 0 = ls := by
      unfold drain
      apply List.ext_getElem?
      intro i
      rw [List.getElem?_mapIdx]
      cases ls[i]? <;> simp
    rw [e]; simp [inbox]
  | n + 1, ls, h => by
    have ih := drain_sum m p n ls (by omega)
    obtain ⟨l, hl⟩ := get_of_lt (d := ls) (k := n) (by omega)
    have e1 : inbox m ls p (n + 1) = inbox m ls p n ++ boxI m ls p n := by
      unfold inbox
      rw [List.range_succ, List.flatMap_append]; simp
    have hdn : (drain m ls p n)[n]? = some l := by
      unfold drain
      rw [List.getElem?_mapIdx, hl]; simp
    have e2 : drain m ls p (n + 1) = if leads m p n = true then (drain m ls p n).set n [] else drain m ls p n := by
      apply List.ext_getElem?
      intro i
      by_cases hlead : leads m p n = true
      · rw [if_pos hlead]
        by_cases e : i = n
        · subst e
          rw [List.getElem?_set_self (get_lt hdn)]
          unfold drain
          rw [List.getElem?_mapIdx, hl]; simp [hlead]
        · rw [List.getElem?_set_ne (by omega)]
          unfold drain
          rw [List.getElem?_mapIdx, List.getElem?_mapIdx]
          cases ls[i]? with
          | none => rfl
          | some x =>
            simp only [Option.map_some, Option.some.injEq]
            have : decide (i < n + 1) = decide (i < n) := by by_cases h1 : i < n <;> simp [h1] <;> omega
            rw [this]
      · rw [if_neg hlead]
        unfold drain
        rw [List.getElem?_mapIdx, List.getElem?_mapIdx]
        cases ls[i]? with
        | none => rfl
        | some x =>
          simp only [Option.map_some, Option.some.injEq]
          by_cases e : i = n
          · subst e; simp [hlead]
          · have : decide (i < n + 1) = decide (i < n) := by by_cases h1 : i < n <;> simp [h1] <;> omega
            rw [this]
    rw [e1, e2, List.length_append]
    by_cases hlead : leads m p n = true
    · rw [if_pos hlead, List.map_set, boxI_leads hlead, getD_some hl]
      have h1 : ((drain m ls p n).map List.length)[n]? = some l.length := by rw [List.getElem?_map, hdn]; rfl
      have := sumN_set (y := ([] : List Pcl).length) h1
      simp only [List.length_nil] at this ⊢
      omega
    · rw [if_neg hlead, boxI_not hlead]
      simp only [List.length_nil]
      omega
theorem words_sum (en T : Int) : ∀ (l : List Wy), (∀ w ∈ l, w.said ≤ en) → sumN ((l.map (wyN en T)).map (wyR en)) + (wyO en T l).length ≤ sumN (l.map (wyR en))
  | [], _ => by simp [wyO, sumN]
  | w :: l, h => by
    have ih := words_sum en T l (fun v hv => h v (by simp [hv]))
    have hw := h w (by simp)
    rw [wyO_cons, List.map_cons, List.map_cons, List.map_cons, sumN_cons, sumN_cons, List.length_append]
    by_cases e : w.said < wyT en T w
    · rw [if_pos e]
      have e3 : wyN en T w = { w with said := wyT en T w } := by unfold wyN; rw [if_pos e]
      rw [e3]
      have ht : wyT en T w ≤ en := by unfold wyT; omega
      have : wyR en { w with said := wyT en T w } + 1 ≤ wyR en w := by unfold wyR; simp only; omega
      simp only [List.length_cons, List.length_nil]
      omega
    · rw [if_neg e]
      have e3 : wyN en T w = w := by unfold wyN; rw [if_neg e]
      rw [e3]
      simp only [List.length_nil]
      omega

section
variable {m : Mdl} {en : Int} {F : Nat → List It} {C : Nat → List Int} {N : Nat → Nat} {s : NS}

theorem NInv.said_le (h : NInv m en F N s) {p : Nat} {a : NP} (hp : s.ps[p]? = some a) : ∀ w ∈ a.ws, -1 ≤ w.said ∧ w.said ≤ en := fun w hw => by
  have := h.sad p a hp w hw
  unfold SadOk effm at this
  omega
theorem NInv.dn_len (h : NInv m en F N s) {p : Nat} {a : NP} (hp : s.ps[p]? = some a) : a.dn.length = N p := by
  have hpn : p < np m := by rw [← h.lp]; exact get_lt hp
  rw [(h.pi p a hp).dn, hist_length]
  unfold cutI
  rw [List.length_take]
  have := h.nle p hpn
  omega

theorem rest_falls (hm : Right m) (hen0 : 0 ≤ en) (hen : en ≤ 200) (hF : Full m en F C) (hF3 : ∀ p, p < np m → (F p).length ≤ 300) (h : NInv m en F N s) {p : Nat} (hB : goOnB m en s p = true) : rest en (goOn m en s p) < rest en s := by
  cases hp : s.ps[p]? with
  | none => unfold goOnB at hB; rw [hp] at hB; cases hB
  | some a =>
    have hpn : p < np m := by rw [← h.lp]; exact get_lt hp
    obtain ⟨N', hW⟩ := h.went hm hen0 hen hF hp
    have h1 := h.deliver hm hen hp
    have hP1 := h1.pi p _ (List.getElem?_set_self (get_lt hp))
    have hdl := h.dn_len hp
    have hmine := hW.mine
    have hle' := hW.inv.nle p hpn
    have h300 := hF3 p hpn
    have hHz := h1.hzIs hm (List.getElem?_set_self (get_lt hp))
    have hkt := takeAll_keep (inbox m s.ls p m.links.length) a
    unfold goOnB at hB
    rw [hp] at hB
    simp only at hB
    unfold goOn
    rw [hp]
    simp only
    obtain ⟨b, hb⟩ : ∃ b, b = taken m s.ls p m.links.length a := ⟨_, rfl⟩
    rw [← hb] at hB hmine hP1 hHz ⊢
    have hbws : b.ws = a.ws := by rw [hb]; exact hkt.1
    have hbdn : b.dn = a.dn := by rw [hb]; exact hkt.2.2.2
    have hq := doAll_q m (p : Int) en (left_ en b) (toDo en b) b []
    have hkeep := doAll_keep m (p : Int) en (toDo en b) (b, [])
    have hlen := doAll_len m (p : Int) en hm (toDo en b) b (fun x hx => by
      have h2 := List.mem_filter.1 ((srtI_perm _).mem_iff.1 hx)
      have h3 := hP1.tim x h2.1
      have h4 := h2.2
      simp only [decide_eq_true_eq] at h4
      have := hHz.top
      omega)
    have hsum := words_sum en (hz en b.hr) b.ws (fun w hw => (h.said_le hp w (by rw [← hbws]; exact hw)).2)
    have hds := drain_sum m p m.links.length s.ls (by rw [h.ll]; exact Nat.le_refl _)
    have hadv2 : (advP m (p : Int) en b).2 = (doAll m (p : Int) en (toDo en b) (b, [])).2 ++ wyO en (hz en b.hr) b.ws := by unfold advP; simp only; rw [hq]
    have hadv1 : (advP m (p : Int) en b).1.dn.length = b.dn.length + (toDo en b).length ∧ (advP m (p : Int) en b).1.ws = b.ws.map (wyN en (hz en b.hr)) := by
      unfold advP
      simp only
      rw [hq]
      exact ⟨hkeep.2.2.2, trivial⟩
    have hrng : ∀ y ∈ (advP m (p : Int) en b).2, y.k.toNat < (drain m s.ls p m.links.length).length := fun y hy => by
      rw [drain_length, h.ll]
      rw [hadv2] at hy
      rcases List.mem_append.1 hy with hy | hy
      · exact (doAll_msgs m _ en hm _ _ y hy).2
      · obtain ⟨w, hw, _, rfl⟩ := mem_wyO hy
        obtain ⟨j, z, h2, _, h3, _⟩ := hP1.ways hw
        rw [(wyP_k en _ w).1]
        have := get_lt h2
        omega
    have hsend := send_sum hrng
    unfold rest
    simp only
    rw [hsend, List.map_set]
    have hpR : (s.ps.map (npR en))[p]? = some (npR en a) := by rw [List.getElem?_map, hp]; rfl
    have hset := sumN_set (y := npR en (advP m (p : Int) en b).1) hpR
    have hR1 : npR en (advP m (p : Int) en b).1 = 5 * (300 - (a.dn.length + (toDo en b).length)) + 2 * sumN ((b.ws.map (wyN en (hz en b.hr))).map (wyR en)) := by
      unfold npR; rw [hadv1.1, hadv1.2, hbdn]
    have hR2 : npR en a = 5 * (300 - a.dn.length) + 2 * sumN (b.ws.map (wyR en)) := by unfold npR; rw [hbws]
    have hout : (advP m (p : Int) en b).2.length = (doAll m (p : Int) en (toDo en b) (b, [])).2.length + (wyO en (hz en b.hr) b.ws).length := by rw [hadv2, List.length_append]
    have hfl : a.dn.length + (toDo en b).length ≤ 300 := by omega
    -- something has happened
    have hsome : 0 < (inbox m s.ls p m.links.length).length + (toDo en b).length + (wyO en (hz en b.hr) b.ws).length := by
      rcases Nat.eq_zero_or_pos ((inbox m s.ls p m.links.length).length + (toDo en b).length + (wyO en (hz en b.hr) b.ws).length) with e | e
      · exfalso
        have e1 : inbox m s.ls p m.links.length = [] := List.eq_nil_of_length_eq_zero (by omega)
        have e2 : toDo en b = [] := List.eq_nil_of_length_eq_zero (by omega)
        have e3 : (advP m (p : Int) en b).2 = [] := List.eq_nil_of_length_eq_zero (by rw [hout]; have : (doAll m (p : Int) en (toDo en b) (b, [])).2.length ≤ 4 * (toDo en b).length := hlen; omega)
        rw [e1, e2, e3] at hB
        simp at hB
      · exact e
    omega

/-- nothing has changed where a process can't go on -/
theorem calm_same {p : Nat} (h : goOnB m en s p = false) : goOn m en s p = s := by
  unfold goOnB at h
  unfold goOn
  cases hp : s.ps[p]? with
  | none => rfl
  | some a =>
    rw [hp] at h
    simp only at h ⊢
    simp only [Bool.or_eq_false_iff, Bool.not_eq_false', List.isEmpty_iff] at h
    obtain ⟨⟨h1, h2⟩, h3⟩ := h
    have hb : taken m s.ls p m.links.length a = a := by unfold taken; rw [h1]; rfl
    rw [hb] at h2 h3 ⊢
    have hq := doAll_q m (p : Int) en (left_ en a) (toDo en a) a []
    have hadv2 : (advP m (p : Int) en a).2 = (doAll m (p : Int) en (toDo en a) (a, [])).2 ++ wyO en (hz en a.hr) a.ws := by unfold advP; simp only; rw [hq]
    rw [h2]
    rw [hadv2] at h2
    have hw := (List.append_eq_nil_iff.1 h2).2
    have hleft : left_ en a = a.q := by
      have h4 : a.q.filter (fun x => decide (x.t < hz en a.hr)) = [] := by
        have := srtI_perm (a.q.filter (fun x => decide (x.t < hz en a.hr)))
        unfold toDo at h3
        rw [h3] at this
        exact (List.Perm.eq_nil this.symm)
      unfold left_
      rw [List.filter_eq_self]
      intro x hx
      have := (List.filter_eq_nil_iff.1 h4) x hx
      simp only [decide_eq_true_eq] at this
      simp only [decide_eq_true_eq]
      exact this
    have hws : a.ws.map (wyN en (hz en a.hr)) = a.ws := by
      unfold wyO at hw
      rw [List.map_eq_nil_iff, List.filter_eq_nil_iff] at hw
      have : a.ws.map (wyN en (hz en a.hr)) = a.ws.map id := List.map_congr_left (fun w hw' => by
        have := hw w hw'
        simp only [decide_eq_true_eq] at this
        unfold wyN
        rw [if_neg this]; rfl)
      rw [this, List.map_id]
    have hadv1 : (advP m (p : Int) en a).1 = a := by
      unfold advP
      simp only
      rw [h3]
      simp only [doAll]
      rw [hleft, hws]
    rw [hadv1, set_same hp]
    have hdr : drain m s.ls p m.links.length = s.ls := by
      unfold drain
      apply List.ext_getElem?
      intro i
      rw [List.getElem?_mapIdx]
      cases hl : s.ls[i]? with
      | none => rfl
      | some l =>
        simp only [Option.map_some, Option.some.injEq]
        split
        · rename_i hc
          simp only [Bool.and_eq_true, decide_eq_true_eq] at hc
          have : boxI m s.ls p i = [] := by
            unfold inbox at h1
            exact List.flatMap_eq_nil_iff.1 h1 i (by simpa using hc.1)
          rw [boxI_leads hc.2, getD_some hl] at this
          exact this.symm
        · rfl
    rw [hdr]
    rfl

end

end Go.Proofs.Ytaieackeflmhgaa

namespace Go.Proofs.Ytaieackeflmhgaa
open Go.RowKit Go.Sort Go.Maps

def itr (m : Mdl) (en : Int) (p : Nat) : Nat → NS → NS
  | 0, s => s
  | n + 1, s => itr m en p n (goOn m en s p)
theorem itr_succ (m : Mdl) (en : Int) (p : Nat) : ∀ (n : Nat) (s : NS), itr m en p (n + 1) s = goOn m en (itr m en p n s) p
  | 0, _ => rfl
  | n + 1, s => itr_succ m en p n (goOn m en s p)

/-- a whole step: p goes on till nothing changes -/
def Stepped (m : Mdl) (en : Int) (s s' : NS) (p : Nat) (b : Bool) : Prop :=
  ∃ k, (∀ i, i < k → goOnB m en (itr m en p i s) p = true) ∧ goOnB m en (itr m en p k s) p = false ∧ s' = itr m en p k s ∧ b = decide (0 < k)
theorem Stepped.unique {m : Mdl} {en : Int} {s s1 s2 : NS} {p : Nat} {b1 b2 : Bool} (h1 : Stepped m en s s1 p b1) (h2 : Stepped m en s s2 p b2) : s1 = s2 ∧ b1 = b2 := by
  obtain ⟨k1, a1, c1, rfl, rfl⟩ := h1
  obtain ⟨k2, a2, c2, rfl, rfl⟩ := h2
  have : k1 = k2 := by
    rcases Nat.lt_trichotomy k1 k2 with h | h | h
    · have := a2 k1 h; rw [c1] at this; cases this
    · exact h
    · have := a1 k2 h; rw [c2] at this; cases this
  subst this
  exact ⟨rfl, rfl⟩
theorem Stepped.calm {m : Mdl} {en : Int} {s s' : NS} {p : Nat} {b : Bool} (h : Stepped m en s s' p b) : goOnB m en s' p = false := by
  obtain ⟨k, _, c, rfl, _⟩ := h; exact c
theorem Stepped.no {m : Mdl} {en : Int} {s s' : NS} {p : Nat} (h : Stepped m en s s' p false) : s' = s ∧ goOnB m en s p = false := by
  obtain ⟨k, _, c, rfl, e⟩ := h
  have : k = 0 := by
    by_cases hk : 0 < k
    · simp [hk] at e
    · omega
  subst this
  exact ⟨rfl, c⟩
theorem Stepped.of_calm {m : Mdl} {en : Int} {s s' : NS} {p : Nat} {b : Bool} (h : Stepped m en s s' p b) (hc : goOnB m en s p = false) : s' = s ∧ b = false := by
  obtain ⟨k, a, _, rfl, rfl⟩ := h
  have : k = 0 := by
    rcases Nat.eq_zero_or_pos k with h | h
    · exact h
    · have := a 0 h; rw [show itr m en p 0 s = s from rfl, hc] at this; cases this
  subst this
  exact ⟨rfl, rfl⟩

section
variable {m : Mdl} {en : Int} {F : Nat → List It} {C : Nat → List Int} {N : Nat → Nat} {s : NS}

/-- what steps of p keep, and what grows by them -/
structure Moved (m : Mdl) (en : Int) (F : Nat → List It) (N N' : Nat → Nat) (s s' : NS) (p : Nat) : Prop where
  inv : NInv m en F N' s'
  oth : ∀ q, q ≠ p → N' q = N q
  mine : N p ≤ N' p
  eff : ∀ k, k < m.links.length → effm m en s k ≤ effm m en s' k
  same : ∀ q, q ≠ p → s'.ps[q]? = s.ps[q]?

theorem NInv.moved (hm : Right m) (hen0 : 0 ≤ en) (hen : en ≤ 200) (hF : Full m en F C) {p : Nat} : ∀ (k : Nat) {N : Nat → Nat} {s : NS}, NInv m en F N s → p < np m → ∃ N', Moved m en F N N' s (itr m en p k s) p
  | 0, N, s, h, _ => ⟨N, h, fun _ _ => rfl, Nat.le_refl _, fun _ _ => Int.le_refl _, fun _ _ => rfl⟩
  | k + 1, N, s, h, hp => by
    obtain ⟨a, ha⟩ := get_of_lt (d := s.ps) (k := p) (by rw [h.lp]; exact hp)
    obtain ⟨N1, hW⟩ := h.went hm hen0 hen hF ha
    obtain ⟨N2, hM⟩ := NInv.moved hm hen0 hen hF k hW.inv hp
    refine ⟨N2, hM.inv, fun q hq => (hM.oth q hq).trans (hW.oth q hq), ?_, fun j hj => Int.le_trans (hW.eff j hj) (hM.eff j hj), fun q hq => (hM.same q hq).trans (hW.same q hq)⟩
    have := hM.mine
    have := hW.mine
    omega
theorem NInv.stepped (hm : Right m) (hen0 : 0 ≤ en) (hen : en ≤ 200) (hF : Full m en F C) (h : NInv m en F N s) {p : Nat} (hp : p < np m) {s' : NS} {b : Bool} (hs : Stepped m en s s' p b) : ∃ N', Moved m en F N N' s s' p := by
  obtain ⟨k, _, _, rfl, _⟩ := hs
  exact h.moved hm hen0 hen hF k hp

/-! ### what is done is a beginning of what happens -/
theorem NInv.done (h : NInv m en F N s) {p : Nat} {a : NP} (hp : s.ps[p]? = some a) : a.dn = (hist m (p : Int) (F p)).take (N p) := by
  rw [(h.pi p a hp).dn]
  unfold cutI
  rw [hist_take]
theorem NInv.state (h : NInv m en F N s) {p : Nat} {a : NP} (hp : s.ps[p]? = some a) : (a.dn = [] ∧ a.st = 0) ∨ ∃ (l : List Dn) (d : Dn), a.dn = l ++ [d] ∧ a.st = d.st := by
  have hP := h.pi p a hp
  have h1 : a.st = (runP m (p : Int) (cutI F N p)).1 := by rw [← hP.run]
  rcases List.eq_nil_or_concat (cutI F N p) with e | ⟨l, x, e⟩
  · left
    rw [hP.dn, e, h1, e]
    exact ⟨rfl, rfl⟩
  · right
    rw [List.concat_eq_append] at e
    refine ⟨hist m (p : Int) l, ⟨x, (stepP m (p : Int) (runP m (p : Int) l) x).1⟩, ?_, ?_⟩
    · rw [hP.dn, e, hist_snoc]
    · rw [h1, e, runP_snoc]

/-! ### all is over -/
structure Idle (en : Int) (s : NS) : Prop where
  q : ∀ (p : Nat) (a : NP), s.ps[p]? = some a → ∀ x ∈ a.q, en ≤ x.t
  l : ∀ (k : Nat), ∀ y ∈ s.ls.getD k [], y.kd ≠ 0

theorem NInv.idle_all (hm : Right m) (hF : Full m en F C) (hpos : ∀ p, p < np m → ∀ x ∈ F p, 0 ≤ x.t) (h : NInv m en F N s) (hI : Idle en s) : ∀ p, p < np m → N p = (F p).length := by
  have htr : ∀ p, transit m s.ls p = [] := fun p => by
    cases ht : transit m s.ls p with
    | nil => rfl
    | cons x l =>
      obtain ⟨y, hy, hy0, _⟩ := mem_msgs.1 (show x ∈ msgs (inbox m s.ls p m.links.length) by rw [show msgs (inbox m s.ls p m.links.length) = transit m s.ls p from rfl, ht]; simp)
      obtain ⟨i, _, _, hy⟩ := mem_inbox.1 hy
      exact absurd hy0 (hI.l i y hy)
  have hall : ∀ (n : Nat) (p i : Nat) (x : It), p < np m → (F p)[i]? = some x → x.t < (n : Int) → i < N p := by
    intro n
    induction n with
    | zero =>
      intro p i x hp hx hlt
      have := hpos p hp x (List.mem_of_getElem? hx)
      omega
    | succ n ih =>
      intro p i x hp hx hlt
      obtain ⟨y, hy, hyp, hyx, _⟩ := hF.com p i x hp hx
      rcases Nat.lt_or_ge i (N p) with h1 | h1
      · exact h1
      · exfalso
        obtain ⟨a, ha⟩ := get_of_lt (d := s.ps) (k := p) (by rw [h.lp]; exact hp)
        have hlow := hF.low p hp x (List.mem_of_getElem? hx)
        rcases gen_cut N hy with h2 | ⟨q, j, x', e, hq, hj, hx', rfl, he⟩
        · rcases (h.comes ha).2 ⟨y, mem_genE.2 ⟨h2, .inr (by rw [hyx]; exact hlow)⟩, hyp, rfl⟩ with h3 | h3 | h3
          · have := hI.q p a ha _ h3
            rw [hyx] at this
            omega
          · rw [htr] at h3; simp at h3
          · rw [hyx] at h3
            exact not_in_cut (hF.srt p hp) hx h1 h3
        · obtain ⟨z, z1, _, _, _, z5, _, _⟩ := ruleOut_link hm he
          have hza := hm.link z1
          have h0 : x.t = e.it.t := by rw [← hyx]; rfl
          have := ih q j x' hq hx' (by omega)
          omega
  intro p hp
  have := h.nle p hp
  rcases Nat.lt_or_ge (N p) (F p).length with h1 | h1
  · obtain ⟨x, hx⟩ := get_of_lt h1
    have hlow := hF.low p hp x (List.mem_of_getElem? hx)
    have := hall en.toNat p (N p) x hp hx (by omega)
    omega
  · omega

end

end Go.Proofs.Ytaieackeflmhgaa

namespace Go.Proofs.Ytaieackeflmhgaa
open Go.RowKit Go.Sort Go.Maps

section
variable {m : Mdl} {en : Int} {F : Nat → List It} {C : Nat → List Int} {N : Nat → Nat} {s : NS}

theorem NInv.all_idle (hm : Right m) (hF : Full m en F C) (h : NInv m en F N s) (hN : ∀ p, p < np m → N p = (F p).length) : Idle en s := by
  have key : ∀ (p : Nat) (a : NP), s.ps[p]? = some a → ∀ x, x ∈ a.q ++ transit m s.ls p → x.t < en → False := by
    intro p a ha x hx hlt
    have hpn : p < np m := by rw [← h.lp]; exact get_lt ha
    obtain ⟨y, hy, hyp, hyx⟩ := (h.comes ha).1 ((List.mem_append.1 hx).elim .inl (fun e => .inr (.inl e)))
    obtain ⟨p', i, _, h1, h2, _⟩ := hF.gen y (cut_gen (mem_genE.1 hy).1) (by rw [hyx]; exact hlt)
    have e : p' = p := by omega
    subst e
    rw [hyx] at h2
    have hc : x ∈ cutI F N p' := by
      unfold cutI
      rw [hN p' hpn, List.take_length]
      exact List.mem_of_getElem? h2
    exact (h.uq ha).not_both hx hc
  refine ⟨fun p a ha x hx => ?_, fun k y hy h0 => ?_⟩
  · rcases Int.lt_or_le x.t en with h1 | h1
    · exact (key p a ha x (List.mem_append_left _ hx) h1).elim
    · exact h1
  · have hk : k < m.links.length := by
      rcases Nat.lt_or_ge k m.links.length with h1 | h1
      · exact h1
      · rw [List.getD_eq_getElem?_getD, List.getElem?_eq_none (by rw [h.ll]; exact h1)] at hy
        simp at hy
    obtain ⟨z, hz⟩ := get_of_lt hk
    have hzb := hm.link hz
    obtain ⟨a, ha⟩ := get_of_lt (d := s.ps) (k := z.t.toNat) (by rw [h.lp]; unfold np; omega)
    rcases (h.lnk k z hz y hy).2 with h1 | h1 | h1
    · refine key _ a ha y.it (List.mem_append_right _ ?_) h1.2.2
      exact mem_msgs.2 ⟨y, mem_inbox.2 ⟨k, hk, leads_iff.2 ⟨z, hz, by omega⟩, hy⟩, h0, rfl⟩
    · omega
    · omega

/-! ### P8 -/
theorem NInv.cause (hF : Full m en F C) (h : NInv m en F N s) {p i q : Nat} {x : It} (hp : p < np m) (hi : i < N p) (hx : (F p)[i]? = some x) (hq : x.f = (q : Int)) : ∃ j : Nat, (C p)[i]? = some (j : Int) ∧ j < N q := by
  obtain ⟨a, ha⟩ := get_of_lt (d := s.ps) (k := p) (by rw [h.lp]; exact hp)
  have hc : x ∈ cutI F N p := List.mem_of_getElem? (take_get.2 ⟨hi, hx⟩)
  obtain ⟨y, hy, hyp, hyx⟩ := (h.comes ha).1 (.inr (.inr hc))
  exact cause_done hF hp (mem_genE.1 hy).1 hyp (by rw [hyx]; exact hx) (by rw [hyx]; exact hq)
/-- how many of a list have times up to t -/
def upTo (l : List It) (t : Int) : Nat := (l.filter (fun x => decide (x.t ≤ t))).length
theorem NInv.known (h : NInv m en F N s) {p i : Nat} {x : It} (hp : p < np m) (hi : i < N p) (hx : (F p)[i]? = some x) {z : MLink} (hz : z ∈ m.links) (hzt : z.t = (p : Int)) : upTo (F z.f.toNat) (x.t - z.a) ≤ N z.f.toNat := by
  have hP := h.kn p i x hp hi hx z hz hzt
  unfold upTo
  rw [← List.take_append_drop (N z.f.toNat) (F z.f.toNat), List.filter_append, List.length_append]
  have h1 : ((F z.f.toNat).drop (N z.f.toNat)).filter (fun y => decide (y.t ≤ x.t - z.a)) = [] := by
    rw [List.filter_eq_nil_iff]
    intro y hy
    obtain ⟨j, hj⟩ := List.getElem?_of_mem hy
    rw [List.getElem?_drop] at hj
    have := hP (N z.f.toNat + j) y (by omega) hj
    simp; omega
  rw [h1]
  have h2 := List.length_filter_le (fun y : It => decide (y.t ≤ x.t - z.a)) ((F z.f.toNat).take (N z.f.toNat))
  rw [List.length_take] at h2
  simp only [List.length_nil]
  omega

/-! ### who is sure of what -/
theorem effo_taken (h : NInv m en F N s) {p : Nat} {a : NP} (hp : s.ps[p]? = some a) {k : Nat} (hl : leads m p k = true) : effo m s k = (taken m s.ls p m.links.length a).hr (k : Int) := by
  obtain ⟨z, hz, hzt⟩ := leads_iff.1 hl
  rw [h.taken_hr k (get_lt hz), boxI_leads hl]
  unfold effo
  rw [hz]
  simp only
  rw [show z.t.toNat = p by omega, hp]
theorem sure_ge (hm : Right m) (hen : en ≤ 200) (h : NInv m en F N s) {p : Nat} {a : NP} (hp : s.ps[p]? = some a) {T : Int} (hTe : T ≤ en) (hT : ∀ k, k < m.links.length → T ≤ effm m en s k) : T ≤ sureOf m en s p a := by
  have h1 := h.deliver hm hen hp
  have hp1 : (⟨s.ps.set p (taken m s.ls p m.links.length a), drain m s.ls p m.links.length⟩ : NS).ps[p]? = some (taken m s.ls p m.links.length a) := List.getElem?_set_self (get_lt hp)
  have hHz := h1.hzIs hm hp1
  unfold sureOf
  rcases hHz.one with e | ⟨k, hk⟩
  · omega
  · obtain ⟨hk0, hkl, _⟩ := (h1.pi p _ hp1).hrd k _ hk
    obtain ⟨z, hz, _⟩ := leads_iff.1 hkl
    have h2 := hT k.toNat (get_lt hz)
    have h3 := effo_taken h hp hkl
    rw [Int.toNat_of_nonneg hk0] at h3
    rw [hk] at h3
    unfold effm at h2
    rw [h3] at h2
    simp only [Option.getD_some] at h2
    omega
theorem eff_pos (hm : Right m) (hen0 : 0 ≤ en) (h : NInv m en F N s) {k : Nat} (hk : k < m.links.length) : 0 ≤ effm m en s k := by
  obtain ⟨z, hz⟩ := get_of_lt hk
  have hzb := hm.link hz
  obtain ⟨a, ha⟩ := get_of_lt (d := s.ps) (k := z.t.toNat) (by rw [h.lp]; unfold np; omega)
  unfold effm
  have e : effo m s k = lastHr (a.hr (k : Int)) (s.ls.getD k []) := by unfold effo; rw [hz]; simp only; rw [ha]
  rw [e]
  cases hc : lastHr (a.hr (k : Int)) (s.ls.getD k []) with
  | none => simp; omega
  | some c =>
    rcases lastHr_some hc with h1 | ⟨y, hy, h1, h2⟩
    · have := ((h.pi _ a ha).hrd _ c h1).2.2.1
      simp; omega
    · rcases (h.lnk k z hz y hy).2 with h3 | h3 | h3
      · omega
      · simp; omega
      · omega
theorem NInv.calm_ways (hm : Right m) (hen0 : 0 ≤ en) (hen : en ≤ 200) (hF : Full m en F C) (h : NInv m en F N s) {p : Nat} {a : NP} (hp : s.ps[p]? = some a) (hc : goOnB m en s p = false) : (∀ w ∈ a.ws, min (sureOf m en s p a + w.a) en ≤ w.said) ∧ (∀ x ∈ a.q, sureOf m en s p a ≤ x.t) ∧ inbox m s.ls p m.links.length = [] := by
  obtain ⟨N', hW⟩ := h.went hm hen0 hen hF hp
  have hs := calm_same hc
  have h1 := hW.ways
  have h2 := hW.rest
  rw [hs] at h1 h2
  refine ⟨h1 a hp, h2 a hp, ?_⟩
  unfold goOnB at hc
  rw [hp] at hc
  simp only [Bool.or_eq_false_iff, Bool.not_eq_false', List.isEmpty_iff] at hc
  exact hc.1.1
/-- behind a step of p its links say what it is sure of, and their Ahead -/
theorem NInv.calm_up (hm : Right m) (hen0 : 0 ≤ en) (hen : en ≤ 200) (hF : Full m en F C) (h : NInv m en F N s) {p : Nat} (hp : p < np m) (hc : goOnB m en s p = false) {T : Int} (hTe : T ≤ en) (hT : ∀ k, k < m.links.length → T ≤ effm m en s k) {k : Nat} {z : MLink} (hz : m.links[k]? = some z) (hzf : z.f = (p : Int)) : min (T + 1) en ≤ effm m en s k := by
  obtain ⟨a, ha⟩ := get_of_lt (d := s.ps) (k := p) (by rw [h.lp]; exact hp)
  obtain ⟨w, hw, hwk, hwa⟩ := (h.pi p a ha).way_of hz hzf
  have h1 := (h.calm_ways hm hen0 hen hF ha hc).1 w hw
  have h2 := sure_ge hm hen h ha hTe hT
  have h3 := h.sad p a ha w hw
  unfold SadOk at h3
  rw [show w.k.toNat = k by omega] at h3
  have := hm.link hz
  omega
/-- if none can go on, all is heard to the end -/
theorem NInv.calm_all (hm : Right m) (hen0 : 0 ≤ en) (hen : en ≤ 200) (hF : Full m en F C) (h : NInv m en F N s) (hc : ∀ p, p < np m → goOnB m en s p = false) : ∀ (n : Nat), (n : Int) ≤ en → ∀ k, k < m.links.length → (n : Int) ≤ effm m en s k
  | 0, _, k, hk => eff_pos hm hen0 h hk
  | n + 1, hn, k, hk => by
    obtain ⟨z, hz⟩ := get_of_lt hk
    have hzb := hm.link hz
    have ih := NInv.calm_all hm hen0 hen hF h hc n (by omega)
    have := h.calm_up hm hen0 hen hF (p := z.f.toNat) (by unfold np; omega) (hc _ (by unfold np; omega)) (T := (n : Int)) (by omega) ih hz (by omega)
    omega
theorem NInv.calm_idle (hm : Right m) (hen0 : 0 ≤ en) (hen : en ≤ 200) (hF : Full m en F C) (h : NInv m en F N s) (hc : ∀ p, p < np m → goOnB m en s p = false) : Idle en s := by
  have heff : ∀ k, k < m.links.length → en ≤ effm m en s k := fun k hk => by
    have := h.calm_all hm hen0 hen hF hc en.toNat (by omega) k hk
    omega
  refine ⟨fun p a ha x hx => ?_, fun k y hy h0 => ?_⟩
  · have hpn : p < np m := by rw [← h.lp]; exact get_lt ha
    have h1 := (h.calm_ways hm hen0 hen hF ha (hc p hpn)).2.1 x hx
    have h2 := sure_ge hm hen h ha (Int.le_refl _) heff
    omega
  · have hk : k < m.links.length := by
      rcases Nat.lt_or_ge k m.links.length with h1 | h1
      · exact h1
      · rw [List.getD_eq_getElem?_getD, List.getElem?_eq_none (by rw [h.ll]; exact h1)] at hy
        simp at hy
    obtain ⟨z, hz⟩ := get_of_lt hk
    have hzb := hm.link hz
    have hpn : z.t.toNat < np m := by unfold np; omega
    obtain ⟨a, ha⟩ := get_of_lt (d := s.ps) (k := z.t.toNat) (by rw [h.lp]; exact hpn)
    have h1 := (h.calm_ways hm hen0 hen hF ha (hc _ hpn)).2.2
    have : y ∈ inbox m s.ls z.t.toNat m.links.length := mem_inbox.2 ⟨k, hk, leads_iff.2 ⟨z, hz, by omega⟩, hy⟩
    rw [h1] at this
    simp at this

/-! ### rounds -/
/-- p has done all and said all -/
def FinP (en : Int) (F : Nat → List It) (N : Nat → Nat) (s : NS) (q : Nat) : Prop := N q = (F q).length ∧ ∀ a, s.ps[q]? = some a → ∀ w ∈ a.ws, w.said = en

/-- i rounds are behind us, and of the next one the processes below p -/
structure Rnd (m : Mdl) (en : Int) (F : Nat → List It) (N : Nat → Nat) (i p : Nat) (s : NS) : Prop where
  inv : NInv m en F N s
  lev : ∀ k, k < m.links.length → min (i : Int) en ≤ effm m en s k
  up : ∀ (k : Nat) (z : MLink), m.links[k]? = some z → z.f < (p : Int) → min ((i : Int) + 1) en ≤ effm m en s k
  fin : en ≤ (i : Int) → ∀ q, q < np m → (q < p ∨ en + 1 ≤ (i : Int)) → FinP en F N s q
  calm : en + 1 ≤ (i : Int) → ∀ q, q < np m → (q < p ∨ en + 2 ≤ (i : Int)) → goOnB m en s q = false

theorem rnd_zero (hm : Right m) (hen0 : 0 ≤ en) (h : NInv m en F N s) : Rnd m en F N 0 0 s := by
  refine ⟨h, fun k hk => ?_, fun k z hz hf => ?_, fun he q hq hd => ?_, fun he q hq hd => ?_⟩
  · have := eff_pos hm hen0 h hk; omega
  · have := hm.link hz; omega
  · rcases hd with hd | hd
    · omega
    · omega
  · rcases hd with hd | hd
    · omega
    · omega
theorem rnd_next (hm : Right m) {i : Nat} (h : Rnd m en F N i (np m) s) : Rnd m en F N (i + 1) 0 s := by
  refine ⟨h.inv, fun k hk => ?_, fun k z hz hf => ?_, fun he q hq hd => ?_, fun he q hq hd => ?_⟩
  · obtain ⟨z, hz⟩ := get_of_lt hk
    have hzb := hm.link hz
    have := h.up k z hz (by unfold np; omega)
    omega
  · have := hm.link hz; omega
  · rcases hd with hd | hd
    · omega
    · exact h.fin (by omega) q hq (.inl hq)
  · rcases hd with hd | hd
    · omega
    · exact h.calm (by omega) q hq (.inl hq)

/-- when all is done and said, a process that goes on changes nothing for the others -/
theorem fin_quiet (hm : Right m) (hen0 : 0 ≤ en) (hen : en ≤ 200) (hF : Full m en F C) (h : NInv m en F N s) {p : Nat} {a : NP} (hp : s.ps[p]? = some a) (hf : FinP en F N s p) : (goOn m en s p).ls = drain m s.ls p m.links.length := by
  have hpn : p < np m := by rw [← h.lp]; exact get_lt hp
  obtain ⟨N', hW⟩ := h.went hm hen0 hen hF hp
  have h0 : (toDo en (taken m s.ls p m.links.length a)) = [] := by
    have h1 := hW.mine
    have h2 := hW.inv.nle p hpn
    rw [hf.1] at h1
    exact List.eq_nil_of_length_eq_zero (by omega)
  have hws : (taken m s.ls p m.links.length a).ws = a.ws := (takeAll_keep _ a).1
  unfold goOn
  rw [hp]
  simp only
  generalize hb : taken m s.ls p m.links.length a = b at *
  have hq := doAll_q m (p : Int) en (left_ en b) (toDo en b) b []
  have hadv2 : (advP m (p : Int) en b).2 = (doAll m (p : Int) en (toDo en b) (b, [])).2 ++ wyO en (hz en b.hr) b.ws := by unfold advP; simp only; rw [hq]
  have hw : wyO en (hz en b.hr) b.ws = [] := by
    unfold wyO
    rw [List.map_eq_nil_iff, List.filter_eq_nil_iff]
    intro w hw
    rw [hws] at hw
    have := hf.2 a hp w hw
    simp only [decide_eq_true_eq]
    unfold wyT
    omega
  rw [hadv2, h0, hw]
  rfl
theorem goOnB_ext {s s' : NS} {q : Nat} (h1 : s'.ps[q]? = s.ps[q]?) (h2 : inbox m s'.ls q m.links.length = inbox m s.ls q m.links.length) : goOnB m en s' q = goOnB m en s q := by
  unfold goOnB taken
  rw [h1, h2]
theorem fin_calm (hm : Right m) (hen0 : 0 ≤ en) (hen : en ≤ 200) (hF : Full m en F C) {p : Nat} : ∀ (k : Nat) {N : Nat → Nat} {s : NS}, NInv m en F N s → p < np m → FinP en F N s p → ∀ q, q ≠ p → goOnB m en (itr m en p k s) q = goOnB m en s q
  | 0, _, _, _, _, _, _, _ => rfl
  | k + 1, N, s, h, hp, hf, q, hq => by
    obtain ⟨a, ha⟩ := get_of_lt (d := s.ps) (k := p) (by rw [h.lp]; exact hp)
    obtain ⟨N1, hW⟩ := h.went hm hen0 hen hF ha
    have hf1 : FinP en F N1 (goOn m en s p) p := by
      have h1 := hW.mine
      have h2 := hW.inv.nle p hp
      refine ⟨by have := hf.1; omega, fun b hb w hw => ?_⟩
      have h3 : b.ws = a.ws.map (wyN en (hz en (taken m s.ls p m.links.length a).hr)) := by
        unfold goOn at hb
        rw [ha] at hb
        simp only [List.getElem?_set_self (get_lt ha), Option.some.injEq] at hb
        subst hb
        show ((taken m s.ls p m.links.length a).ws).map _ = _
        rw [show (taken m s.ls p m.links.length a).ws = a.ws from (takeAll_keep _ a).1]
      rw [h3] at hw
      obtain ⟨w0, hw0, rfl⟩ := List.mem_map.1 hw
      have := hf.2 a ha w0 hw0
      unfold wyN
      rw [if_neg (by unfold wyT; omega)]
      exact this
    have h4 := fin_calm hm hen0 hen hF k hW.inv hp hf1 q hq
    show goOnB m en (itr m en p k (goOn m en s p)) q = _
    rw [h4]
    refine goOnB_ext (hW.same q hq) ?_
    rw [fin_quiet hm hen0 hen hF h ha hf, inbox_drain, if_neg hq]

theorem rnd_step (hm : Right m) (hen0 : 0 ≤ en) (hen : en ≤ 200) (hF : Full m en F C) {i p : Nat} (h : Rnd m en F N i p s) (hp : p < np m) {s' : NS} {b : Bool} (hs : Stepped m en s s' p b) : ∃ N', Rnd m en F N' i (p + 1) s' ∧ Moved m en F N N' s s' p := by
  obtain ⟨N', hM⟩ := h.inv.stepped hm hen0 hen hF hp hs
  have hcalm := hs.calm
  have hlev : ∀ k, k < m.links.length → min (i : Int) en ≤ effm m en s' k := fun k hk => Int.le_trans (h.lev k hk) (hM.eff k hk)
  obtain ⟨a, ha⟩ := get_of_lt (d := s'.ps) (k := p) (by rw [hM.inv.lp]; exact hp)
  have hcw := hM.inv.calm_ways hm hen0 hen hF ha hcalm
  -- when all is heard to the end, p is through
  have hthrough : en ≤ (i : Int) → FinP en F N' s' p := fun he => by
    have hsure : en ≤ sureOf m en s' p a := sure_ge hm hen hM.inv ha (Int.le_refl _) (fun k hk => by have := hlev k hk; omega)
    refine ⟨?_, fun a' ha' w hw => ?_⟩
    · have hle := hM.inv.nle p hp
      rcases Nat.lt_or_ge (N' p) (F p).length with h1 | h1
      · exfalso
        obtain ⟨x, hx⟩ := get_of_lt h1
        have hlow := hF.low p hp x (List.mem_of_getElem? hx)
        -- what is not done is not below what p is sure of
        have hT : ∀ z ∈ m.links, z.t = (p : Int) → Prom F N' z en := fun z hz hzt => by
          obtain ⟨k, hk⟩ := List.getElem?_of_mem hz
          have h2 := (hM.inv.deliver hm hen ha).pi p _ (List.getElem?_set_self (get_lt ha))
          have h3 := h2.hrp k z hk hzt
          have hHz := (hM.inv.deliver hm hen ha).hzIs hm (List.getElem?_set_self (get_lt ha))
          unfold sureOf at hsure
          cases hc : (taken m s'.ls p m.links.length a).hr (k : Int) with
          | none => rw [hc] at h3; exact h3
          | some c => rw [hc] at h3; exact h3.less (Int.le_trans hsure (hHz.low _ _ hc))
        have := later_of hm hF hp hT (L := en) (fun y hy hyp hyn hyt => by
          rcases (hM.inv.comes ha).2 ⟨y, mem_genE.2 ⟨hy, .inr hyt⟩, hyp, rfl⟩ with h4 | h4 | h4
          · have := hcw.2.1 _ h4; omega
          · unfold transit at h4
            rw [hcw.2.2] at h4
            simp [msgs] at h4
          · exact absurd h4 hyn) (N' p) x (Nat.le_refl _) hx
        omega
      · omega
    · rw [ha] at ha'; cases ha'
      have h1 := hcw.1 w hw
      have h2 := (hM.inv.said_le ha w hw).2
      obtain ⟨j, z, hz, _, _, hwa⟩ := (hM.inv.pi p a ha).ways hw
      have := hm.link hz
      omega
  refine ⟨N', ⟨hM.inv, hlev, fun k z hz hf => ?_, fun he q hq hd => ?_, fun he q hq hd => ?_⟩, hM⟩
  · by_cases e : z.f = (p : Int)
    · have := hM.inv.calm_up hm hen0 hen hF hp hcalm (T := min (i : Int) en) (by omega) hlev hz e
      omega
    · exact Int.le_trans (h.up k z hz (by omega)) (hM.eff k (get_lt hz))
  · by_cases e : q = p
    · subst e; exact hthrough he
    · have := h.fin he q hq (by omega)
      unfold FinP at this ⊢
      rw [hM.oth q e, hM.same q e]
      exact this
  · by_cases e : q = p
    · subst e; exact hcalm
    · have h1 := h.calm he q hq (by omega)
      obtain ⟨k, _, _, rfl, _⟩ := hs
      rw [fin_calm hm hen0 hen hF k h.inv hp (h.fin (by omega) p hp (.inr he)) q e]
      exact h1

end

end Go.Proofs.Ytaieackeflmhgaa

namespace Go.Proofs.Ytaieackeflmhgaa
open Go.RowKit Go.Sort Go.Maps

def openP (m : Mdl) (p : Nat) : NP := ⟨atP p (c0 m).wait, hear0 m (p : Int) m.links.length, ways0 m (p : Int) m.links.length, 0, 0, []⟩
def openN (m : Mdl) : NS := ⟨(List.range (np m)).map (openP m), List.replicate m.links.length []⟩

theorem openN_get {m : Mdl} {p : Nat} {a : NP} (h : (openN m).ps[p]? = some a) : p < np m ∧ a = openP m p := by
  have h1 := get_lt h
  simp only [openN, List.length_map, List.length_range] at h1
  simp only [openN, List.getElem?_map, List.getElem?_range h1, Option.map_some, Option.some.injEq] at h
  exact ⟨h1, h.symm⟩
theorem openN_links (m : Mdl) (k : Nat) : (openN m).ls.getD k [] = [] := getD_nil _ _
theorem hear0_some {m : Mdl} {p k c : Int} {n : Nat} (h : hear0 m p n k = some c) : 0 ≤ k ∧ k < (n : Int) ∧ ∃ z, m.links[k.toNat]? = some z ∧ z.t = p ∧ z.a = c := by
  unfold hear0 at h
  split at h
  · rename_i hk
    refine ⟨hk.1, hk.2, ?_⟩
    split at h
    · rename_i z hz
      split at h
      · rename_i ht
        cases h
        exact ⟨z, hz, ht, rfl⟩
      · cases h
    · cases h
  · cases h
theorem hear0_at {m : Mdl} {p : Int} {k : Nat} {z : MLink} (hz : m.links[k]? = some z) (ht : z.t = p) : hear0 m p m.links.length (k : Int) = some z.a := by
  unfold hear0
  have := get_lt hz
  rw [if_pos ⟨by omega, by omega⟩]
  simp [hz, ht]

theorem ninv_open {m : Mdl} (hm : Right m) {en : Int} (hen0 : 0 ≤ en) {F : Nat → List It} (hpos : ∀ p, p < np m → ∀ x ∈ F p, 0 ≤ x.t) : NInv m en F (fun _ => 0) (openN m) := by
  have hcut : ∀ p, cutI F (fun _ => 0) p = [] := fun p => by simp [cutI]
  have hbox : ∀ p n, inbox m (openN m).ls p n = [] := fun p n => by
    unfold inbox
    rw [List.flatMap_eq_nil_iff]
    intro i _
    unfold boxI
    rw [openN_links]; simp
  refine ⟨by simp [openN], by simp [openN], fun _ _ => Nat.zero_le _, fun p a ha => ?_, fun k z hz x hx => ?_, fun p a ha w hw => ?_, fun p i x _ hi => by omega⟩
  · obtain ⟨hpn, rfl⟩ := openN_get ha
    refine ⟨?_, ?_, ?_, fun x hx => ?_, fun k c hc => ?_, fun k z hz hzt => ?_, rfl⟩
    · rw [hcut]; rfl
    · rw [hcut]; rfl
    · rw [hcut, List.append_nil]
      unfold transit
      rw [hbox]
      refine List.Perm.of_eq ?_
      show atP p (m.starts.mapIdx initEv) ++ [] = _
      rw [List.append_nil]
      unfold genE genAll
      have e1 : (List.range (np m)).flatMap (fun q : Nat => emsP m (q : Int) (cutI F (fun _ => 0) q)) = [] := by
        rw [List.flatMap_eq_nil_iff]
        intro q _
        rw [hcut]; rfl
      rw [e1, List.append_nil]
      congr 1
      symm
      rw [List.filter_eq_self]
      intro y hy
      obtain ⟨i, hi⟩ := List.getElem?_of_mem hy
      rw [List.getElem?_mapIdx] at hi
      obtain ⟨st, _, rfl⟩ := Option.map_eq_some_iff.1 hi
      simp [initEv]
    · obtain ⟨e, he, _, rfl⟩ := mem_atP.1 (show x ∈ atP p (m.starts.mapIdx initEv) from hx)
      obtain ⟨i, hi⟩ := List.getElem?_of_mem he
      rw [List.getElem?_mapIdx] at hi
      obtain ⟨st, hst, rfl⟩ := Option.map_eq_some_iff.1 hi
      have := hm.start hst
      show 0 ≤ st.t ∧ st.t ≤ 200
      omega
    · obtain ⟨h1, h2, z, h3, h4, h5⟩ := hear0_some hc
      have := hm.link h3
      exact ⟨h1, leads_iff.2 ⟨z, h3, h4⟩, by omega, by omega⟩
    · show Prom F _ z ((hear0 m (p : Int) m.links.length (k : Int)).getD en)
      rw [hear0_at hz hzt]
      intro i x _ hx
      have hzb := hm.link hz
      have := hpos z.f.toNat (by unfold np; omega) x (List.mem_of_getElem? hx)
      simp only [Option.getD_some]
      omega
  · rw [openN_links] at hx; simp at hx
  · obtain ⟨hpn, rfl⟩ := openN_get ha
    obtain ⟨j, z, hj, hz, hzf, hwk, hwa, hws⟩ := ways0_mem (show w ∈ ways0 m (p : Int) m.links.length from hw)
    have hzb := hm.link hz
    have hq : z.t.toNat < np m := by unfold np; omega
    have hget : (openN m).ps[z.t.toNat]? = some (openP m z.t.toNat) := by simp [openN, hq]
    have heff : effm m en (openN m) w.k.toNat = min z.a en := by
      unfold effm effo
      rw [show w.k.toNat = j by omega, hz]
      simp only
      rw [hget]
      simp only
      rw [openN_links]
      show min ((hear0 m ((z.t.toNat : Nat) : Int) m.links.length (j : Int)).getD en) en = _
      rw [hear0_at hz (by omega)]
      rfl
    unfold SadOk
    rw [heff]
    omega

/-! ### all that happens -/
theorem done_pos {m : Mdl} (hm : Right m) {en : Int} (hen : en ≤ 200) : ∀ (k : Nat), ∀ l ∈ (atK m en k).done, ∀ d ∈ l, 0 ≤ d.it.t
  | 0, l, hl, d, hd => by
    have : l = [] := (List.mem_replicate.1 hl).2
    rw [this] at hd; simp at hd
  | k + 1, l, hl, d, hd => by
    have ih := done_pos hm hen k
    have hI := atK_inv hm hen k
    have hstep : atK m en (k + 1) = stepF m en (atK m en k) := rfl
    rw [hstep] at hl
    unfold stepF at hl
    split at hl
    · exact ih l hl d hd
    · rename_i j hj
      split at hl
      · exact ih l hl d hd
      · rename_i e he
        obtain ⟨h0, h1, h2, _⟩ := hI.ev e (List.mem_of_getElem? he)
        have hpn : e.p.toNat < np m := by unfold np; omega
        obtain ⟨st, hst⟩ := get_of_lt (d := (atK m en k).states) (k := e.p.toNat) (by rw [hI.ls]; exact hpn)
        obtain ⟨sq, hsq⟩ := get_of_lt (d := (atK m en k).seqs) (k := e.p.toNat) (by rw [hI.lq]; exact hpn)
        obtain ⟨dl, hdl⟩ := get_of_lt (d := (atK m en k).done) (k := e.p.toNat) (by rw [hI.ld]; exact hpn)
        rw [(doEv_out2 (m := m) (c := atK m en k) (j := j) (e := e) hst hsq hdl).1] at hl
        obtain ⟨i, hi⟩ := List.getElem?_of_mem hl
        rcases set_get hi with ⟨_, e2⟩ | ⟨_, e2⟩
        · subst e2
          rcases List.mem_append.1 hd with h3 | h3
          · exact ih dl (List.mem_of_getElem? hdl) d h3
          · rw [List.mem_singleton] at h3
            rw [h3]
            exact h2
        · exact ih l (List.mem_of_getElem? e2) d hd
theorem its_pos {m : Mdl} (hm : Right m) {en : Int} (hen : en ≤ 200) (k p : Nat) : ∀ x ∈ itsOf (atK m en k) p, 0 ≤ x.t := by
  intro x hx
  unfold itsOf at hx
  obtain ⟨d, hd, rfl⟩ := List.mem_map.1 hx
  rw [List.getD_eq_getElem?_getD] at hd
  cases h : (atK m en k).done[p]? with
  | none => rw [h] at hd; simp at hd
  | some l =>
    rw [h] at hd
    exact done_pos hm hen k l (List.mem_of_getElem? h) d hd
theorem all_sum {m : Mdl} (hm : Right m) {en : Int} (hen : en ≤ 200) : ∀ (k : Nat), (atK m en k).all = sumN ((atK m en k).done.map List.length)
  | 0 => by
    show 0 = sumN ((List.replicate (np m) ([] : List Dn)).map List.length)
    generalize np m = n
    induction n with
    | zero => rfl
    | succ n ih => rw [List.replicate_succ, List.map_cons, sumN_cons, ← ih]; rfl
  | k + 1 => by
    have ih := all_sum hm hen k
    have hI := atK_inv hm hen k
    have hstep : atK m en (k + 1) = stepF m en (atK m en k) := rfl
    rw [hstep]
    unfold stepF
    split
    · exact ih
    · rename_i j hj
      split
      · exact ih
      · rename_i e he
        obtain ⟨h0, h1, h2, _⟩ := hI.ev e (List.mem_of_getElem? he)
        have hpn : e.p.toNat < np m := by unfold np; omega
        obtain ⟨st, hst⟩ := get_of_lt (d := (atK m en k).states) (k := e.p.toNat) (by rw [hI.ls]; exact hpn)
        obtain ⟨sq, hsq⟩ := get_of_lt (d := (atK m en k).seqs) (k := e.p.toNat) (by rw [hI.lq]; exact hpn)
        obtain ⟨dl, hdl⟩ := get_of_lt (d := (atK m en k).done) (k := e.p.toNat) (by rw [hI.ld]; exact hpn)
        rw [(doEv_out2 (m := m) (c := atK m en k) (j := j) (e := e) hst hsq hdl).1, doEv_all, List.map_set]
        have h3 : ((atK m en k).done.map List.length)[e.p.toNat]? = some dl.length := by rw [List.getElem?_map, hdl]; rfl
        have := sumN_set (y := (dl ++ [(⟨e.it, (ruleOut m e.p st sq e.it).2.1⟩ : Dn)]).length) h3
        simp only [List.length_append, List.length_cons, List.length_nil] at this ⊢
        omega

/-- as many are done as happen in all: then all is done at each process -/
theorem sum_all {f g : Nat → Nat} : ∀ {n : Nat}, (∀ p, p < n → f p ≤ g p) → (sumN ((List.range n).map f) ≤ sumN ((List.range n).map g)) ∧ (sumN ((List.range n).map f) = sumN ((List.range n).map g) → ∀ p, p < n → f p = g p)
  | 0, _ => ⟨Nat.le_refl _, fun _ p hp => by omega⟩
  | n + 1, h => by
    have ih := sum_all (n := n) (fun p hp => h p (by omega))
    have hn := h n (by omega)
    rw [List.range_succ, List.map_append, List.map_append, sumN_append, sumN_append]
    simp only [List.map_cons, List.map_nil, sumN_cons]
    refine ⟨by have := ih.1; omega, fun e p hp => ?_⟩
    have h1 := ih.1
    have e1 : sumN ((List.range n).map f) = sumN ((List.range n).map g) := by omega
    by_cases hpn : p = n
    · subst hpn; omega
    · exact ih.2 e1 p (by omega)

end Go.Proofs.Ytaieackeflmhgaa

