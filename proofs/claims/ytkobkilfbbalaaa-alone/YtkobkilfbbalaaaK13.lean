/-
  A process of the net goes on: what is kept, what grows, what comes to an end. Nothing of the program.
  The net's steps come to an end; what is done at every moment, and when all is over. Nothing of the program.
  Steps of the net: the invariant at every moment, who can go on, when all is over. Nothing of the program.
  The net: what is known, no company that waits for itself, rounds to the end, the beginning. Nothing of the program.
  The net at its beginning, and what it is held against: all that happens, one behind the other. Nothing of the program.
  The program: a process takes in what has come.
  The program: a process does what it is sure of.
-/
import Derived.Test.YtkobkilfbbalaaaK12
import Derived.Test.YtkobkilfbbalaaaK10
import Derived.Laws.OwnMore
namespace Go.Proofs.Ytkobkilfbbalaaa
open Go.RowKit Go.Sort Go.Maps

section
variable {m : Mdl} {en : Int} {F : Nat → List It} {C : Nat → List Int} {N : Nat → Nat} {s : NS}

theorem effo_msgs {p : Nat} {a a' : NP} (hp : s.ps[p]? = some a) (hh : a'.hr = a.hr) {o : List Pcl} (ho : ∀ y ∈ o, y.kd = 0) (hr : ∀ y ∈ o, y.k.toNat < s.ls.length) (k : Nat) : effo m ⟨s.ps.set p a', send s.ls o⟩ k = effo m s k := by
  have hpl := get_lt hp
  unfold effo
  cases hz : m.links[k]? with
  | none => rfl
  | some z =>
    simp only
    rw [send_get hr]
    have hl : ∀ c, lastHr c (s.ls.getD k [] ++ o.filter (fun x => decide (x.k.toNat = k))) = lastHr c (s.ls.getD k []) := fun c => by
      rw [lastHr_append]
      exact lastHr_msgs _ _ (fun y hy => ho y (List.mem_filter.1 hy).1)
    by_cases e : z.t.toNat = p
    · rw [e, List.getElem?_set_self hpl, hp]
      simp only
      rw [hl, hh]
    · rw [List.getElem?_set_ne (by omega)]
      cases s.ps[z.t.toNat]? with
      | none => rfl
      | some b => simp only; rw [hl]
theorem effo_deliver (hm : Right m) (h : NInv m en F N s) {p : Nat} {a : NP} (hp : s.ps[p]? = some a) (k : Nat) : effo m ⟨s.ps.set p (taken m s.ls p m.links.length a), drain m s.ls p m.links.length⟩ k = effo m s k := by
  have hpl := get_lt hp
  unfold effo
  cases hz : m.links[k]? with
  | none => rfl
  | some z =>
    simp only
    have hzb := hm.link hz
    have hdr : (drain m s.ls p m.links.length).getD k [] = if leads m p k = true then [] else s.ls.getD k [] := by
      rw [drain_get]
      by_cases e : leads m p k = true <;> simp [e, get_lt hz]
    by_cases e : z.t.toNat = p
    · rw [e, List.getElem?_set_self hpl, hp]
      simp only
      have hl : leads m p k = true := leads_iff.2 ⟨z, hz, by omega⟩
      rw [hdr, if_pos hl, h.taken_hr k (get_lt hz), boxI_leads hl]
      rfl
    · rw [List.getElem?_set_ne (by omega)]
      have hl : ¬ leads m p k = true := fun hl => by
        obtain ⟨z', hz', hzt⟩ := leads_iff.1 hl
        rw [hz] at hz'; cases hz'; omega
      rw [hdr, if_neg hl]

theorem doAll_msgs (m : Mdl) (num en : Int) (hm : Right m) : ∀ (l : List It) (a : NP), ∀ y ∈ (doAll m num en l (a, [])).2, y.kd = 0 ∧ y.k.toNat < m.links.length
  | [], _, y, hy => by simp [doAll] at hy
  | x :: l, a, y, hy => by
    have e1 : doAll m num en (x :: l) (a, []) = doAll m num en l ((doP m num en a x).1, (doP m num en a x).2) := rfl
    rw [e1, doAll_out] at hy
    rcases List.mem_append.1 hy with hy | hy
    · unfold doP at hy
      obtain ⟨e, he, rfl⟩ := List.mem_map.1 hy
      obtain ⟨z, h1, _⟩ := ruleOut_link hm (List.mem_filter.1 he).1
      exact ⟨rfl, get_lt h1⟩
    · exact doAll_msgs m num en hm l _ y hy
theorem doAll_len (m : Mdl) (num en : Int) (hm : Right m) : ∀ (l : List It) (a : NP), (∀ x ∈ l, 0 ≤ x.t ∧ x.t < 200) → (doAll m num en l (a, [])).2.length ≤ 4 * l.length
  | [], _, _ => by simp [doAll]
  | x :: l, a, h => by
    have e1 : doAll m num en (x :: l) (a, []) = doAll m num en l ((doP m num en a x).1, (doP m num en a x).2) := rfl
    rw [e1, doAll_out]
    have h1 := doAll_len m num en hm l (doP m num en a x).1 (fun y hy => h y (by simp [hy]))
    have h2 : (doP m num en a x).2.length ≤ 4 := by
      unfold doP
      rw [List.length_map]
      have hx := h x (by simp)
      exact Nat.le_trans (List.length_filter_le _ _) (ruleOut_ok hm hx.1 hx.2).1
    simp only [List.length_append, List.length_cons]
    omega

/-- how far p is sure, when all is taken in -/
def sureOf (m : Mdl) (en : Int) (s : NS) (p : Nat) (a : NP) : Int := hz en (taken m s.ls p m.links.length a).hr

theorem NInv.hzIs (hm : Right m) (h : NInv m en F N s) {p : Nat} {a : NP} (hp : s.ps[p]? = some a) : IsHz en a.hr (hz en a.hr) := by
  refine hz_is (fun k c hk => ?_)
  obtain ⟨h1, h2, _⟩ := (h.pi p a hp).hrd k c hk
  obtain ⟨z, hz, _⟩ := leads_iff.1 h2
  have := get_lt hz
  have := hm.lim.nl
  exact ⟨h1, by omega⟩

/-- THE STEP: what is kept and what grows -/
structure Went (m : Mdl) (en : Int) (F : Nat → List It) (N N' : Nat → Nat) (s s' : NS) (p : Nat) (a : NP) : Prop where
  inv : NInv m en F N' s'
  oth : ∀ q, q ≠ p → N' q = N q
  mine : N' p = N p + (toDo en (taken m s.ls p m.links.length a)).length
  eff : ∀ k, k < m.links.length → effm m en s k ≤ effm m en s' k
  ways : ∀ b, s'.ps[p]? = some b → ∀ w ∈ b.ws, min (sureOf m en s p a + w.a) en ≤ w.said
  rest : ∀ b, s'.ps[p]? = some b → ∀ x ∈ b.q, sureOf m en s p a ≤ x.t
  same : ∀ q, q ≠ p → s'.ps[q]? = s.ps[q]?

theorem NInv.went (hm : Right m) (hen0 : 0 ≤ en) (hen : en ≤ 200) (hF : Full m en F C) (h : NInv m en F N s) {p : Nat} {a : NP} (hp : s.ps[p]? = some a) : ∃ N', Went m en F N N' s (goOn m en s p) p a := by
  have hpl := get_lt hp
  have hpn : p < np m := by rw [← h.lp]; exact hpl
  have h1 := h.deliver hm hen hp
  obtain ⟨b, hb⟩ : ∃ b, b = taken m s.ls p m.links.length a := ⟨_, rfl⟩
  obtain ⟨T, hT⟩ : ∃ T, T = hz en b.hr := ⟨_, rfl⟩
  rw [← hb] at h1
  have hp1 : (⟨s.ps.set p b, drain m s.ls p m.links.length⟩ : NS).ps[p]? = some b := List.getElem?_set_self hpl
  have hHz := h1.hzIs hm hp1
  rw [← hT] at hHz
  have hP1 := h1.pi p b hp1
  have hT0 : 0 ≤ T := by
    rcases hHz.one with e | ⟨k, hk⟩
    · omega
    · exact (hP1.hrd k T hk).2.2.1
  have hPT : ∀ z ∈ m.links, z.t = (p : Int) → Prom F N z T := fun z hz hzt => by
    obtain ⟨k, hk⟩ := List.getElem?_of_mem hz
    have h2 := hP1.hrp k z hk hzt
    cases hc : b.hr (k : Int) with
    | none => rw [hc] at h2; exact h2.less hHz.top
    | some c => rw [hc] at h2; exact h2.less (hHz.low _ _ hc)
  have htr0 : transit m (drain m s.ls p m.links.length) p = [] := by
    unfold transit; rw [inbox_drain, if_pos rfl]; rfl
  -- the queue parted
  have hperm : b.q.Perm (toDo en b ++ left_ en b) := by
    unfold toDo left_
    refine List.Perm.trans ?_ ((srtI_perm _).symm.append_right _)
    have := List.filter_append_perm (fun x : It => decide (x.t < hz en b.hr)) b.q
    refine this.symm.trans (List.Perm.append_left _ (List.Perm.of_eq (List.filter_congr (fun x _ => ?_))))
    by_cases e : x.t < hz en b.hr <;> simp [e]
  have hlt : ∀ x ∈ toDo en b, x.t < T := fun x hx => by
    have := List.mem_filter.1 ((srtI_perm _).mem_iff.1 hx)
    rw [hT]; simpa using this.2
  have hrest : ∀ x ∈ left_ en b, T ≤ x.t := fun x hx => by
    have := (List.mem_filter.1 hx).2
    rw [hT]
    simp only [decide_eq_true_eq] at this
    omega
  have hsrt : (toDo en b).Pairwise It.lt := by
    refine srtI_srt ?_
    refine (h1.uq hp1).sub ?_
    exact (List.filter_sublist.trans (List.sublist_append_left _ _)).trans (List.sublist_append_left _ _)
  have h2 := h1.permq hp1 hperm
  have hp2 : (⟨(s.ps.set p b).set p { b with q := toDo en b ++ left_ en b }, drain m s.ls p m.links.length⟩ : NS).ps[p]? = some { b with q := toDo en b ++ left_ en b } := List.getElem?_set_self (by simpa using hpl)
  obtain ⟨N', h3, hoth, hmine, htr3⟩ := NInv.didAll hm hen hF hHz.top hrest (toDo en b) h2 hp2 rfl hsrt hlt hPT (fun y hy => by simp only at hy; rw [htr0] at hy; simp at hy)
  simp only [List.set_set] at h3 htr3
  rw [doAll_q m (p : Int) en (toDo en b ++ left_ en b) (toDo en b) b []] at h3 htr3
  simp only at h3 htr3
  obtain ⟨o, ho⟩ : ∃ o, o = (doAll m (p : Int) en (toDo en b) (b, [])).2 := ⟨_, rfl⟩
  obtain ⟨d, hd⟩ : ∃ d : NP, d = { (doAll m (p : Int) en (toDo en b) (b, [])).1 with q := left_ en b } := ⟨_, rfl⟩
  have hd3 : (⟨s.ps.set p d, send (drain m s.ls p m.links.length) o⟩ : NS).ps[p]? = some d := List.getElem?_set_self hpl
  rw [← ho, ← hd] at h3
  rw [← ho] at htr3
  have hkeep := doAll_keep m (p : Int) en (toDo en b) (b, [])
  have hdws : d.ws = b.ws := by rw [hd]; exact hkeep.2.2.1
  have hdhr : d.hr = b.hr := by rw [hd]; exact hkeep.2.1
  have hdq : d.q = left_ en b := by rw [hd]
  have hPT' : ∀ z ∈ m.links, z.t = (p : Int) → Prom F N' z T := fun z hz hzt => (hPT z hz hzt).more (fun q => by
    by_cases e : q = p
    · subst e; rw [hmine]; omega
    · rw [hoth q e]; exact Nat.le_refl _)
  have hlate : ∀ (i : Nat) (x : It), N' p ≤ i → (F p)[i]? = some x → T ≤ x.t := fun i x hi hx => by
    have := later_of hm hF hpn hPT' (L := T) (fun y hy hyp hyn hyt => by
      rcases (h3.comes hd3).2 ⟨y, mem_genE.2 ⟨hy, .inr hyt⟩, hyp, rfl⟩ with h4 | h4 | h4
      · rw [hdq] at h4; exact hrest _ h4
      · exact htr3 _ h4
      · exact absurd h4 hyn) i x hi hx
    exact this.elim id id
  obtain ⟨h4, heff⟩ := h3.saidAll hm hen0 hd3 hT0 hlate
  simp only [List.set_set] at h4 heff
  have hgo : goOn m en s p = ⟨s.ps.set p { d with ws := d.ws.map (wyN en T) }, send (send (drain m s.ls p m.links.length) o) (wyO en T d.ws)⟩ := by
    unfold goOn
    rw [hp]
    simp only
    rw [← hb]
    unfold advP
    simp only
    rw [doAll_q m (p : Int) en (left_ en b) (toDo en b) b []]
    simp only
    rw [hdws, hd, ho, hT, send_append]
  have hsure : sureOf m en s p a = T := by unfold sureOf; rw [← hb, hT]
  have heff1 : ∀ k, effm m en ⟨s.ps.set p d, send (drain m s.ls p m.links.length) o⟩ k = effm m en s k := fun k => by
    unfold effm
    have e1 := effo_msgs (m := m) hp1 (a' := d) hdhr (o := o) (fun y hy => by rw [ho] at hy; exact (doAll_msgs m _ en hm _ _ y hy).1) (fun y hy => by rw [ho] at hy; rw [h1.ll]; exact (doAll_msgs m _ en hm _ _ y hy).2) k
    simp only [List.set_set] at e1
    rw [e1, hb, effo_deliver hm h hp k]
  refine ⟨N', ⟨?_, hoth, ?_, ?_, ?_, ?_, ?_⟩⟩
  · rw [hgo]; exact h4
  · rw [← hb]; exact hmine
  · intro k hk
    rw [hgo, ← heff1 k]
    exact heff k hk
  · intro c hc w hw
    rw [hgo] at hc
    simp only [List.getElem?_set_self hpl, Option.some.injEq] at hc
    subst hc
    have hw : w ∈ d.ws.map (wyN en T) := hw
    obtain ⟨w0, _, rfl⟩ := List.mem_map.1 hw
    rw [hsure]
    have hlt : wyT en T w0 = min (T + w0.a) en := rfl
    unfold wyN
    by_cases e : w0.said < wyT en T w0
    · rw [if_pos e]; show min (T + w0.a) en ≤ wyT en T w0; omega
    · rw [if_neg e]; omega
  · intro c hc x hx
    rw [hgo] at hc
    simp only [List.getElem?_set_self hpl, Option.some.injEq] at hc
    subst hc
    have hx : x ∈ d.q := hx
    rw [hdq] at hx
    rw [hsure]
    exact hrest x hx
  · intro q hq
    rw [hgo]
    simp only
    rw [List.getElem?_set_ne (by omega)]

end

end Go.Proofs.Ytkobkilfbbalaaa

namespace Go.Proofs.Ytkobkilfbbalaaa
open Go.RowKit Go.Sort Go.Maps

/-! ### a number that falls -/
def sumN (l : List Nat) : Nat := l.foldr (· + ·) 0
theorem sumN_cons (x : Nat) (l : List Nat) : sumN (x :: l) = x + sumN l := rfl
theorem sumN_append : ∀ (a b : List Nat), sumN (a ++ b) = sumN a + sumN b
  | [], b => by simp [sumN]
  | x :: a, b => by rw [List.cons_append, sumN_cons, sumN_cons, sumN_append a b]; omega
theorem sumN_set : ∀ {l : List Nat} {i : Nat} {x y : Nat}, l[i]? = some x → sumN (l.set i y) + x = sumN l + y
  | [], i, x, y, h => by simp at h
  | z :: l, 0, x, y, h => by
    simp only [List.getElem?_cons_zero, Option.some.injEq] at h
    subst h
    rw [List.set_cons_zero, sumN_cons, sumN_cons]; omega
  | z :: l, i + 1, x, y, h => by
    simp only [List.getElem?_cons_succ] at h
    have := sumN_set (y := y) h
    rw [List.set_cons_succ, sumN_cons, sumN_cons]; omega

def wyR (en : Int) (w : Wy) : Nat := (en - w.said).toNat
def npR (en : Int) (a : NP) : Nat := 5 * (300 - a.dn.length) + 2 * sumN (a.ws.map (wyR en))
/-- how much can still happen in a net -/
def rest (en : Int) (s : NS) : Nat := sumN (s.ps.map (npR en)) + sumN (s.ls.map List.length)

theorem send1_sum {ls : List (List Pcl)} {x : Pcl} (h : x.k.toNat < ls.length) : sumN ((send1 ls x).map List.length) = sumN (ls.map List.length) + 1 := by
  obtain ⟨l, hl⟩ := get_of_lt h
  unfold send1
  rw [List.map_set]
  have h1 : (ls.map List.length)[x.k.toNat]? = some l.length := by rw [List.getElem?_map, hl]; rfl
  have := sumN_set (y := (ls.getD x.k.toNat [] ++ [x]).length) h1
  rw [getD_some hl] at this ⊢
  simp only [List.length_append, List.length_cons, List.length_nil] at this ⊢
  omega
theorem send_sum : ∀ {xs : List Pcl} {ls : List (List Pcl)}, (∀ x ∈ xs, x.k.toNat < ls.length) → sumN ((send ls xs).map List.length) = sumN (ls.map List.length) + xs.length
  | [], ls, _ => rfl
  | x :: xs, ls, h => by
    rw [send_cons, send_sum (fun y hy => by rw [send1_length]; exact h y (by simp [hy])), send1_sum (h x (by simp)), List.length_cons]; omega
theorem drain_sum (m : Mdl) (p : Nat) : ∀ (n : Nat) (ls : List (List Pcl)), n ≤ ls.length → sumN ((drain m ls p n).map List.length) + (inbox m ls p n).length = sumN (ls.map List.length)
  | 0, ls, _ => by
    have e : drain m ls p 0 = ls := by
      unfold drain
      apply List.ext_getElem?
      intro i
      rw [List.getElem?_mapIdx]
      cases ls[i]? <;> simp
    rw [e]; simp [inbox]
  | n + 1, ls, h => by
    have ih := drain_sum m p n ls (by omega)
    obtain ⟨l, hl⟩ := get_of_lt (d := ls) (k := n) (by omega)
    have e1 : inbox m ls p (n + 1) = inbox m ls p n ++ boxI m ls p n := by
      unfold inbox
      rw [List.range_succ, List.flatMap_append]; simp
    have hdn : (drain m ls p n)[n]? = some l := by
      unfold drain
      rw [List.getElem?_mapIdx, hl]; simp
    have e2 : drain m ls p (n + 1) = if leads m p n = true then (drain m ls p n).set n [] else drain m ls p n := by
      apply List.ext_getElem?
      intro i
      by_cases hlead : leads m p n = true
      · rw [if_pos hlead]
        by_cases e : i = n
        · subst e
          rw [List.getElem?_set_self (get_lt hdn)]
          unfold drain
          rw [List.getElem?_mapIdx, hl]; simp [hlead]
        · rw [List.getElem?_set_ne (by omega)]
          unfold drain
          rw [List.getElem?_mapIdx, List.getElem?_mapIdx]
          cases ls[i]? with
          | none => rfl
          | some x =>
            simp only [Option.map_some, Option.some.injEq]
            have : decide (i < n + 1) = decide (i < n) := by by_cases h1 : i < n <;> simp [h1] <;> omega
            rw [this]
      · rw [if_neg hlead]
        unfold drain
        rw [List.getElem?_mapIdx, List.getElem?_mapIdx]
        cases ls[i]? with
        | none => rfl
        | some x =>
          simp only [Option.map_some, Option.some.injEq]
          by_cases e : i = n
          · subst e; simp [hlead]
          · have : decide (i < n + 1) = decide (i < n) := by by_cases h1 : i < n <;> simp [h1] <;> omega
            rw [this]
    rw [e1, e2, List.length_append]
    by_cases hlead : leads m p n = true
    · rw [if_pos hlead, List.map_set, boxI_leads hlead, getD_some hl]
      have h1 : ((drain m ls p n).map List.length)[n]? = some l.length := by rw [List.getElem?_map, hdn]; rfl
      have := sumN_set (y := ([] : List Pcl).length) h1
      simp only [List.length_nil] at this ⊢
      omega
    · rw [if_neg hlead, boxI_not hlead]
      simp only [List.length_nil]
      omega
theorem words_sum (en T : Int) : ∀ (l : List Wy), (∀ w ∈ l, w.said ≤ en) → sumN ((l.map (wyN en T)).map (wyR en)) + (wyO en T l).length ≤ sumN (l.map (wyR en))
  | [], _ => by simp [wyO, sumN]
  | w :: l, h => by
    have ih := words_sum en T l (fun v hv => h v (by simp [hv]))
    have hw := h w (by simp)
    rw [wyO_cons, List.map_cons, List.map_cons, List.map_cons, sumN_cons, sumN_cons, List.length_append]
    by_cases e : w.said < wyT en T w
    · rw [if_pos e]
      have e3 : wyN en T w = { w with said := wyT en T w } := by unfold wyN; rw [if_pos e]
      rw [e3]
      have ht : wyT en T w ≤ en := by unfold wyT; omega
      have : wyR en { w with said := wyT en T w } + 1 ≤ wyR en w := by unfold wyR; simp only; omega
      simp only [List.length_cons, List.length_nil]
      omega
    · rw [if_neg e]
      have e3 : wyN en T w = w := by unfold wyN; rw [if_neg e]
      rw [e3]
      simp only [List.length_nil]
      omega

section
variable {m : Mdl} {en : Int} {F : Nat → List It} {C : Nat → List Int} {N : Nat → Nat} {s : NS}

theorem NInv.said_le (h : NInv m en F N s) {p : Nat} {a : NP} (hp : s.ps[p]? = some a) : ∀ w ∈ a.ws, -1 ≤ w.said ∧ w.said ≤ en := fun w hw => by
  have := h.sad p a hp w hw
  unfold SadOk effm at this
  omega
theorem NInv.dn_len (h : NInv m en F N s) {p : Nat} {a : NP} (hp : s.ps[p]? = some a) : a.dn.length = N p := by
  have hpn : p < np m := by rw [← h.lp]; exact get_lt hp
  rw [(h.pi p a hp).dn, hist_length]
  unfold cutI
  rw [List.length_take]
  have := h.nle p hpn
  omega

theorem rest_falls (hm : Right m) (hen0 : 0 ≤ en) (hen : en ≤ 200) (hF : Full m en F C) (hF3 : ∀ p, p < np m → (F p).length ≤ 300) (h : NInv m en F N s) {p : Nat} (hB : goOnB m en s p = true) : rest en (goOn m en s p) < rest en s := by
  cases hp : s.ps[p]? with
  | none => unfold goOnB at hB; rw [hp] at hB; cases hB
  | some a =>
    have hpn : p < np m := by rw [← h.lp]; exact get_lt hp
    obtain ⟨N', hW⟩ := h.went hm hen0 hen hF hp
    have h1 := h.deliver hm hen hp
    have hP1 := h1.pi p _ (List.getElem?_set_self (get_lt hp))
    have hdl := h.dn_len hp
    have hmine := hW.mine
    have hle' := hW.inv.nle p hpn
    have h300 := hF3 p hpn
    have hHz := h1.hzIs hm (List.getElem?_set_self (get_lt hp))
    have hkt := takeAll_keep (inbox m s.ls p m.links.length) a
    unfold goOnB at hB
    rw [hp] at hB
    simp only at hB
    unfold goOn
    rw [hp]
    simp only
    obtain ⟨b, hb⟩ : ∃ b, b = taken m s.ls p m.links.length a := ⟨_, rfl⟩
    rw [← hb] at hB hmine hP1 hHz ⊢
    have hbws : b.ws = a.ws := by rw [hb]; exact hkt.1
    have hbdn : b.dn = a.dn := by rw [hb]; exact hkt.2.2.2
    have hq := doAll_q m (p : Int) en (left_ en b) (toDo en b) b []
    have hkeep := doAll_keep m (p : Int) en (toDo en b) (b, [])
    have hlen := doAll_len m (p : Int) en hm (toDo en b) b (fun x hx => by
      have h2 := List.mem_filter.1 ((srtI_perm _).mem_iff.1 hx)
      have h3 := hP1.tim x h2.1
      have h4 := h2.2
      simp only [decide_eq_true_eq] at h4
      have := hHz.top
      omega)
    have hsum := words_sum en (hz en b.hr) b.ws (fun w hw => (h.said_le hp w (by rw [← hbws]; exact hw)).2)
    have hds := drain_sum m p m.links.length s.ls (by rw [h.ll]; exact Nat.le_refl _)
    have hadv2 : (advP m (p : Int) en b).2 = (doAll m (p : Int) en (toDo en b) (b, [])).2 ++ wyO en (hz en b.hr) b.ws := by unfold advP; simp only; rw [hq]
    have hadv1 : (advP m (p : Int) en b).1.dn.length = b.dn.length + (toDo en b).length ∧ (advP m (p : Int) en b).1.ws = b.ws.map (wyN en (hz en b.hr)) := by
      unfold advP
      simp only
      rw [hq]
      exact ⟨hkeep.2.2.2, trivial⟩
    have hrng : ∀ y ∈ (advP m (p : Int) en b).2, y.k.toNat < (drain m s.ls p m.links.length).length := fun y hy => by
      rw [drain_length, h.ll]
      rw [hadv2] at hy
      rcases List.mem_append.1 hy with hy | hy
      · exact (doAll_msgs m _ en hm _ _ y hy).2
      · obtain ⟨w, hw, _, rfl⟩ := mem_wyO hy
        obtain ⟨j, z, h2, _, h3, _⟩ := hP1.ways hw
        rw [(wyP_k en _ w).1]
        have := get_lt h2
        omega
    have hsend := send_sum hrng
    unfold rest
    simp only
    rw [hsend, List.map_set]
    have hpR : (s.ps.map (npR en))[p]? = some (npR en a) := by rw [List.getElem?_map, hp]; rfl
    have hset := sumN_set (y := npR en (advP m (p : Int) en b).1) hpR
    have hR1 : npR en (advP m (p : Int) en b).1 = 5 * (300 - (a.dn.length + (toDo en b).length)) + 2 * sumN ((b.ws.map (wyN en (hz en b.hr))).map (wyR en)) := by
      unfold npR; rw [hadv1.1, hadv1.2, hbdn]
    have hR2 : npR en a = 5 * (300 - a.dn.length) + 2 * sumN (b.ws.map (wyR en)) := by unfold npR; rw [hbws]
    have hout : (advP m (p : Int) en b).2.length = (doAll m (p : Int) en (toDo en b) (b, [])).2.length + (wyO en (hz en b.hr) b.ws).length := by rw [hadv2, List.length_append]
    have hfl : a.dn.length + (toDo en b).length ≤ 300 := by omega
    -- something has happened
    have hsome : 0 < (inbox m s.ls p m.links.length).length + (toDo en b).length + (wyO en (hz en b.hr) b.ws).length := by
      rcases Nat.eq_zero_or_pos ((inbox m s.ls p m.links.length).length + (toDo en b).length + (wyO en (hz en b.hr) b.ws).length) with e | e
      · exfalso
        have e1 : inbox m s.ls p m.links.length = [] := List.eq_nil_of_length_eq_zero (by omega)
        have e2 : toDo en b = [] := List.eq_nil_of_length_eq_zero (by omega)
        have e3 : (advP m (p : Int) en b).2 = [] := List.eq_nil_of_length_eq_zero (by rw [hout]; have : (doAll m (p : Int) en (toDo en b) (b, [])).2.length ≤ 4 * (toDo en b).length := hlen; omega)
        rw [e1, e2, e3] at hB
        simp at hB
      · exact e
    omega

/-- nothing has changed where a process can't go on -/
theorem calm_same {p : Nat} (h : goOnB m en s p = false) : goOn m en s p = s := by
  unfold goOnB at h
  unfold goOn
  cases hp : s.ps[p]? with
  | none => rfl
  | some a =>
    rw [hp] at h
    simp only at h ⊢
    simp only [Bool.or_eq_false_iff, Bool.not_eq_false', List.isEmpty_iff] at h
    obtain ⟨⟨h1, h2⟩, h3⟩ := h
    have hb : taken m s.ls p m.links.length a = a := by unfold taken; rw [h1]; rfl
    rw [hb] at h2 h3 ⊢
    have hq := doAll_q m (p : Int) en (left_ en a) (toDo en a) a []
    have hadv2 : (advP m (p : Int) en a).2 = (doAll m (p : Int) en (toDo en a) (a, [])).2 ++ wyO en (hz en a.hr) a.ws := by unfold advP; simp only; rw [hq]
    rw [h2]
    rw [hadv2] at h2
    have hw := (List.append_eq_nil_iff.1 h2).2
    have hleft : left_ en a = a.q := by
      have h4 : a.q.filter (fun x => decide (x.t < hz en a.hr)) = [] := by
        have := srtI_perm (a.q.filter (fun x => decide (x.t < hz en a.hr)))
        unfold toDo at h3
        rw [h3] at this
        exact (List.Perm.eq_nil this.symm)
      unfold left_
      rw [List.filter_eq_self]
      intro x hx
      have := (List.filter_eq_nil_iff.1 h4) x hx
      simp only [decide_eq_true_eq] at this
      simp only [decide_eq_true_eq]
      exact this
    have hws : a.ws.map (wyN en (hz en a.hr)) = a.ws := by
      unfold wyO at hw
      rw [List.map_eq_nil_iff, List.filter_eq_nil_iff] at hw
      have : a.ws.map (wyN en (hz en a.hr)) = a.ws.map id := List.map_congr_left (fun w hw' => by
        have := hw w hw'
        simp only [decide_eq_true_eq] at this
        unfold wyN
        rw [if_neg this]; rfl)
      rw [this, List.map_id]
    have hadv1 : (advP m (p : Int) en a).1 = a := by
      unfold advP
      simp only
      rw [h3]
      simp only [doAll]
      rw [hleft, hws]
    rw [hadv1, set_same hp]
    have hdr : drain m s.ls p m.links.length = s.ls := by
      unfold drain
      apply List.ext_getElem?
      intro i
      rw [List.getElem?_mapIdx]
      cases hl : s.ls[i]? with
      | none => rfl
      | some l =>
        simp only [Option.map_some, Option.some.injEq]
        split
        · rename_i hc
          simp only [Bool.and_eq_true, decide_eq_true_eq] at hc
          have : boxI m s.ls p i = [] := by
            unfold inbox at h1
            exact List.flatMap_eq_nil_iff.1 h1 i (by simpa using hc.1)
          rw [boxI_leads hc.2, getD_some hl] at this
          exact this.symm
        · rfl
    rw [hdr]
    rfl

end

end Go.Proofs.Ytkobkilfbbalaaa

namespace Go.Proofs.Ytkobkilfbbalaaa
open Go.RowKit Go.Sort Go.Maps

def itr (m : Mdl) (en : Int) (p : Nat) : Nat → NS → NS
  | 0, s => s
  | n + 1, s => itr m en p n (goOn m en s p)
theorem itr_succ (m : Mdl) (en : Int) (p : Nat) : ∀ (n : Nat) (s : NS), itr m en p (n + 1) s = goOn m en (itr m en p n s) p
  | 0, _ => rfl
  | n + 1, s => itr_succ m en p n (goOn m en s p)

/-- a whole step: p goes on till nothing changes -/
def Stepped (m : Mdl) (en : Int) (s s' : NS) (p : Nat) (b : Bool) : Prop :=
  ∃ k, (∀ i, i < k → goOnB m en (itr m en p i s) p = true) ∧ goOnB m en (itr m en p k s) p = false ∧ s' = itr m en p k s ∧ b = decide (0 < k)
theorem Stepped.unique {m : Mdl} {en : Int} {s s1 s2 : NS} {p : Nat} {b1 b2 : Bool} (h1 : Stepped m en s s1 p b1) (h2 : Stepped m en s s2 p b2) : s1 = s2 ∧ b1 = b2 := by
  obtain ⟨k1, a1, c1, rfl, rfl⟩ := h1
  obtain ⟨k2, a2, c2, rfl, rfl⟩ := h2
  have : k1 = k2 := by
    rcases Nat.lt_trichotomy k1 k2 with h | h | h
    · have := a2 k1 h; rw [c1] at this; cases this
    · exact h
    · have := a1 k2 h; rw [c2] at this; cases this
  subst this
  exact ⟨rfl, rfl⟩
theorem Stepped.calm {m : Mdl} {en : Int} {s s' : NS} {p : Nat} {b : Bool} (h : Stepped m en s s' p b) : goOnB m en s' p = false := by
  obtain ⟨k, _, c, rfl, _⟩ := h; exact c
theorem Stepped.no {m : Mdl} {en : Int} {s s' : NS} {p : Nat} (h : Stepped m en s s' p false) : s' = s ∧ goOnB m en s p = false := by
  obtain ⟨k, _, c, rfl, e⟩ := h
  have : k = 0 := by
    by_cases hk : 0 < k
    · simp [hk] at e
    · omega
  subst this
  exact ⟨rfl, c⟩
theorem Stepped.of_calm {m : Mdl} {en : Int} {s s' : NS} {p : Nat} {b : Bool} (h : Stepped m en s s' p b) (hc : goOnB m en s p = false) : s' = s ∧ b = false := by
  obtain ⟨k, a, _, rfl, rfl⟩ := h
  have : k = 0 := by
    rcases Nat.eq_zero_or_pos k with h | h
    · exact h
    · have := a 0 h; rw [show itr m en p 0 s = s from rfl, hc] at this; cases this
  subst this
  exact ⟨rfl, rfl⟩

section
variable {m : Mdl} {en : Int} {F : Nat → List It} {C : Nat → List Int} {N : Nat → Nat} {s : NS}

/-- what steps of p keep, and what grows by them -/
structure Moved (m : Mdl) (en : Int) (F : Nat → List It) (N N' : Nat → Nat) (s s' : NS) (p : Nat) : Prop where
  inv : NInv m en F N' s'
  oth : ∀ q, q ≠ p → N' q = N q
  mine : N p ≤ N' p
  eff : ∀ k, k < m.links.length → effm m en s k ≤ effm m en s' k
  same : ∀ q, q ≠ p → s'.ps[q]? = s.ps[q]?

theorem NInv.moved (hm : Right m) (hen0 : 0 ≤ en) (hen : en ≤ 200) (hF : Full m en F C) {p : Nat} : ∀ (k : Nat) {N : Nat → Nat} {s : NS}, NInv m en F N s → p < np m → ∃ N', Moved m en F N N' s (itr m en p k s) p
  | 0, N, s, h, _ => ⟨N, h, fun _ _ => rfl, Nat.le_refl _, fun _ _ => Int.le_refl _, fun _ _ => rfl⟩
  | k + 1, N, s, h, hp => by
    obtain ⟨a, ha⟩ := get_of_lt (d := s.ps) (k := p) (by rw [h.lp]; exact hp)
    obtain ⟨N1, hW⟩ := h.went hm hen0 hen hF ha
    obtain ⟨N2, hM⟩ := NInv.moved hm hen0 hen hF k hW.inv hp
    refine ⟨N2, hM.inv, fun q hq => (hM.oth q hq).trans (hW.oth q hq), ?_, fun j hj => Int.le_trans (hW.eff j hj) (hM.eff j hj), fun q hq => (hM.same q hq).trans (hW.same q hq)⟩
    have := hM.mine
    have := hW.mine
    omega
theorem NInv.stepped (hm : Right m) (hen0 : 0 ≤ en) (hen : en ≤ 200) (hF : Full m en F C) (h : NInv m en F N s) {p : Nat} (hp : p < np m) {s' : NS} {b : Bool} (hs : Stepped m en s s' p b) : ∃ N', Moved m en F N N' s s' p := by
  obtain ⟨k, _, _, rfl, _⟩ := hs
  exact h.moved hm hen0 hen hF k hp

/-! ### what is done is a beginning of what happens -/
theorem NInv.done (h : NInv m en F N s) {p : Nat} {a : NP} (hp : s.ps[p]? = some a) : a.dn = (hist m (p : Int) (F p)).take (N p) := by
  rw [(h.pi p a hp).dn]
  unfold cutI
  rw [hist_take]
theorem NInv.state (h : NInv m en F N s) {p : Nat} {a : NP} (hp : s.ps[p]? = some a) : (a.dn = [] ∧ a.st = 0) ∨ ∃ (l : List Dn) (d : Dn), a.dn = l ++ [d] ∧ a.st = d.st := by
  have hP := h.pi p a hp
  have h1 : a.st = (runP m (p : Int) (cutI F N p)).1 := by rw [← hP.run]
  rcases List.eq_nil_or_concat (cutI F N p) with e | ⟨l, x, e⟩
  · left
    rw [hP.dn, e, h1, e]
    exact ⟨rfl, rfl⟩
  · right
    rw [List.concat_eq_append] at e
    refine ⟨hist m (p : Int) l, ⟨x, (stepP m (p : Int) (runP m (p : Int) l) x).1⟩, ?_, ?_⟩
    · rw [hP.dn, e, hist_snoc]
    · rw [h1, e, runP_snoc]

/-! ### all is over -/
structure Idle (en : Int) (s : NS) : Prop where
  q : ∀ (p : Nat) (a : NP), s.ps[p]? = some a → ∀ x ∈ a.q, en ≤ x.t
  l : ∀ (k : Nat), ∀ y ∈ s.ls.getD k [], y.kd ≠ 0

theorem NInv.idle_all (hm : Right m) (hF : Full m en F C) (hpos : ∀ p, p < np m → ∀ x ∈ F p, 0 ≤ x.t) (h : NInv m en F N s) (hI : Idle en s) : ∀ p, p < np m → N p = (F p).length := by
  have htr : ∀ p, transit m s.ls p = [] := fun p => by
    cases ht : transit m s.ls p with
    | nil => rfl
    | cons x l =>
      obtain ⟨y, hy, hy0, _⟩ := mem_msgs.1 (show x ∈ msgs (inbox m s.ls p m.links.length) by rw [show msgs (inbox m s.ls p m.links.length) = transit m s.ls p from rfl, ht]; simp)
      obtain ⟨i, _, _, hy⟩ := mem_inbox.1 hy
      exact absurd hy0 (hI.l i y hy)
  have hall : ∀ (n : Nat) (p i : Nat) (x : It), p < np m → (F p)[i]? = some x → x.t < (n : Int) → i < N p := by
    intro n
    induction n with
    | zero =>
      intro p i x hp hx hlt
      have := hpos p hp x (List.mem_of_getElem? hx)
      omega
    | succ n ih =>
      intro p i x hp hx hlt
      obtain ⟨y, hy, hyp, hyx, _⟩ := hF.com p i x hp hx
      rcases Nat.lt_or_ge i (N p) with h1 | h1
      · exact h1
      · exfalso
        obtain ⟨a, ha⟩ := get_of_lt (d := s.ps) (k := p) (by rw [h.lp]; exact hp)
        have hlow := hF.low p hp x (List.mem_of_getElem? hx)
        rcases gen_cut N hy with h2 | ⟨q, j, x', e, hq, hj, hx', rfl, he⟩
        · rcases (h.comes ha).2 ⟨y, mem_genE.2 ⟨h2, .inr (by rw [hyx]; exact hlow)⟩, hyp, rfl⟩ with h3 | h3 | h3
          · have := hI.q p a ha _ h3
            rw [hyx] at this
            omega
          · rw [htr] at h3; simp at h3
          · rw [hyx] at h3
            exact not_in_cut (hF.srt p hp) hx h1 h3
        · obtain ⟨z, z1, _, _, _, z5, _, _⟩ := ruleOut_link hm he
          have hza := hm.link z1
          have h0 : x.t = e.it.t := by rw [← hyx]; rfl
          have := ih q j x' hq hx' (by omega)
          omega
  intro p hp
  have := h.nle p hp
  rcases Nat.lt_or_ge (N p) (F p).length with h1 | h1
  · obtain ⟨x, hx⟩ := get_of_lt h1
    have hlow := hF.low p hp x (List.mem_of_getElem? hx)
    have := hall en.toNat p (N p) x hp hx (by omega)
    omega
  · omega

end

end Go.Proofs.Ytkobkilfbbalaaa

namespace Go.Proofs.Ytkobkilfbbalaaa
open Go.RowKit Go.Sort Go.Maps

section
variable {m : Mdl} {en : Int} {F : Nat → List It} {C : Nat → List Int} {N : Nat → Nat} {s : NS}

theorem NInv.all_idle (hm : Right m) (hF : Full m en F C) (h : NInv m en F N s) (hN : ∀ p, p < np m → N p = (F p).length) : Idle en s := by
  have key : ∀ (p : Nat) (a : NP), s.ps[p]? = some a → ∀ x, x ∈ a.q ++ transit m s.ls p → x.t < en → False := by
    intro p a ha x hx hlt
    have hpn : p < np m := by rw [← h.lp]; exact get_lt ha
    obtain ⟨y, hy, hyp, hyx⟩ := (h.comes ha).1 ((List.mem_append.1 hx).elim .inl (fun e => .inr (.inl e)))
    obtain ⟨p', i, _, h1, h2, _⟩ := hF.gen y (cut_gen (mem_genE.1 hy).1) (by rw [hyx]; exact hlt)
    have e : p' = p := by omega
    subst e
    rw [hyx] at h2
    have hc : x ∈ cutI F N p' := by
      unfold cutI
      rw [hN p' hpn, List.take_length]
      exact List.mem_of_getElem? h2
    exact (h.uq ha).not_both hx hc
  refine ⟨fun p a ha x hx => ?_, fun k y hy h0 => ?_⟩
  · rcases Int.lt_or_le x.t en with h1 | h1
    · exact (key p a ha x (List.mem_append_left _ hx) h1).elim
    · exact h1
  · have hk : k < m.links.length := by
      rcases Nat.lt_or_ge k m.links.length with h1 | h1
      · exact h1
      · rw [List.getD_eq_getElem?_getD, List.getElem?_eq_none (by rw [h.ll]; exact h1)] at hy
        simp at hy
    obtain ⟨z, hz⟩ := get_of_lt hk
    have hzb := hm.link hz
    obtain ⟨a, ha⟩ := get_of_lt (d := s.ps) (k := z.t.toNat) (by rw [h.lp]; unfold np; omega)
    rcases (h.lnk k z hz y hy).2 with h1 | h1 | h1
    · refine key _ a ha y.it (List.mem_append_right _ ?_) h1.2.2
      exact mem_msgs.2 ⟨y, mem_inbox.2 ⟨k, hk, leads_iff.2 ⟨z, hz, by omega⟩, hy⟩, h0, rfl⟩
    · omega
    · omega

/-! ### P8 -/
theorem NInv.cause (hF : Full m en F C) (h : NInv m en F N s) {p i q : Nat} {x : It} (hp : p < np m) (hi : i < N p) (hx : (F p)[i]? = some x) (hq : x.f = (q : Int)) : ∃ j : Nat, (C p)[i]? = some (j : Int) ∧ j < N q := by
  obtain ⟨a, ha⟩ := get_of_lt (d := s.ps) (k := p) (by rw [h.lp]; exact hp)
  have hc : x ∈ cutI F N p := List.mem_of_getElem? (take_get.2 ⟨hi, hx⟩)
  obtain ⟨y, hy, hyp, hyx⟩ := (h.comes ha).1 (.inr (.inr hc))
  exact cause_done hF hp (mem_genE.1 hy).1 hyp (by rw [hyx]; exact hx) (by rw [hyx]; exact hq)
/-- how many of a list have times up to t -/
def upTo (l : List It) (t : Int) : Nat := (l.filter (fun x => decide (x.t ≤ t))).length
theorem NInv.known (h : NInv m en F N s) {p i : Nat} {x : It} (hp : p < np m) (hi : i < N p) (hx : (F p)[i]? = some x) {z : MLink} (hz : z ∈ m.links) (hzt : z.t = (p : Int)) : upTo (F z.f.toNat) (x.t - z.a) ≤ N z.f.toNat := by
  have hP := h.kn p i x hp hi hx z hz hzt
  unfold upTo
  rw [← List.take_append_drop (N z.f.toNat) (F z.f.toNat), List.filter_append, List.length_append]
  have h1 : ((F z.f.toNat).drop (N z.f.toNat)).filter (fun y => decide (y.t ≤ x.t - z.a)) = [] := by
    rw [List.filter_eq_nil_iff]
    intro y hy
    obtain ⟨j, hj⟩ := List.getElem?_of_mem hy
    rw [List.getElem?_drop] at hj
    have := hP (N z.f.toNat + j) y (by omega) hj
    simp; omega
  rw [h1]
  have h2 := List.length_filter_le (fun y : It => decide (y.t ≤ x.t - z.a)) ((F z.f.toNat).take (N z.f.toNat))
  rw [List.length_take] at h2
  simp only [List.length_nil]
  omega

/-! ### who is sure of what -/
theorem effo_taken (h : NInv m en F N s) {p : Nat} {a : NP} (hp : s.ps[p]? = some a) {k : Nat} (hl : leads m p k = true) : effo m s k = (taken m s.ls p m.links.length a).hr (k : Int) := by
  obtain ⟨z, hz, hzt⟩ := leads_iff.1 hl
  rw [h.taken_hr k (get_lt hz), boxI_leads hl]
  unfold effo
  rw [hz]
  simp only
  rw [show z.t.toNat = p by omega, hp]
theorem sure_ge (hm : Right m) (hen : en ≤ 200) (h : NInv m en F N s) {p : Nat} {a : NP} (hp : s.ps[p]? = some a) {T : Int} (hTe : T ≤ en) (hT : ∀ k, k < m.links.length → T ≤ effm m en s k) : T ≤ sureOf m en s p a := by
  have h1 := h.deliver hm hen hp
  have hp1 : (⟨s.ps.set p (taken m s.ls p m.links.length a), drain m s.ls p m.links.length⟩ : NS).ps[p]? = some (taken m s.ls p m.links.length a) := List.getElem?_set_self (get_lt hp)
  have hHz := h1.hzIs hm hp1
  unfold sureOf
  rcases hHz.one with e | ⟨k, hk⟩
  · omega
  · obtain ⟨hk0, hkl, _⟩ := (h1.pi p _ hp1).hrd k _ hk
    obtain ⟨z, hz, _⟩ := leads_iff.1 hkl
    have h2 := hT k.toNat (get_lt hz)
    have h3 := effo_taken h hp hkl
    rw [Int.toNat_of_nonneg hk0] at h3
    rw [hk] at h3
    unfold effm at h2
    rw [h3] at h2
    simp only [Option.getD_some] at h2
    omega
theorem eff_pos (hm : Right m) (hen0 : 0 ≤ en) (h : NInv m en F N s) {k : Nat} (hk : k < m.links.length) : 0 ≤ effm m en s k := by
  obtain ⟨z, hz⟩ := get_of_lt hk
  have hzb := hm.link hz
  obtain ⟨a, ha⟩ := get_of_lt (d := s.ps) (k := z.t.toNat) (by rw [h.lp]; unfold np; omega)
  unfold effm
  have e : effo m s k = lastHr (a.hr (k : Int)) (s.ls.getD k []) := by unfold effo; rw [hz]; simp only; rw [ha]
  rw [e]
  cases hc : lastHr (a.hr (k : Int)) (s.ls.getD k []) with
  | none => simp; omega
  | some c =>
    rcases lastHr_some hc with h1 | ⟨y, hy, h1, h2⟩
    · have := ((h.pi _ a ha).hrd _ c h1).2.2.1
      simp; omega
    · rcases (h.lnk k z hz y hy).2 with h3 | h3 | h3
      · omega
      · simp; omega
      · omega
theorem NInv.calm_ways (hm : Right m) (hen0 : 0 ≤ en) (hen : en ≤ 200) (hF : Full m en F C) (h : NInv m en F N s) {p : Nat} {a : NP} (hp : s.ps[p]? = some a) (hc : goOnB m en s p = false) : (∀ w ∈ a.ws, min (sureOf m en s p a + w.a) en ≤ w.said) ∧ (∀ x ∈ a.q, sureOf m en s p a ≤ x.t) ∧ inbox m s.ls p m.links.length = [] := by
  obtain ⟨N', hW⟩ := h.went hm hen0 hen hF hp
  have hs := calm_same hc
  have h1 := hW.ways
  have h2 := hW.rest
  rw [hs] at h1 h2
  refine ⟨h1 a hp, h2 a hp, ?_⟩
  unfold goOnB at hc
  rw [hp] at hc
  simp only [Bool.or_eq_false_iff, Bool.not_eq_false', List.isEmpty_iff] at hc
  exact hc.1.1
/-- behind a step of p its links say what it is sure of, and their Ahead -/
theorem NInv.calm_up (hm : Right m) (hen0 : 0 ≤ en) (hen : en ≤ 200) (hF : Full m en F C) (h : NInv m en F N s) {p : Nat} (hp : p < np m) (hc : goOnB m en s p = false) {T : Int} (hTe : T ≤ en) (hT : ∀ k, k < m.links.length → T ≤ effm m en s k) {k : Nat} {z : MLink} (hz : m.links[k]? = some z) (hzf : z.f = (p : Int)) : min (T + 1) en ≤ effm m en s k := by
  obtain ⟨a, ha⟩ := get_of_lt (d := s.ps) (k := p) (by rw [h.lp]; exact hp)
  obtain ⟨w, hw, hwk, hwa⟩ := (h.pi p a ha).way_of hz hzf
  have h1 := (h.calm_ways hm hen0 hen hF ha hc).1 w hw
  have h2 := sure_ge hm hen h ha hTe hT
  have h3 := h.sad p a ha w hw
  unfold SadOk at h3
  rw [show w.k.toNat = k by omega] at h3
  have := hm.link hz
  omega
/-- if none can go on, all is heard to the end -/
theorem NInv.calm_all (hm : Right m) (hen0 : 0 ≤ en) (hen : en ≤ 200) (hF : Full m en F C) (h : NInv m en F N s) (hc : ∀ p, p < np m → goOnB m en s p = false) : ∀ (n : Nat), (n : Int) ≤ en → ∀ k, k < m.links.length → (n : Int) ≤ effm m en s k
  | 0, _, k, hk => eff_pos hm hen0 h hk
  | n + 1, hn, k, hk => by
    obtain ⟨z, hz⟩ := get_of_lt hk
    have hzb := hm.link hz
    have ih := NInv.calm_all hm hen0 hen hF h hc n (by omega)
    have := h.calm_up hm hen0 hen hF (p := z.f.toNat) (by unfold np; omega) (hc _ (by unfold np; omega)) (T := (n : Int)) (by omega) ih hz (by omega)
    omega
theorem NInv.calm_idle (hm : Right m) (hen0 : 0 ≤ en) (hen : en ≤ 200) (hF : Full m en F C) (h : NInv m en F N s) (hc : ∀ p, p < np m → goOnB m en s p = false) : Idle en s := by
  have heff : ∀ k, k < m.links.length → en ≤ effm m en s k := fun k hk => by
    have := h.calm_all hm hen0 hen hF hc en.toNat (by omega) k hk
    omega
  refine ⟨fun p a ha x hx => ?_, fun k y hy h0 => ?_⟩
  · have hpn : p < np m := by rw [← h.lp]; exact get_lt ha
    have h1 := (h.calm_ways hm hen0 hen hF ha (hc p hpn)).2.1 x hx
    have h2 := sure_ge hm hen h ha (Int.le_refl _) heff
    omega
  · have hk : k < m.links.length := by
      rcases Nat.lt_or_ge k m.links.length with h1 | h1
      · exact h1
      · rw [List.getD_eq_getElem?_getD, List.getElem?_eq_none (by rw [h.ll]; exact h1)] at hy
        simp at hy
    obtain ⟨z, hz⟩ := get_of_lt hk
    have hzb := hm.link hz
    have hpn : z.t.toNat < np m := by unfold np; omega
    obtain ⟨a, ha⟩ := get_of_lt (d := s.ps) (k := z.t.toNat) (by rw [h.lp]; exact hpn)
    have h1 := (h.calm_ways hm hen0 hen hF ha (hc _ hpn)).2.2
    have : y ∈ inbox m s.ls z.t.toNat m.links.length := mem_inbox.2 ⟨k, hk, leads_iff.2 ⟨z, hz, by omega⟩, hy⟩
    rw [h1] at this
    simp at this

/-! ### rounds -/
/-- p has done all and said all -/
def FinP (en : Int) (F : Nat → List It) (N : Nat → Nat) (s : NS) (q : Nat) : Prop := N q = (F q).length ∧ ∀ a, s.ps[q]? = some a → ∀ w ∈ a.ws, w.said = en

/-- i rounds are behind us, and of the next one the processes below p -/
structure Rnd (m : Mdl) (en : Int) (F : Nat → List It) (N : Nat → Nat) (i p : Nat) (s : NS) : Prop where
  inv : NInv m en F N s
  lev : ∀ k, k < m.links.length → min (i : Int) en ≤ effm m en s k
  up : ∀ (k : Nat) (z : MLink), m.links[k]? = some z → z.f < (p : Int) → min ((i : Int) + 1) en ≤ effm m en s k
  fin : en ≤ (i : Int) → ∀ q, q < np m → (q < p ∨ en + 1 ≤ (i : Int)) → FinP en F N s q
  calm : en + 1 ≤ (i : Int) → ∀ q, q < np m → (q < p ∨ en + 2 ≤ (i : Int)) → goOnB m en s q = false

theorem rnd_zero (hm : Right m) (hen0 : 0 ≤ en) (h : NInv m en F N s) : Rnd m en F N 0 0 s := by
  refine ⟨h, fun k hk => ?_, fun k z hz hf => ?_, fun he q hq hd => ?_, fun he q hq hd => ?_⟩
  · have := eff_pos hm hen0 h hk; omega
  · have := hm.link hz; omega
  · rcases hd with hd | hd
    · omega
    · omega
  · rcases hd with hd | hd
    · omega
    · omega
theorem rnd_next (hm : Right m) {i : Nat} (h : Rnd m en F N i (np m) s) : Rnd m en F N (i + 1) 0 s := by
  refine ⟨h.inv, fun k hk => ?_, fun k z hz hf => ?_, fun he q hq hd => ?_, fun he q hq hd => ?_⟩
  · obtain ⟨z, hz⟩ := get_of_lt hk
    have hzb := hm.link hz
    have := h.up k z hz (by unfold np; omega)
    omega
  · have := hm.link hz; omega
  · rcases hd with hd | hd
    · omega
    · exact h.fin (by omega) q hq (.inl hq)
  · rcases hd with hd | hd
    · omega
    · exact h.calm (by omega) q hq (.inl hq)

/-- when all is done and said, a process that goes on changes nothing for the others -/
theorem fin_quiet (hm : Right m) (hen0 : 0 ≤ en) (hen : en ≤ 200) (hF : Full m en F C) (h : NInv m en F N s) {p : Nat} {a : NP} (hp : s.ps[p]? = some a) (hf : FinP en F N s p) : (goOn m en s p).ls = drain m s.ls p m.links.length := by
  have hpn : p < np m := by rw [← h.lp]; exact get_lt hp
  obtain ⟨N', hW⟩ := h.went hm hen0 hen hF hp
  have h0 : (toDo en (taken m s.ls p m.links.length a)) = [] := by
    have h1 := hW.mine
    have h2 := hW.inv.nle p hpn
    rw [hf.1] at h1
    exact List.eq_nil_of_length_eq_zero (by omega)
  have hws : (taken m s.ls p m.links.length a).ws = a.ws := (takeAll_keep _ a).1
  unfold goOn
  rw [hp]
  simp only
  generalize hb : taken m s.ls p m.links.length a = b at *
  have hq := doAll_q m (p : Int) en (left_ en b) (toDo en b) b []
  have hadv2 : (advP m (p : Int) en b).2 = (doAll m (p : Int) en (toDo en b) (b, [])).2 ++ wyO en (hz en b.hr) b.ws := by unfold advP; simp only; rw [hq]
  have hw : wyO en (hz en b.hr) b.ws = [] := by
    unfold wyO
    rw [List.map_eq_nil_iff, List.filter_eq_nil_iff]
    intro w hw
    rw [hws] at hw
    have := hf.2 a hp w hw
    simp only [decide_eq_true_eq]
    unfold wyT
    omega
  rw [hadv2, h0, hw]
  rfl
theorem goOnB_ext {s s' : NS} {q : Nat} (h1 : s'.ps[q]? = s.ps[q]?) (h2 : inbox m s'.ls q m.links.length = inbox m s.ls q m.links.length) : goOnB m en s' q = goOnB m en s q := by
  unfold goOnB taken
  rw [h1, h2]
theorem fin_calm (hm : Right m) (hen0 : 0 ≤ en) (hen : en ≤ 200) (hF : Full m en F C) {p : Nat} : ∀ (k : Nat) {N : Nat → Nat} {s : NS}, NInv m en F N s → p < np m → FinP en F N s p → ∀ q, q ≠ p → goOnB m en (itr m en p k s) q = goOnB m en s q
  | 0, _, _, _, _, _, _, _ => rfl
  | k + 1, N, s, h, hp, hf, q, hq => by
    obtain ⟨a, ha⟩ := get_of_lt (d := s.ps) (k := p) (by rw [h.lp]; exact hp)
    obtain ⟨N1, hW⟩ := h.went hm hen0 hen hF ha
    have hf1 : FinP en F N1 (goOn m en s p) p := by
      have h1 := hW.mine
      have h2 := hW.inv.nle p hp
      refine ⟨by have := hf.1; omega, fun b hb w hw => ?_⟩
      have h3 : b.ws = a.ws.map (wyN en (hz en (taken m s.ls p m.links.length a).hr)) := by
        unfold goOn at hb
        rw [ha] at hb
        simp only [List.getElem?_set_self (get_lt ha), Option.some.injEq] at hb
        subst hb
        show ((taken m s.ls p m.links.length a).ws).map _ = _
        rw [show (taken m s.ls p m.links.length a).ws = a.ws from (takeAll_keep _ a).1]
      rw [h3] at hw
      obtain ⟨w0, hw0, rfl⟩ := List.mem_map.1 hw
      have := hf.2 a ha w0 hw0
      unfold wyN
      rw [if_neg (by unfold wyT; omega)]
      exact this
    have h4 := fin_calm hm hen0 hen hF k hW.inv hp hf1 q hq
    show goOnB m en (itr m en p k (goOn m en s p)) q = _
    rw [h4]
    refine goOnB_ext (hW.same q hq) ?_
    rw [fin_quiet hm hen0 hen hF h ha hf, inbox_drain, if_neg hq]

theorem rnd_step (hm : Right m) (hen0 : 0 ≤ en) (hen : en ≤ 200) (hF : Full m en F C) {i p : Nat} (h : Rnd m en F N i p s) (hp : p < np m) {s' : NS} {b : Bool} (hs : Stepped m en s s' p b) : ∃ N', Rnd m en F N' i (p + 1) s' ∧ Moved m en F N N' s s' p := by
  obtain ⟨N', hM⟩ := h.inv.stepped hm hen0 hen hF hp hs
  have hcalm := hs.calm
  have hlev : ∀ k, k < m.links.length → min (i : Int) en ≤ effm m en s' k := fun k hk => Int.le_trans (h.lev k hk) (hM.eff k hk)
  obtain ⟨a, ha⟩ := get_of_lt (d := s'.ps) (k := p) (by rw [hM.inv.lp]; exact hp)
  have hcw := hM.inv.calm_ways hm hen0 hen hF ha hcalm
  -- when all is heard to the end, p is through
  have hthrough : en ≤ (i : Int) → FinP en F N' s' p := fun he => by
    have hsure : en ≤ sureOf m en s' p a := sure_ge hm hen hM.inv ha (Int.le_refl _) (fun k hk => by have := hlev k hk; omega)
    refine ⟨?_, fun a' ha' w hw => ?_⟩
    · have hle := hM.inv.nle p hp
      rcases Nat.lt_or_ge (N' p) (F p).length with h1 | h1
      · exfalso
        obtain ⟨x, hx⟩ := get_of_lt h1
        have hlow := hF.low p hp x (List.mem_of_getElem? hx)
        -- what is not done is not below what p is sure of
        have hT : ∀ z ∈ m.links, z.t = (p : Int) → Prom F N' z en := fun z hz hzt => by
          obtain ⟨k, hk⟩ := List.getElem?_of_mem hz
          have h2 := (hM.inv.deliver hm hen ha).pi p _ (List.getElem?_set_self (get_lt ha))
          have h3 := h2.hrp k z hk hzt
          have hHz := (hM.inv.deliver hm hen ha).hzIs hm (List.getElem?_set_self (get_lt ha))
          unfold sureOf at hsure
          cases hc : (taken m s'.ls p m.links.length a).hr (k : Int) with
          | none => rw [hc] at h3; exact h3
          | some c => rw [hc] at h3; exact h3.less (Int.le_trans hsure (hHz.low _ _ hc))
        have := later_of hm hF hp hT (L := en) (fun y hy hyp hyn hyt => by
          rcases (hM.inv.comes ha).2 ⟨y, mem_genE.2 ⟨hy, .inr hyt⟩, hyp, rfl⟩ with h4 | h4 | h4
          · have := hcw.2.1 _ h4; omega
          · unfold transit at h4
            rw [hcw.2.2] at h4
            simp [msgs] at h4
          · exact absurd h4 hyn) (N' p) x (Nat.le_refl _) hx
        omega
      · omega
    · rw [ha] at ha'; cases ha'
      have h1 := hcw.1 w hw
      have h2 := (hM.inv.said_le ha w hw).2
      obtain ⟨j, z, hz, _, _, hwa⟩ := (hM.inv.pi p a ha).ways hw
      have := hm.link hz
      omega
  refine ⟨N', ⟨hM.inv, hlev, fun k z hz hf => ?_, fun he q hq hd => ?_, fun he q hq hd => ?_⟩, hM⟩
  · by_cases e : z.f = (p : Int)
    · have := hM.inv.calm_up hm hen0 hen hF hp hcalm (T := min (i : Int) en) (by omega) hlev hz e
      omega
    · exact Int.le_trans (h.up k z hz (by omega)) (hM.eff k (get_lt hz))
  · by_cases e : q = p
    · subst e; exact hthrough he
    · have := h.fin he q hq (by omega)
      unfold FinP at this ⊢
      rw [hM.oth q e, hM.same q e]
      exact this
  · by_cases e : q = p
    · subst e; exact hcalm
    · have h1 := h.calm he q hq (by omega)
      obtain ⟨k, _, _, rfl, _⟩ := hs
      rw [fin_calm hm hen0 hen hF k h.inv hp (h.fin (by omega) p hp (.inr he)) q e]
      exact h1

end

end Go.Proofs.Ytkobkilfbbalaaa

namespace Go.Proofs.Ytkobkilfbbalaaa
open Go.RowKit Go.Sort Go.Maps

def openP (m : Mdl) (p : Nat) : NP := ⟨atP p (c0 m).wait, hear0 m (p : Int) m.links.length, ways0 m (p : Int) m.links.length, 0, 0, []⟩
def openN (m : Mdl) : NS := ⟨(List.range (np m)).map (openP m), List.replicate m.links.length []⟩

theorem openN_get {m : Mdl} {p : Nat} {a : NP} (h : (openN m).ps[p]? = some a) : p < np m ∧ a = openP m p := by
  have h1 := get_lt h
  simp only [openN, List.length_map, List.length_range] at h1
  simp only [openN, List.getElem?_map, List.getElem?_range h1, Option.map_some, Option.some.injEq] at h
  exact ⟨h1, h.symm⟩
theorem openN_links (m : Mdl) (k : Nat) : (openN m).ls.getD k [] = [] := getD_nil _ _
theorem hear0_some {m : Mdl} {p k c : Int} {n : Nat} (h : hear0 m p n k = some c) : 0 ≤ k ∧ k < (n : Int) ∧ ∃ z, m.links[k.toNat]? = some z ∧ z.t = p ∧ z.a = c := by
  unfold hear0 at h
  split at h
  · rename_i hk
    refine ⟨hk.1, hk.2, ?_⟩
    split at h
    · rename_i z hz
      split at h
      · rename_i ht
        cases h
        exact ⟨z, hz, ht, rfl⟩
      · cases h
    · cases h
  · cases h
theorem hear0_at {m : Mdl} {p : Int} {k : Nat} {z : MLink} (hz : m.links[k]? = some z) (ht : z.t = p) : hear0 m p m.links.length (k : Int) = some z.a := by
  unfold hear0
  have := get_lt hz
  rw [if_pos ⟨by omega, by omega⟩]
  simp [hz, ht]

theorem ninv_open {m : Mdl} (hm : Right m) {en : Int} (hen0 : 0 ≤ en) {F : Nat → List It} (hpos : ∀ p, p < np m → ∀ x ∈ F p, 0 ≤ x.t) : NInv m en F (fun _ => 0) (openN m) := by
  have hcut : ∀ p, cutI F (fun _ => 0) p = [] := fun p => by simp [cutI]
  have hbox : ∀ p n, inbox m (openN m).ls p n = [] := fun p n => by
    unfold inbox
    rw [List.flatMap_eq_nil_iff]
    intro i _
    unfold boxI
    rw [openN_links]; simp
  refine ⟨by simp [openN], by simp [openN], fun _ _ => Nat.zero_le _, fun p a ha => ?_, fun k z hz x hx => ?_, fun p a ha w hw => ?_, fun p i x _ hi => by omega⟩
  · obtain ⟨hpn, rfl⟩ := openN_get ha
    refine ⟨?_, ?_, ?_, fun x hx => ?_, fun k c hc => ?_, fun k z hz hzt => ?_, rfl⟩
    · rw [hcut]; rfl
    · rw [hcut]; rfl
    · rw [hcut, List.append_nil]
      unfold transit
      rw [hbox]
      refine List.Perm.of_eq ?_
      show atP p (m.starts.mapIdx initEv) ++ [] = _
      rw [List.append_nil]
      unfold genE genAll
      have e1 : (List.range (np m)).flatMap (fun q : Nat => emsP m (q : Int) (cutI F (fun _ => 0) q)) = [] := by
        rw [List.flatMap_eq_nil_iff]
        intro q _
        rw [hcut]; rfl
      rw [e1, List.append_nil]
      congr 1
      symm
      rw [List.filter_eq_self]
      intro y hy
      obtain ⟨i, hi⟩ := List.getElem?_of_mem hy
      rw [List.getElem?_mapIdx] at hi
      obtain ⟨st, _, rfl⟩ := Option.map_eq_some_iff.1 hi
      simp [initEv]
    · obtain ⟨e, he, _, rfl⟩ := mem_atP.1 (show x ∈ atP p (m.starts.mapIdx initEv) from hx)
      obtain ⟨i, hi⟩ := List.getElem?_of_mem he
      rw [List.getElem?_mapIdx] at hi
      obtain ⟨st, hst, rfl⟩ := Option.map_eq_some_iff.1 hi
      have := hm.start hst
      show 0 ≤ st.t ∧ st.t ≤ 200
      omega
    · obtain ⟨h1, h2, z, h3, h4, h5⟩ := hear0_some hc
      have := hm.link h3
      exact ⟨h1, leads_iff.2 ⟨z, h3, h4⟩, by omega, by omega⟩
    · show Prom F _ z ((hear0 m (p : Int) m.links.length (k : Int)).getD en)
      rw [hear0_at hz hzt]
      intro i x _ hx
      have hzb := hm.link hz
      have := hpos z.f.toNat (by unfold np; omega) x (List.mem_of_getElem? hx)
      simp only [Option.getD_some]
      omega
  · rw [openN_links] at hx; simp at hx
  · obtain ⟨hpn, rfl⟩ := openN_get ha
    obtain ⟨j, z, hj, hz, hzf, hwk, hwa, hws⟩ := ways0_mem (show w ∈ ways0 m (p : Int) m.links.length from hw)
    have hzb := hm.link hz
    have hq : z.t.toNat < np m := by unfold np; omega
    have hget : (openN m).ps[z.t.toNat]? = some (openP m z.t.toNat) := by simp [openN, hq]
    have heff : effm m en (openN m) w.k.toNat = min z.a en := by
      unfold effm effo
      rw [show w.k.toNat = j by omega, hz]
      simp only
      rw [hget]
      simp only
      rw [openN_links]
      show min ((hear0 m ((z.t.toNat : Nat) : Int) m.links.length (j : Int)).getD en) en = _
      rw [hear0_at hz (by omega)]
      rfl
    unfold SadOk
    rw [heff]
    omega

/-! ### all that happens -/
theorem done_pos {m : Mdl} (hm : Right m) {en : Int} (hen : en ≤ 200) : ∀ (k : Nat), ∀ l ∈ (atK m en k).done, ∀ d ∈ l, 0 ≤ d.it.t
  | 0, l, hl, d, hd => by
    have : l = [] := (List.mem_replicate.1 hl).2
    rw [this] at hd; simp at hd
  | k + 1, l, hl, d, hd => by
    have ih := done_pos hm hen k
    have hI := atK_inv hm hen k
    have hstep : atK m en (k + 1) = stepF m en (atK m en k) := rfl
    rw [hstep] at hl
    unfold stepF at hl
    split at hl
    · exact ih l hl d hd
    · rename_i j hj
      split at hl
      · exact ih l hl d hd
      · rename_i e he
        obtain ⟨h0, h1, h2, _⟩ := hI.ev e (List.mem_of_getElem? he)
        have hpn : e.p.toNat < np m := by unfold np; omega
        obtain ⟨st, hst⟩ := get_of_lt (d := (atK m en k).states) (k := e.p.toNat) (by rw [hI.ls]; exact hpn)
        obtain ⟨sq, hsq⟩ := get_of_lt (d := (atK m en k).seqs) (k := e.p.toNat) (by rw [hI.lq]; exact hpn)
        obtain ⟨dl, hdl⟩ := get_of_lt (d := (atK m en k).done) (k := e.p.toNat) (by rw [hI.ld]; exact hpn)
        rw [(doEv_out2 (m := m) (c := atK m en k) (j := j) (e := e) hst hsq hdl).1] at hl
        obtain ⟨i, hi⟩ := List.getElem?_of_mem hl
        rcases set_get hi with ⟨_, e2⟩ | ⟨_, e2⟩
        · subst e2
          rcases List.mem_append.1 hd with h3 | h3
          · exact ih dl (List.mem_of_getElem? hdl) d h3
          · rw [List.mem_singleton] at h3
            rw [h3]
            exact h2
        · exact ih l (List.mem_of_getElem? e2) d hd
theorem its_pos {m : Mdl} (hm : Right m) {en : Int} (hen : en ≤ 200) (k p : Nat) : ∀ x ∈ itsOf (atK m en k) p, 0 ≤ x.t := by
  intro x hx
  unfold itsOf at hx
  obtain ⟨d, hd, rfl⟩ := List.mem_map.1 hx
  rw [List.getD_eq_getElem?_getD] at hd
  cases h : (atK m en k).done[p]? with
  | none => rw [h] at hd; simp at hd
  | some l =>
    rw [h] at hd
    exact done_pos hm hen k l (List.mem_of_getElem? h) d hd
theorem all_sum {m : Mdl} (hm : Right m) {en : Int} (hen : en ≤ 200) : ∀ (k : Nat), (atK m en k).all = sumN ((atK m en k).done.map List.length)
  | 0 => by
    show 0 = sumN ((List.replicate (np m) ([] : List Dn)).map List.length)
    generalize np m = n
    induction n with
    | zero => rfl
    | succ n ih => rw [List.replicate_succ, List.map_cons, sumN_cons, ← ih]; rfl
  | k + 1 => by
    have ih := all_sum hm hen k
    have hI := atK_inv hm hen k
    have hstep : atK m en (k + 1) = stepF m en (atK m en k) := rfl
    rw [hstep]
    unfold stepF
    split
    · exact ih
    · rename_i j hj
      split
      · exact ih
      · rename_i e he
        obtain ⟨h0, h1, h2, _⟩ := hI.ev e (List.mem_of_getElem? he)
        have hpn : e.p.toNat < np m := by unfold np; omega
        obtain ⟨st, hst⟩ := get_of_lt (d := (atK m en k).states) (k := e.p.toNat) (by rw [hI.ls]; exact hpn)
        obtain ⟨sq, hsq⟩ := get_of_lt (d := (atK m en k).seqs) (k := e.p.toNat) (by rw [hI.lq]; exact hpn)
        obtain ⟨dl, hdl⟩ := get_of_lt (d := (atK m en k).done) (k := e.p.toNat) (by rw [hI.ld]; exact hpn)
        rw [(doEv_out2 (m := m) (c := atK m en k) (j := j) (e := e) hst hsq hdl).1, doEv_all, List.map_set]
        have h3 : ((atK m en k).done.map List.length)[e.p.toNat]? = some dl.length := by rw [List.getElem?_map, hdl]; rfl
        have := sumN_set (y := (dl ++ [(⟨e.it, (ruleOut m e.p st sq e.it).2.1⟩ : Dn)]).length) h3
        simp only [List.length_append, List.length_cons, List.length_nil] at this ⊢
        omega

/-- as many are done as happen in all: then all is done at each process -/
theorem sum_all {f g : Nat → Nat} : ∀ {n : Nat}, (∀ p, p < n → f p ≤ g p) → (sumN ((List.range n).map f) ≤ sumN ((List.range n).map g)) ∧ (sumN ((List.range n).map f) = sumN ((List.range n).map g) → ∀ p, p < n → f p = g p)
  | 0, _ => ⟨Nat.le_refl _, fun _ p hp => by omega⟩
  | n + 1, h => by
    have ih := sum_all (n := n) (fun p hp => h p (by omega))
    have hn := h n (by omega)
    rw [List.range_succ, List.map_append, List.map_append, sumN_append, sumN_append]
    simp only [List.map_cons, List.map_nil, sumN_cons]
    refine ⟨by have := ih.1; omega, fun e p hp => ?_⟩
    have h1 := ih.1
    have e1 : sumN ((List.range n).map f) = sumN ((List.range n).map g) := by omega
    by_cases hpn : p = n
    · subst hpn; omega
    · exact ih.2 e1 p (by omega)

end Go.Proofs.Ytkobkilfbbalaaa

namespace Go.Proofs.Ytkobkilfbbalaaa
open Go.RowKit Go.Sort Go.Maps

/-- a process in memory and in the plain net -/
structure PRel (en : Int) (i : Nat) (p : Pr) (a : NP) : Prop where
  num : p.num = (i : Int)
  en : p.en = en
  hr : p.hr = a.hr
  ws : p.ws = a.ws
  st : p.st = a.st
  sent : p.sent = a.sent
  dn : p.dn = a.dn
  its : p.its.Perm a.q
  pu : p.pushed = a.dn.length + a.q.length

/-- a process in memory has turned: what it is, where it lies -/
structure PGo (w w' : World) (B : Nat) (p p' : Pr) : Prop where
  at_ : PAt w' B p'
  qb : p'.qb = p.qb
  kept : KeptF (PF p) w w'
  foot : ∀ k, PF p' k → PF p k ∨ w.heap.size ≤ k
theorem PTurn.go {w w' : World} {B : Nat} {p p' : Pr} (h : PTurn w w' B p p') : PGo w w' B p p' := ⟨h.at_, h.qb, h.kept, h.foot⟩
theorem PGo.refl {w : World} {B : Nat} {p : Pr} (h : PAt w B p) : PGo w w B p p := ⟨h, rfl, KeptF.refl _ _, fun _ hk => .inl hk⟩
theorem PGo.trans {w w' w'' : World} {B : Nat} {p p' p'' : Pr} (h : PGo w w' B p p') (k : PGo w' w'' B p' p'') : PGo w w'' B p p'' := by
  refine ⟨k.at_, k.qb.trans h.qb, h.kept.trans' k.kept (fun i hi hf => ?_), fun i hi => ?_⟩
  · rcases h.foot i hf with h1 | h1
    · exact h1
    · omega
  · rcases k.foot i hi with h1 | h1
    · exact h.foot i h1
    · exact .inr (Nat.le_trans h.kept.size h1)
theorem PGo.grow {w w' w'' : World} {B : Nat} {p p' : Pr} (h : PGo w w' B p p') (k : KeptF (fun _ => False) w' w'') : PGo w w'' B p p' :=
  ⟨h.at_.keep k (fun _ _ e => e), h.qb, h.kept.trans (k.weaken (fun _ _ e => e.elim)), h.foot⟩
theorem PGo.ahead {w w0 w' : World} {B : Nat} {p p' : Pr} (k : KeptF (fun _ => False) w w0) (h : PGo w0 w' B p p') : PGo w w' B p p' :=
  ⟨h.at_, h.qb, (k.weaken (fun _ _ e => e.elim)).trans h.kept, fun i hi => (h.foot i hi).imp id (fun e => Nat.le_trans k.size e)⟩

theorem PAt.setHr {w w' : World} {B : Nat} {p : Pr} (h : PAt w B p) {hr' : Int → Option Int} (hm : HMap w' p.hb hr') (k : KeptF (fun i => i = p.hb) w w') : PGo w w' B p { p with hr := hr' } := by
  have hne : ∀ i, Foot p.qb p.mb p.dv p.ds i → ¬ i = p.hb := fun i hi e => (h.cap p.hb (.inl rfl)).1 (e ▸ hi)
  refine ⟨⟨h.core.keep k hne, h.filled, h.wid1, h.wid2, h.nle, h.lenle, h.own.keep k (fun g hg e => (h.cap p.hb (.inl rfl)).2 (e ▸ hg)), h.oap, hm, h.hlow, h.wown.keep k (fun g hg e => h.wh (e ▸ hg)), h.wh, h.cap⟩, rfl, k.weaken (fun i _ e => .inr (.inr (.inl e))), fun _ hi => .inl hi⟩
theorem PAt.setWs {w w' : World} {B : Nat} {p : Pr} (h : PAt w B p) {ws' : List Wy} (ho : Own wyE w' B p.wv ws') (k : KeptF (fun g => p.wv.ownBlock = some g) w w') : PGo w w' B p { p with ws := ws' } := by
  refine ⟨⟨h.core.keep k (fun i hi e => (h.cap i (.inr e)).1 hi), h.filled, h.wid1, h.wid2, h.nle, h.lenle, h.own.keep k (fun g hg e => (h.cap g (.inr e)).2 hg), h.oap, h.hmap.keep k h.wh, h.hlow, ho, h.wh, h.cap⟩, rfl, k.weaken (fun i _ e => .inr (.inr (.inr e))), fun _ hi => .inl hi⟩

set_option maxRecDepth 100000 in
set_option maxHeartbeats 4000000 in
theorem takeIn_any (w : World) (B : Nat) (p : Pr) (x : Pcl) (h : PAt w B p) (hB : B ≤ w.heap.size) (hkd : x.kd = 0 ∨ x.kd = 1 ∨ x.kd = 2) (hk : 0 ≤ x.k ∧ x.k < 12) (ht : x.kd ≠ 2 → 0 ≤ x.it.t ∧ x.it.t ≤ 1000) (hb : p.pushed ≤ 5000) :
    Calls Try.prog 92 #[.pointer (some ⟨p.qb, 0, none⟩), .agg #[.int .i64 x.it.t, .int .i64 x.it.f, .int .i64 x.it.s, .int .i64 x.it.l, .int .i64 x.kd, .int .i64 x.k]] w fun e w' => e = .returned (.tuple #[]) ∧ ∃ p', PGo w w' B p p' ∧ (∀ (en : Int) (i : Nat) (a : NP), PRel en i p a → PRel en i p' (takeIn a x)) := by
  obtain ⟨W0, hW0⟩ : ∃ W0, W0 = w.alloc (.cells #[.int .i64 x.it.t, .int .i64 x.it.f, .int .i64 x.it.s, .int .i64 x.it.l, .int .i64 x.kd, .int .i64 x.k] 141) := ⟨_, rfl⟩
  have HW0 : Hid (W0 = w.alloc (.cells #[.int .i64 x.it.t, .int .i64 x.it.f, .int .i64 x.it.s, .int .i64 x.it.l, .int .i64 x.kd, .int .i64 x.k] 141)) := hW0
  have hK0 : KeptF (fun _ => False) w W0 := by rw [hW0]; exact (KeptF.refl _ w).alloc _
  have hxb : Blk W0 w.heap.size #[.int .i64 x.it.t, .int .i64 x.it.f, .int .i64 x.it.s, .int .i64 x.it.l, .int .i64 x.kd, .int .i64 x.k] 141 := by rw [hW0]; exact heap_alloc_new w _
  have hP0 := h.keep hK0 (fun _ _ e => e)
  clear hW0
  have x0 : W0.cell? ⟨w.heap.size, 0, none⟩ = some (.int .i64 x.it.t) := hxb.cell 0
  have x1 : W0.cell? ⟨w.heap.size, 1, none⟩ = some (.int .i64 x.it.f) := hxb.cell 1
  have x2 : W0.cell? ⟨w.heap.size, 2, none⟩ = some (.int .i64 x.it.s) := hxb.cell 2
  have x3 : W0.cell? ⟨w.heap.size, 3, none⟩ = some (.int .i64 x.it.l) := hxb.cell 3
  have x4 : W0.cell? ⟨w.heap.size, 4, none⟩ = some (.int .i64 x.kd) := hxb.cell 4
  have x5 : W0.cell? ⟨w.heap.size, 5, none⟩ = some (.int .i64 x.k) := hxb.cell 5
  have hlx := hxb.lt
  have hlq := hP0.core.blk.lt
  have c6 : W0.cell? ⟨p.qb, 6, none⟩ = some (.map (some p.hb)) := hP0.clk.2.1
  have hPd := hP0.keep (KeptF.drew (KeptF.refl (fun _ => False) W0)) (fun _ _ e => e)
  go_enter Try.func92, Try.ntmps92
  go_upto_region 1 with fail
  rw [← HW0.out]
  rcases hkd with hkd | hkd | hkd
  · have hpush := pPush W0.drew B p x.it hPd (Nat.le_trans hB hK0.size) (by have := ht (by omega); unfold InInt; omega) hb
    rw [hkd] at x4
    go_wp2
    refine still_tail' 5 (by kernel_rfl) (by kernel_rfl) ?_
    simp only [List.take_succ_cons, List.take_zero, List.drop_succ_cons, List.drop_zero]
    repeat still_step
    refine wpStill_nil ?_
    go_wp2_with fail
    refine hpush.mono ?_
    rintro e1 w1 ⟨rfl, p', hT, hpp, hits⟩
    clear hpush x0 x1 x2 x3 x4 x5 c6
    go_wp2
    go_end0
    refine ⟨rfl, p', hT.go.ahead hK0.drew, fun en i a hr => ?_⟩
    have e : takeIn a x = { a with q := x.it :: a.q } := by unfold takeIn; rw [if_pos hkd]
    rw [e]
    refine ⟨hT.num.trans hr.num, hT.en.trans hr.en, hT.hr.trans hr.hr, hT.ws.trans hr.ws, hT.st.trans hr.st, hT.sent.trans hr.sent, hT.dn.trans hr.dn, hits.trans (hr.its.cons _), ?_⟩
    rw [hpp, hr.pu]; simp only [List.length_cons]; omega
  · have hhear := hear_any W0.drew p.qb 5 p.hb p.hr x.k x.it.t c6 hPd.hmap hk (ht (by omega))
    rw [hkd] at x4
    go_wp2
    refine still_tail' 8 (by kernel_rfl) (by kernel_rfl) ?_
    simp only [List.take_succ_cons, List.take_zero, List.drop_succ_cons, List.drop_zero]
    repeat still_step
    refine wpStill_nil ?_
    go_wp2_with fail
    refine hhear.mono ?_
    rintro e1 w1 ⟨rfl, hm1, hk1⟩
    clear hhear x0 x1 x2 x3 x4 x5 c6
    go_wp2
    go_end0
    refine ⟨rfl, _, (hPd.setHr hm1 hk1).ahead hK0.drew, fun en i a hr => ?_⟩
    have e : takeIn a x = { a with hr := fun j => if j = x.k then some x.it.t else a.hr j } := by unfold takeIn; rw [if_neg (by omega), if_pos hkd]
    rw [e]
    exact ⟨hr.num, hr.en, by simp only; rw [hr.hr], hr.ws, hr.st, hr.sent, hr.dn, hr.its, hr.pu⟩
  · have hhear := hearEnd_any W0.drew p.qb 5 p.hb p.hr x.k c6 hPd.hmap hk
    rw [hkd] at x4
    go_wp2
    refine still_tail' 5 (by kernel_rfl) (by kernel_rfl) ?_
    simp only [List.take_succ_cons, List.take_zero, List.drop_succ_cons, List.drop_zero]
    repeat still_step
    refine wpStill_nil ?_
    go_wp2_with fail
    refine hhear.mono ?_
    rintro e1 w1 ⟨rfl, hm1, hk1⟩
    clear hhear x0 x1 x2 x3 x4 x5 c6
    go_wp2
    go_end0
    refine ⟨rfl, _, (hPd.setHr hm1 hk1).ahead hK0.drew, fun en i a hr => ?_⟩
    have e : takeIn a x = { a with hr := fun j => if j = x.k then none else a.hr j } := by unfold takeIn; rw [if_neg (by omega), if_neg (by omega), if_pos hkd]
    rw [e]
    exact ⟨hr.num, hr.en, by simp only; rw [hr.hr], hr.ws, hr.st, hr.sent, hr.dn, hr.its, hr.pu⟩

end Go.Proofs.Ytkobkilfbbalaaa

namespace Go.Proofs.Ytkobkilfbbalaaa
open Go.RowKit Go.Sort Go.Maps

/-- a model without its starts -/
def keptM (m : Mdl) : Mdl := { m with starts := [] }
theorem Right.kept {m : Mdl} (h : Right m) : Right (keptM m) := by
  refine ⟨⟨h.lim.p1, h.lim.p2, h.lim.s1, h.lim.s2, h.lim.l1, h.lim.l2, h.lim.nl, h.lim.nr, Nat.zero_le _⟩, h.links, h.rules, fun j y hy => by simp [keptM] at hy⟩

def Pr.topI (p : Pr) : It := p.top.getD ⟨0, 0, 0, 0⟩
theorem pLeast_any (w : World) (B : Nat) (p : Pr) (h : PAt w B p) :
    Calls Try.prog 35 #[.pointer (some ⟨p.qb, 0, none⟩)] w fun e w' => e = .returned (.tuple #[.agg #[.int .i64 p.topI.t, .int .i64 p.topI.f, .int .i64 p.topI.s, .int .i64 p.topI.l], .bool p.top.isSome]) ∧ Below w.heap.size w w' := by
  unfold Pr.topI
  cases ht : p.top with
  | none => exact pLeast_none w B p h ht
  | some t => exact pLeast_some w B p t h ht

/-- all of a row of one's own is appended to another one -/
theorem wpList_append_both {P : Program} {w : World} {ops : Array Oper} {rest : List Oper} {o : Oper} {a : Act} {Q : Exit → Act → World → Prop} (hgd : o.guard = none) (s x : Operand) (t : TypeId)
    (ho : o.op = .call { callee := .builtin .append, args := #[s, x], argTypes := #[t, t] }) {α : Type} (E : Enc α)
    (base : Nat) (i : TypeInfo) (z : Value) (bytes : Nat) (ht : P.underlying t = some (.slice E.T)) (hi : P.info? E.T = some i) (hz : i.zero = some z)
    (hsize : i.size = E.sz) (hby : i.bytes = bytes) (hzs : z.cells.size = E.sz)
    (v xv : Value) (l0 l : List α) (B : Nat) (hs : a.eval s = v) (hown : Own E w base v l0) (hx : a.eval x = xv) (hsrc : Own E w B xv l)
    (h63 : l0.length + l.length ≤ maxLen) (hbytes : (l0.length + l.length) * bytes ≤ 140737488355328) (hbase : base ≤ w.heap.size)
    (h : ∀ v' w', Own E w' base v' (l0 ++ l) → w.grownBy w' v.ownBlock → (∀ g, v'.ownBlock = some g → v.ownBlock = some g ∨ w.heap.size ≤ g) → wpList P ops Q rest (a.put o.dst v') w') : wpList P ops Q (o :: rest) a w :=
  wpList_plain hgd fun _ hK => by
    rcases hsrc.form with ⟨hv, hl⟩ | ⟨g, cap, hv, hcap⟩
    · have hr := run_append_owned_none (P := P) w base t o.type E.T i E.sz ht hi v l0.length (flat E l0) hown
      subst hv hl
      unfold Oper.wp execOp
      simp only [ho, resolve, invoke, builtin, Sem.run_bind, Sem.run_pure, Result.andThen_ok, List.map_toArray, List.map_cons, List.map_nil, hs, hx, hr]
      exact hK _ _ (h v w (by rw [List.append_nil]; exact hown) ⟨rfl, rfl, rfl, Nat.le_refl _, fun _ _ _ => rfl⟩ (fun g hg => .inl hg))
    · subst hv
      have hc := hsrc.takeCells l.length (Nat.le_refl _)
      rw [List.take_length] at hc
      obtain ⟨v', w', hr, r1, r2, r3⟩ := run_append_ownX (P := P) w base t o.type E.T i z E.sz bytes ht hi hz hsize hby hzs E.pos v l0.length (flat E l0) hown ⟨g, 0, none⟩ l.length cap (flat E l) (flat_length E l) hc (flat_one E l) (by omega) hbytes hbase
      unfold Oper.wp execOp
      simp only [ho, resolve, invoke, builtin, Sem.run_bind, Sem.run_pure, Result.andThen_ok, List.map_toArray, List.map_cons, List.map_nil, hs, hx, hr]
      refine hK _ _ (h v' w' ?_ r2 r3)
      unfold Own
      rw [List.length_append, flat_append]
      exact r1

/-- how long the slice in a cell is -/
def lenAt (w : World) (a : Addr) : Nat := match w.cell? a with
  | some (.slice _ n _) => n
  | _ => 0
theorem PAt.lenAt {w : World} {B : Nat} {p : Pr} (h : PAt w B p) : Go.Proofs.Ytkobkilfbbalaaa.lenAt w ⟨p.qb, 11, none⟩ = p.dn.length := by
  obtain ⟨ao, cap, hv, _⟩ := h.own.form'
  unfold Go.Proofs.Ytkobkilfbbalaaa.lenAt
  rw [h.cells.2.2.2, hv]

/-- the first k of what is to be done -/
def dA (m : Mdl) (num en : Int) (a : NP) (k : Nat) : NP × List Pcl := doAll m num en ((toDo en a).take k) (a, [])
theorem dA_succ {m : Mdl} {num en : Int} {a : NP} {k : Nat} {x : It} (h : (toDo en a)[k]? = some x) : dA m num en a (k + 1) = ((doP m num en (dA m num en a k).1 x).1, (dA m num en a k).2 ++ (doP m num en (dA m num en a k).1 x).2) := by
  unfold dA
  rw [List.take_add_one, h]
  show doAll m num en ((toDo en a).take k ++ [x]) (a, []) = _
  rw [doAll_append]
  rfl
theorem dA_all {m : Mdl} {num en : Int} {a : NP} : advP m num en a = ({ (dA m num en a (toDo en a).length).1 with q := left_ en a, ws := a.ws.map (wyN en (hz en a.hr)) }, (dA m num en a (toDo en a).length).2 ++ wyO en (hz en a.hr) a.ws) := by
  unfold advP dA
  simp only
  rw [doAll_q, List.take_length]
theorem dA_keep (m : Mdl) (num en : Int) (a : NP) (k : Nat) (hk : k ≤ (toDo en a).length) : (dA m num en a k).1.hr = a.hr ∧ (dA m num en a k).1.ws = a.ws ∧ (dA m num en a k).1.dn.length = a.dn.length + k := by
  have := doAll_keep m num en ((toDo en a).take k) (a, [])
  refine ⟨this.2.1, this.2.2.1, ?_⟩
  have h4 := this.2.2.2
  rw [List.length_take, Nat.min_eq_left hk] at h4
  exact h4

/-- what waits at a process when the first k are done -/
def qA (en : Int) (a : NP) (k : Nat) : List It := (toDo en a).drop k ++ left_ en a

theorem toDo_mem {en : Int} {a : NP} {x : It} (h : x ∈ toDo en a) : x ∈ a.q ∧ x.t < hz en a.hr := by
  have := List.mem_filter.1 ((srtI_perm _).mem_iff.1 h)
  exact ⟨this.1, by simpa using this.2⟩
theorem left_mem {en : Int} {a : NP} {x : It} (h : x ∈ left_ en a) : x ∈ a.q ∧ ¬ x.t < hz en a.hr := by
  have := List.mem_filter.1 h
  exact ⟨this.1, by simpa using this.2⟩
theorem parted (en : Int) (a : NP) : a.q.Perm (toDo en a ++ left_ en a) := by
  unfold toDo left_
  refine List.Perm.trans ?_ ((srtI_perm _).symm.append_right _)
  have := List.filter_append_perm (fun x : It => decide (x.t < hz en a.hr)) a.q
  refine this.symm.trans (List.Perm.append_left _ (List.Perm.of_eq (List.filter_congr (fun x _ => ?_))))
  by_cases e : x.t < hz en a.hr <;> simp [e]

/-- the least of what waits is the next to be done; if none is to be done, p is not sure of it -/
theorem top_is {w : World} {B : Nat} {p : Pr} (h : PAt w B p) {en : Int} {a : NP} {k : Nat} (hq : p.its.Perm (qA en a k)) (hs : (toDo en a).Pairwise It.lt) :
    (∀ x, (toDo en a)[k]? = some x → p.top = some x) ∧ ((toDo en a).length ≤ k → ∀ t, p.top = some t → ¬ t.t < hz en a.hr) := by
  refine ⟨fun x hx => ?_, fun hk t ht => ?_⟩
  · have hd : (toDo en a).drop k = x :: (toDo en a).drop (k + 1) := by
      have hk := get_lt hx
      rw [List.drop_eq_getElem_cons hk]
      rw [List.getElem?_eq_getElem hk, Option.some.injEq] at hx
      rw [hx]
    have hxm : x ∈ p.its := hq.mem_iff.2 (by unfold qA; rw [hd]; simp)
    cases ht : p.top with
    | none => rw [h.its_nil ht] at hxm; simp at hxm
    | some t =>
      obtain ⟨h1, h2⟩ := h.top_least ht
      have h3 := h2 x hxm
      have h4 := hq.mem_iff.1 h1
      unfold qA at h4
      rw [hd] at h4
      rcases List.mem_append.1 h4 with h5 | h5
      · rcases List.mem_cons.1 h5 with h6 | h6
        · rw [h6]
        · exfalso
          obtain ⟨j, hj⟩ := List.getElem?_of_mem h6
          rw [List.getElem?_drop] at hj
          exact h3 (srt_idx hs hx hj (by omega))
      · exfalso
        have h6 := (left_mem h5).2
        have h7 := (toDo_mem (List.mem_of_getElem? hx)).2
        exact h3 (by unfold It.lt; omega)
  · have h1 := hq.mem_iff.1 (h.top_least ht).1
    unfold qA at h1
    rw [List.drop_of_length_le hk, List.nil_append] at h1
    exact (left_mem h1).2

end Go.Proofs.Ytkobkilfbbalaaa

