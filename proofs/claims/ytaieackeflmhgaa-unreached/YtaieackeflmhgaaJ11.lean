/-
  What happens at processes to which no links lead from elsewhere. Nothing of the program.
  To which processes links lead, as the law reckons it. Nothing of the program.
-/
import Derived.Test.YtaieackeflmhgaaJ08
namespace Go.Proofs.Ytaieackeflmhgaa
open Go.RowKit Go.Sort Go.Maps

def mk1 {α : Type} (U : Nat → Bool) (d : α) (i : Nat) (x : α) : α := if U i then x else d
def mask (U : Nat → Bool) (c : Cs) : Cs := ⟨c.wait.filter (fun e => U e.p.toNat), c.states.mapIdx (mk1 U 0), c.seqs.mapIdx (mk1 U 0), c.done.mapIdx (mk1 U []), c.causes.mapIdx (mk1 U []), 0⟩

theorem mk1_twice {α : Type} (U : Nat → Bool) (d : α) (l : List α) : (l.mapIdx (mk1 U d)).mapIdx (mk1 U d) = l.mapIdx (mk1 U d) := by
  apply List.ext_getElem?
  intro i
  simp only [List.getElem?_mapIdx, Option.map_map]
  cases l[i]? with
  | none => rfl
  | some x => simp only [Option.map_some, Function.comp, mk1]; split <;> simp_all
theorem mk1_set {α : Type} (U : Nat → Bool) (d : α) (l : List α) (p : Nat) (v : α) : ((l.mapIdx (mk1 U d)).set p v).mapIdx (mk1 U d) = (l.set p v).mapIdx (mk1 U d) := by
  apply List.ext_getElem?
  intro i
  simp only [List.getElem?_mapIdx]
  by_cases e : i = p
  · subst e
    by_cases hl : i < l.length
    · rw [List.getElem?_set_self (by simpa using hl), List.getElem?_set_self hl]
    · rw [List.getElem?_eq_none (by simp; omega), List.getElem?_eq_none (by simp; omega)]
  · rw [List.getElem?_set_ne (by omega), List.getElem?_set_ne (by omega), List.getElem?_mapIdx]
    cases l[i]? with
    | none => rfl
    | some x => simp only [Option.map_some, mk1]; split <;> simp_all
theorem mk1_out {α : Type} {U : Nat → Bool} (d : α) (l : List α) {p : Nat} (v : α) (h : U p = false) : (l.set p v).mapIdx (mk1 U d) = l.mapIdx (mk1 U d) := by
  apply List.ext_getElem?
  intro i
  simp only [List.getElem?_mapIdx]
  by_cases e : i = p
  · subst e
    by_cases hl : i < l.length
    · rw [List.getElem?_set_self hl, List.getElem?_eq_getElem hl]
      simp [mk1, h]
    · rw [List.getElem?_eq_none (by simp; omega), List.getElem?_eq_none (by omega)]
  · rw [List.getElem?_set_ne (by omega)]
theorem mk1_getD {α : Type} {U : Nat → Bool} (d : α) (l : List α) {p : Nat} (h : U p = true) : (l.mapIdx (mk1 U d)).getD p d = l.getD p d := by
  rw [List.getD_eq_getElem?_getD, List.getD_eq_getElem?_getD, List.getElem?_mapIdx]
  cases l[p]? with
  | none => rfl
  | some x => simp [mk1, h]

theorem mask_twice (U : Nat → Bool) (c : Cs) : mask U (mask U c) = mask U c := by
  simp only [mask, mk1_twice, List.filter_filter, Bool.and_self]

theorem split_at {α : Type} {l : List α} {j : Nat} {e : α} (h : l[j]? = some e) : l = l.take j ++ e :: l.drop (j + 1) ∧ (l.take j).length = j := by
  have hj := get_lt h
  refine ⟨?_, by simp; omega⟩
  rw [List.getElem?_eq_getElem hj, Option.some.injEq] at h
  rw [← h, ← List.drop_eq_getElem_cons hj, List.take_append_drop]
theorem erase_split {α : Type} (a : List α) (e : α) (b : List α) : (a ++ e :: b).eraseIdx a.length = a ++ b := by
  rw [List.eraseIdx_append_of_length_le (Nat.le_refl _), Nat.sub_self]; rfl

theorem emitted_out {m : Mdl} (hm : Right m) {U : Nat → Bool} (hC : ∀ y ∈ m.links, U y.t.toNat = true → U y.f.toNat = true) {e : Ev} {st seq cause : Int} {r : MRule} (hr : ruleAt m e.p st e.it.l = some r) (hU : U e.p.toNat = false) :
    (emitted m e seq cause r.es).filter (fun y => U y.p.toNat) = [] := by
  rw [List.filter_eq_nil_iff]
  intro y hy
  obtain ⟨i, hi⟩ := List.getElem?_of_mem hy
  obtain ⟨x, hx, rfl⟩ := emitted_get hi
  obtain ⟨ri, hri, hrf⟩ := ruleAt_mem hr
  have hro := ruleOk_iff (hm.rule hri)
  obtain ⟨z, z1, z2, z3, z4, _⟩ := emitOk_iff (hro.2.2.2.2.2 x (List.mem_of_getElem? hx))
  show ¬ U (linkTo m x.k).toNat = true
  rw [linkTo_at z1]
  intro h1
  have h2 := hC z (List.mem_of_getElem? z1) h1
  have h3 : r.p = e.p := by
    unfold ruleFor at hrf
    simp only [Bool.and_eq_true, decide_eq_true_eq] at hrf
    omega
  rw [z4, h3, hU] at h2
  cases h2

theorem mask_step {m : Mdl} (hm : Right m) {U : Nat → Bool} (hC : ∀ y ∈ m.links, U y.t.toNat = true → U y.f.toNat = true) {en : Int} {c : Cs} (hk : (c.wait.map evKey).Nodup) :
    mask U (stepF m en c) = mask U c ∨ mask U (stepF m en c) = mask U (stepF m en (mask U c)) := by
  cases hn : nx en c.wait with
  | none => rw [stepF_none hn]; exact .inl rfl
  | some j =>
    obtain ⟨e, he, ht, hmin⟩ := nx_is hn
    rw [stepF_some hn he]
    obtain ⟨hs, hlen⟩ := split_at he
    generalize c.wait.take j = a at hs hlen
    generalize c.wait.drop (j + 1) = b at hs
    have her : c.wait.eraseIdx j = a ++ b := by rw [hs, ← hlen]; exact erase_split a e b
    cases hU : U e.p.toNat with
    | false =>
      left
      have hf : (a ++ b).filter (fun e => U e.p.toNat) = c.wait.filter (fun e => U e.p.toNat) := by
        rw [hs, List.filter_append, List.filter_append, List.filter_cons, if_neg (by simp [hU])]
      unfold doEv
      split
      · rename_i hr
        simp only [mask, her, hf, mk1_out _ _ _ hU]
      · rename_i r hr
        simp only [mask, her, List.filter_append, emitted_out hm hC hr hU, List.append_nil, mk1_out _ _ _ hU]
        rw [← List.filter_append, hf]
    | true =>
      right
      have hfw : c.wait.filter (fun e => U e.p.toNat) = a.filter (fun e => U e.p.toNat) ++ e :: b.filter (fun e => U e.p.toNat) := by
        rw [hs, List.filter_append, List.filter_cons, if_pos hU]
      have hfe : (a ++ b).filter (fun e => U e.p.toNat) = a.filter (fun e => U e.p.toNat) ++ b.filter (fun e => U e.p.toNat) := List.filter_append ..
      have hj' : (mask U c).wait[(a.filter (fun e => U e.p.toNat)).length]? = some e := by
        show (c.wait.filter (fun e => U e.p.toNat))[_]? = _
        rw [hfw, List.getElem?_append_right (Nat.le_refl _), Nat.sub_self]; rfl
      have hnx : nx en (mask U c).wait = some (a.filter (fun e => U e.p.toNat)).length := by
        refine nx_some ?_ ⟨e, hj', ht, fun y hy hyt => hmin y ((List.mem_filter.1 hy).1) hyt⟩
        exact List.Nodup.sublist ((List.filter_sublist (p := fun e : Ev => U e.p.toNat)).map evKey) hk
      have her2 : (mask U c).wait.eraseIdx (a.filter (fun e => U e.p.toNat)).length = (a ++ b).filter (fun e => U e.p.toNat) := by
        show (c.wait.filter (fun e => U e.p.toNat)).eraseIdx _ = _
        rw [hfw, erase_split, hfe]
      rw [stepF_some hnx hj']
      have hst : (mask U c).states.getD e.p.toNat 0 = c.states.getD e.p.toNat 0 := mk1_getD 0 c.states hU
      have hsq : (mask U c).seqs.getD e.p.toNat 0 = c.seqs.getD e.p.toNat 0 := mk1_getD 0 c.seqs hU
      have hdn : (mask U c).done.getD e.p.toNat [] = c.done.getD e.p.toNat [] := mk1_getD [] c.done hU
      have hca : (mask U c).causes.getD e.p.toNat [] = c.causes.getD e.p.toNat [] := mk1_getD [] c.causes hU
      unfold doEv
      rw [hst, hsq, hdn, hca, her2, her]
      split
      · simp only [mask, mk1_twice, mk1_set, List.filter_filter, Bool.and_self]
      · simp only [mask, mk1_set, List.filter_append, List.filter_filter, Bool.and_self]

def uK (m : Mdl) (en : Int) (U : Nat → Bool) : Nat → Cs
  | 0 => mask U (c0 m)
  | n + 1 => mask U (stepF m en (uK m en U n))

theorem uK_mask (m : Mdl) (en : Int) (U : Nat → Bool) (n : Nat) : mask U (uK m en U n) = uK m en U n := by
  cases n with
  | zero => exact mask_twice U _
  | succ n => exact mask_twice U _
theorem uK_stop {m : Mdl} {en : Int} {U : Nat → Bool} {n : Nat} (h : nx en (uK m en U n).wait = none) : ∀ d, uK m en U (n + d) = uK m en U n
  | 0 => rfl
  | d + 1 => by
    show mask U (stepF m en (uK m en U (n + d))) = _
    rw [uK_stop h d, stepF_none h, uK_mask]
theorem uK_end {m : Mdl} {en : Int} {U : Nat → Bool} {n n' : Nat} (h : nx en (uK m en U n).wait = none) (h' : nx en (uK m en U n').wait = none) : uK m en U n = uK m en U n' := by
  rcases Nat.le_total n n' with hl | hl
  · obtain ⟨d, rfl⟩ := Nat.le.dest hl; exact (uK_stop h d).symm
  · obtain ⟨d, rfl⟩ := Nat.le.dest hl; exact uK_stop h' d

theorem mask_atK {m : Mdl} (hm : Right m) {en : Int} (hen : en ≤ 200) {U : Nat → Bool} (hC : ∀ y ∈ m.links, U y.t.toNat = true → U y.f.toNat = true) : ∀ k, ∃ n, mask U (atK m en k) = uK m en U n
  | 0 => ⟨0, rfl⟩
  | k + 1 => by
    obtain ⟨n, hn⟩ := mask_atK hm hen hC k
    rcases mask_step hm hC (en := en) (atK_inv hm hen k).keys with h | h
    · exact ⟨n, h.trans hn⟩
    · refine ⟨n + 1, h.trans ?_⟩
      rw [hn]; rfl

theorem filter_set_out {α : Type} {P : α → Bool} : ∀ {l : List α} {s : Nat} {x y : α}, l[s]? = some x → P x = false → P y = false → (l.set s y).filter P = l.filter P
  | [], s, x, y, h, _, _ => by simp at h
  | a :: l, 0, x, y, h, hx, hy => by
    simp only [List.getElem?_cons_zero, Option.some.injEq] at h
    subst h
    simp only [List.set_cons_zero, List.filter_cons, hx, hy, Bool.false_eq_true, if_false]
  | a :: l, s + 1, x, y, h, hx, hy => by
    simp only [List.getElem?_cons_succ] at h
    simp only [List.set_cons_succ, List.filter_cons, filter_set_out h hx hy]

/-- the model with another load at a start -/
def reload (m : Mdl) (s : Nat) (x : MStart) (load : Int) : Mdl := { m with starts := m.starts.set s ⟨x.p, x.t, load⟩ }

theorem reload_step (m : Mdl) (s : Nat) (x : MStart) (load en : Int) (c : Cs) : stepF (reload m s x load) en c = stepF m en c := rfl
theorem reload_c0 {m : Mdl} {s : Nat} {x : MStart} (load : Int) (hx : m.starts[s]? = some x) {U : Nat → Bool} (hU : U x.p.toNat = false) : mask U (c0 (reload m s x load)) = mask U (c0 m) := by
  have h1 : (c0 (reload m s x load)).wait = (c0 m).wait.set s (initEv s ⟨x.p, x.t, load⟩) := by
    show (m.starts.set s _).mapIdx initEv = (m.starts.mapIdx initEv).set s _
    apply List.ext_getElem?
    intro i
    rw [List.getElem?_mapIdx]
    by_cases e : i = s
    · subst e
      rw [List.getElem?_set_self (get_lt hx), List.getElem?_set_self (by simpa using get_lt hx)]; rfl
    · rw [List.getElem?_set_ne (by omega), List.getElem?_set_ne (by omega), List.getElem?_mapIdx]
  have h2 : (c0 m).wait[s]? = some (initEv s x) := by
    show (m.starts.mapIdx initEv)[s]? = _
    rw [List.getElem?_mapIdx, hx]; rfl
  have h3 : (c0 (reload m s x load)).wait.filter (fun e => U e.p.toNat) = (c0 m).wait.filter (fun e => U e.p.toNat) := by
    rw [h1]; exact filter_set_out h2 hU hU
  unfold mask
  rw [h3]
  rfl
theorem reload_uK {m : Mdl} {s : Nat} {x : MStart} (load en : Int) (hx : m.starts[s]? = some x) {U : Nat → Bool} (hU : U x.p.toNat = false) : ∀ n, uK (reload m s x load) en U n = uK m en U n
  | 0 => reload_c0 load hx hU
  | n + 1 => by
    show mask U (stepF (reload m s x load) en (uK (reload m s x load) en U n)) = _
    rw [reload_uK load en hx hU n, reload_step]; rfl

theorem mask_get {U : Nat → Bool} {c c' : Cs} (h : mask U c = mask U c') {p : Nat} (hU : U p = true) : c.states[p]? = c'.states[p]? ∧ c.done[p]? = c'.done[p]? := by
  have key : ∀ {α : Type} (d : α) (l : List α), (l.mapIdx (mk1 U d))[p]? = l[p]? := fun d l => by
    rw [List.getElem?_mapIdx]
    cases l[p]? with
    | none => rfl
    | some x => simp [mk1, hU]
  have h1 : (mask U c).states = (mask U c').states := by rw [h]
  have h2 : (mask U c).done = (mask U c').done := by rw [h]
  exact ⟨by rw [← key 0 c.states, ← key 0 c'.states]; exact congrArg (·[p]?) h1, by rw [← key [] c.done, ← key [] c'.done]; exact congrArg (·[p]?) h2⟩

theorem unreached {m : Mdl} {s : Nat} {x : MStart} {load en : Int} (hm : Right m) (hm' : Right (reload m s x load)) (hen : en ≤ 200) (hx : m.starts[s]? = some x) {U : Nat → Bool} (hC : ∀ y ∈ m.links, U y.t.toNat = true → U y.f.toNat = true) (hUx : U x.p.toNat = false)
    {k k' : Nat} (h : nx en (atK m en k).wait = none) (h' : nx en (atK (reload m s x load) en k').wait = none) {p : Nat} (hU : U p = true) :
    (atK m en k).states[p]? = (atK (reload m s x load) en k').states[p]? ∧ (atK m en k).done[p]? = (atK (reload m s x load) en k').done[p]? := by
  obtain ⟨n, hn⟩ := mask_atK hm hen hC k
  obtain ⟨n', hn'⟩ := mask_atK hm' hen (U := U) hC k'
  rw [reload_uK load en hx hUx] at hn'
  have e1 : nx en (uK m en U n).wait = none := by
    rw [← hn]
    exact nx_none (fun e he => nx_none_all h e ((List.mem_filter.1 he).1))
  have e2 : nx en (uK m en U n').wait = none := by
    rw [← hn']
    exact nx_none (fun e he => nx_none_all h' e ((List.mem_filter.1 he).1))
  refine mask_get ?_ hU
  rw [hn, hn', uK_end e1 e2]

end Go.Proofs.Ytaieackeflmhgaa

namespace Go.Proofs.Ytaieackeflmhgaa
open Go.RowKit Go.Sort Go.Maps

def link1 (l : List Bool) (y : MLink) : List Bool := if l.getD y.f.toNat false = true then l.set y.t.toNat true else l
def reach (m : Mdl) (a : Nat) : Nat → List Bool
  | 0 => (List.replicate (np m) false).set a true
  | i + 1 => m.links.foldl link1 (reach m a i)

def LeB (l l' : List Bool) : Prop := l.length = l'.length ∧ ∀ i : Nat, l[i]? = some true → l'[i]? = some true

theorem LeB.refl (l : List Bool) : LeB l l := ⟨rfl, fun _ h => h⟩
theorem LeB.trans {a b c : List Bool} (h : LeB a b) (k : LeB b c) : LeB a c := ⟨h.1.trans k.1, fun i hi => k.2 i (h.2 i hi)⟩
theorem LeB.tail {x y : Bool} {l l' : List Bool} (h : LeB (x :: l) (y :: l')) : LeB l l' := by
  refine ⟨by have := h.1; simpa using this, fun i hi => ?_⟩
  have := h.2 (i + 1) (by simpa using hi)
  simpa using this
theorem LeB.count : ∀ {l l' : List Bool}, LeB l l' → l.count true ≤ l'.count true ∧ (l.count true = l'.count true → l = l')
  | [], [], _ => ⟨Nat.le_refl _, fun _ => rfl⟩
  | [], y :: l', h => by have := h.1; simp at this
  | x :: l, [], h => by have := h.1; simp at this
  | x :: l, y :: l', h => by
    obtain ⟨h1, h2⟩ := LeB.count h.tail
    have h0 := h.2 0
    cases x <;> cases y
    · simp only [List.count_cons]; exact ⟨by simpa using h1, fun e => by rw [h2 (by simpa using e)]⟩
    · simp only [List.count_cons]
      refine ⟨by simp; omega, fun e => ?_⟩
      simp at e
      omega
    · simp at h0
    · simp only [List.count_cons]; exact ⟨by simpa using h1, fun e => by rw [h2 (by simpa using e)]⟩
theorem LeB.anti {l l' : List Bool} (h : LeB l l') (k : LeB l' l) : l = l' :=
  h.count.2 (Nat.le_antisymm h.count.1 k.count.1)

theorem link1_le (l : List Bool) (y : MLink) : LeB l (link1 l y) := by
  unfold link1
  split
  · refine ⟨by simp, fun i hi => ?_⟩
    by_cases e : i = y.t.toNat
    · subst e; rw [List.getElem?_set_self (get_lt hi)]
    · rw [List.getElem?_set_ne (by omega)]; exact hi
  · exact LeB.refl l
theorem fold_le : ∀ (ys : List MLink) (l : List Bool), LeB l (ys.foldl link1 l) ∧ (ys.foldl link1 l = l → ∀ y ∈ ys, link1 l y = l)
  | [], l => ⟨LeB.refl l, fun _ y hy => by simp at hy⟩
  | y :: ys, l => by
    obtain ⟨h1, h2⟩ := fold_le ys (link1 l y)
    have h0 := link1_le l y
    refine ⟨h0.trans h1, fun e z hz => ?_⟩
    have e0 : ys.foldl link1 (link1 l y) = l := e
    have e1 : link1 l y = l := (LeB.anti h0 (by rw [e0] at h1; exact h1)).symm
    rcases List.mem_cons.1 hz with rfl | hz
    · exact e1
    · rw [e1] at h2 e0
      exact h2 e0 z hz

theorem reach_len (m : Mdl) (a : Nat) : ∀ i, (reach m a i).length = np m
  | 0 => by simp [reach]
  | i + 1 => by rw [← reach_len m a i]; exact (fold_le m.links (reach m a i)).1.1.symm
theorem reach_self {m : Mdl} {a : Nat} (ha : a < np m) : ∀ i, (reach m a i)[a]? = some true
  | 0 => by
    show ((List.replicate (np m) false).set a true)[a]? = _
    rw [List.getElem?_set_self (by simpa using ha)]
  | i + 1 => (fold_le m.links (reach m a i)).1.2 a (reach_self ha i)
theorem reach_more {m : Mdl} {a : Nat} (ha : a < np m) : ∀ i, i + 1 ≤ (reach m a i).count true ∨ m.links.foldl link1 (reach m a i) = reach m a i
  | 0 => by
    left
    have := List.count_pos_iff.2 (List.mem_of_getElem? (reach_self ha 0))
    omega
  | i + 1 => by
    by_cases e : m.links.foldl link1 (reach m a i) = reach m a i
    · right
      show m.links.foldl link1 (m.links.foldl link1 (reach m a i)) = m.links.foldl link1 (reach m a i)
      rw [e, e]
    · left
      rcases reach_more ha i with h | h
      · have hc := (fold_le m.links (reach m a i)).1.count
        have h1 : (reach m a i).count true ≠ (m.links.foldl link1 (reach m a i)).count true := fun e' => e (hc.2 e').symm
        show i + 1 + 1 ≤ (m.links.foldl link1 (reach m a i)).count true
        have := hc.1
        omega
      · exact absurd h e

/-- the processes to which no links lead from a -/
def apartFrom (m : Mdl) (a : Nat) (i : Nat) : Bool := !((reach m a (np m)).getD i false)

theorem reach_closed {m : Mdl} (hm : Right m) {a : Nat} (ha : a < np m) : ∀ y ∈ m.links, apartFrom m a y.t.toNat = true → apartFrom m a y.f.toNat = true := by
  have hfix : m.links.foldl link1 (reach m a (np m)) = reach m a (np m) := by
    rcases reach_more ha (np m) with h | h
    · have h1 := List.count_le_length (a := true) (l := reach m a (np m))
      rw [reach_len] at h1
      omega
    · exact h
  intro y hy ht
  obtain ⟨j, hj⟩ := List.getElem?_of_mem hy
  have hl := hm.link hj
  have h1 := (fold_le m.links (reach m a (np m))).2 hfix y hy
  unfold apartFrom at ht ⊢
  cases hf : (reach m a (np m)).getD y.f.toNat false with
  | false => rfl
  | true =>
    unfold link1 at h1
    rw [if_pos hf] at h1
    have h2 : ((reach m a (np m)).set y.t.toNat true)[y.t.toNat]? = some true := List.getElem?_set_self (by rw [reach_len]; unfold np; omega)
    rw [h1] at h2
    rw [List.getD_eq_getElem?_getD, h2] at ht
    cases ht
theorem apart_self {m : Mdl} {a : Nat} (ha : a < np m) : apartFrom m a a = false := by
  unfold apartFrom
  rw [List.getD_eq_getElem?_getD, reach_self ha]; rfl

end Go.Proofs.Ytaieackeflmhgaa

