/-
  What happens at processes to which no links lead from elsewhere. Nothing of the program.
  To which processes links lead, as the law reckons it. Nothing of the program.
  A model with another load at a start: right, and in memory.
  The law's made: a model, copied; its starts are a row of its own, behind all else.
  The law's own: reaches.
  The law Unreached: true, whatever the model, the end, the start, its other load and the process.
-/
import Derived.Test.YtaieackeflmhgaaK11
import Derived.Test.YtaieackeflmhgaaK17
import Derived.Test.YtaieackeflmhgaaK16
import Derived.Test.YtaieackeflmhgaaK18
namespace Go.Proofs.Ytaieackeflmhgaa
open Go.RowKit Go.Sort Go.Maps

def mk1 {α : Type} (U : Nat → Bool) (d : α) (i : Nat) (x : α) : α := if U i then x else d
def mask (U : Nat → Bool) (c : Cs) : Cs := ⟨c.wait.filter (fun e => U e.p.toNat), c.states.mapIdx (mk1 U 0), c.seqs.mapIdx (mk1 U 0), c.done.mapIdx (mk1 U []), c.causes.mapIdx (mk1 U []), 0⟩

theorem mk1_twice {α : Type} (U : Nat → Bool) (d : α) (l : List α) : (l.mapIdx (mk1 U d)).mapIdx (mk1 U d) = l.mapIdx (mk1 U d) := by
  apply List.ext_getElem?
  intro i
  simp only [List.getElem?_mapIdx, Option.map_map]
  cases l[i]? with
  | none => rfl
  | some x => simp only [Option.map_some, Function.comp, mk1]; split <;> simp_all
theorem mk1_set {α : Type} (U : Nat → Bool) (d : α) (l : List α) (p : Nat) (v : α) : ((l.mapIdx (mk1 U d)).set p v).mapIdx (mk1 U d) = (l.set p v).mapIdx (mk1 U d) := by
  apply List.ext_getElem?
  intro i
  simp only [List.getElem?_mapIdx]
  by_cases e : i = p
  · subst e
    by_cases hl : i < l.length
    · rw [List.getElem?_set_self (by simpa using hl), List.getElem?_set_self hl]
    · rw [List.getElem?_eq_none (by simp; omega), List.getElem?_eq_none (by simp; omega)]
  · rw [List.getElem?_set_ne (by omega), List.getElem?_set_ne (by omega), List.getElem?_mapIdx]
    cases l[i]? with
    | none => rfl
    | some x => simp only [Option.map_some, mk1]; split <;> simp_all
theorem mk1_out {α : Type} {U : Nat → Bool} (d : α) (l : List α) {p : Nat} (v : α) (h : U p = false) : (l.set p v).mapIdx (mk1 U d) = l.mapIdx (mk1 U d) := by
  apply List.ext_getElem?
  intro i
  simp only [List.getElem?_mapIdx]
  by_cases e : i = p
  · subst e
    by_cases hl : i < l.length
    · rw [List.getElem?_set_self hl, List.getElem?_eq_getElem hl]
      simp [mk1, h]
    · rw [List.getElem?_eq_none (by simp; omega), List.getElem?_eq_none (by omega)]
  · rw [List.getElem?_set_ne (by omega)]
theorem mk1_getD {α : Type} {U : Nat → Bool} (d : α) (l : List α) {p : Nat} (h : U p = true) : (l.mapIdx (mk1 U d)).getD p d = l.getD p d := by
  rw [List.getD_eq_getElem?_getD, List.getD_eq_getElem?_getD, List.getElem?_mapIdx]
  cases l[p]? with
  | none => rfl
  | some x => simp [mk1, h]

theorem mask_twice (U : Nat → Bool) (c : Cs) : mask U (mask U c) = mask U c := by
  simp only [mask, mk1_twice, List.filter_filter, Bool.and_self]

theorem split_at {α : Type} {l : List α} {j : Nat} {e : α} (h : l[j]? = some e) : l = l.take j ++ e :: l.drop (j + 1) ∧ (l.take j).length = j := by
  have hj := get_lt h
  refine ⟨?_, by simp; omega⟩
  rw [List.getElem?_eq_getElem hj, Option.some.injEq] at h
  rw [← h, ← List.drop_eq_getElem_cons hj, List.take_append_drop]
theorem erase_split {α : Type} (a : List α) (e : α) (b : List α) : (a ++ e :: b).eraseIdx a.length = a ++ b := by
  rw [List.eraseIdx_append_of_length_le (Nat.le_refl _), Nat.sub_self]; rfl

theorem emitted_out {m : Mdl} (hm : Right m) {U : Nat → Bool} (hC : ∀ y ∈ m.links, U y.t.toNat = true → U y.f.toNat = true) {e : Ev} {st seq cause : Int} {r : MRule} (hr : ruleAt m e.p st e.it.l = some r) (hU : U e.p.toNat = false) :
    (emitted m e seq cause r.es).filter (fun y => U y.p.toNat) = [] := by
  rw [List.filter_eq_nil_iff]
  intro y hy
  obtain ⟨i, hi⟩ := List.getElem?_of_mem hy
  obtain ⟨x, hx, rfl⟩ := emitted_get hi
  obtain ⟨ri, hri, hrf⟩ := ruleAt_mem hr
  have hro := ruleOk_iff (hm.rule hri)
  obtain ⟨z, z1, z2, z3, z4, _⟩ := emitOk_iff (hro.2.2.2.2.2 x (List.mem_of_getElem? hx))
  show ¬ U (linkTo m x.k).toNat = true
  rw [linkTo_at z1]
  intro h1
  have h2 := hC z (List.mem_of_getElem? z1) h1
  have h3 : r.p = e.p := by
    unfold ruleFor at hrf
    simp only [Bool.and_eq_true, decide_eq_true_eq] at hrf
    omega
  rw [z4, h3, hU] at h2
  cases h2

theorem mask_step {m : Mdl} (hm : Right m) {U : Nat → Bool} (hC : ∀ y ∈ m.links, U y.t.toNat = true → U y.f.toNat = true) {en : Int} {c : Cs} (hk : (c.wait.map evKey).Nodup) :
    mask U (stepF m en c) = mask U c ∨ mask U (stepF m en c) = mask U (stepF m en (mask U c)) := by
  cases hn : nx en c.wait with
  | none => rw [stepF_none hn]; exact .inl rfl
  | some j =>
    obtain ⟨e, he, ht, hmin⟩ := nx_is hn
    rw [stepF_some hn he]
    obtain ⟨hs, hlen⟩ := split_at he
    generalize c.wait.take j = a at hs hlen
    generalize c.wait.drop (j + 1) = b at hs
    have her : c.wait.eraseIdx j = a ++ b := by rw [hs, ← hlen]; exact erase_split a e b
    cases hU : U e.p.toNat with
    | false =>
      left
      have hf : (a ++ b).filter (fun e => U e.p.toNat) = c.wait.filter (fun e => U e.p.toNat) := by
        rw [hs, List.filter_append, List.filter_append, List.filter_cons, if_neg (by simp [hU])]
      unfold doEv
      split
      · rename_i hr
        simp only [mask, her, hf, mk1_out _ _ _ hU]
      · rename_i r hr
        simp only [mask, her, List.filter_append, emitted_out hm hC hr hU, List.append_nil, mk1_out _ _ _ hU]
        rw [← List.filter_append, hf]
    | true =>
      right
      have hfw : c.wait.filter (fun e => U e.p.toNat) = a.filter (fun e => U e.p.toNat) ++ e :: b.filter (fun e => U e.p.toNat) := by
        rw [hs, List.filter_append, List.filter_cons, if_pos hU]
      have hfe : (a ++ b).filter (fun e => U e.p.toNat) = a.filter (fun e => U e.p.toNat) ++ b.filter (fun e => U e.p.toNat) := List.filter_append ..
      have hj' : (mask U c).wait[(a.filter (fun e => U e.p.toNat)).length]? = some e := by
        show (c.wait.filter (fun e => U e.p.toNat))[_]? = _
        rw [hfw, List.getElem?_append_right (Nat.le_refl _), Nat.sub_self]; rfl
      have hnx : nx en (mask U c).wait = some (a.filter (fun e => U e.p.toNat)).length := by
        refine nx_some ?_ ⟨e, hj', ht, fun y hy hyt => hmin y ((List.mem_filter.1 hy).1) hyt⟩
        exact List.Nodup.sublist ((List.filter_sublist (p := fun e : Ev => U e.p.toNat)).map evKey) hk
      have her2 : (mask U c).wait.eraseIdx (a.filter (fun e => U e.p.toNat)).length = (a ++ b).filter (fun e => U e.p.toNat) := by
        show (c.wait.filter (fun e => U e.p.toNat)).eraseIdx _ = _
        rw [hfw, erase_split, hfe]
      rw [stepF_some hnx hj']
      have hst : (mask U c).states.getD e.p.toNat 0 = c.states.getD e.p.toNat 0 := mk1_getD 0 c.states hU
      have hsq : (mask U c).seqs.getD e.p.toNat 0 = c.seqs.getD e.p.toNat 0 := mk1_getD 0 c.seqs hU
      have hdn : (mask U c).done.getD e.p.toNat [] = c.done.getD e.p.toNat [] := mk1_getD [] c.done hU
      have hca : (mask U c).causes.getD e.p.toNat [] = c.causes.getD e.p.toNat [] := mk1_getD [] c.causes hU
      unfold doEv
      rw [hst, hsq, hdn, hca, her2, her]
      split
      · simp only [mask, mk1_twice, mk1_set, List.filter_filter, Bool.and_self]
      · simp only [mask, mk1_set, List.filter_append, List.filter_filter, Bool.and_self]

def uK (m : Mdl) (en : Int) (U : Nat → Bool) : Nat → Cs
  | 0 => mask U (c0 m)
  | n + 1 => mask U (stepF m en (uK m en U n))

theorem uK_mask (m : Mdl) (en : Int) (U : Nat → Bool) (n : Nat) : mask U (uK m en U n) = uK m en U n := by
  cases n with
  | zero => exact mask_twice U _
  | succ n => exact mask_twice U _
theorem uK_stop {m : Mdl} {en : Int} {U : Nat → Bool} {n : Nat} (h : nx en (uK m en U n).wait = none) : ∀ d, uK m en U (n + d) = uK m en U n
  | 0 => rfl
  | d + 1 => by
    show mask U (stepF m en (uK m en U (n + d))) = _
    rw [uK_stop h d, stepF_none h, uK_mask]
theorem uK_end {m : Mdl} {en : Int} {U : Nat → Bool} {n n' : Nat} (h : nx en (uK m en U n).wait = none) (h' : nx en (uK m en U n').wait = none) : uK m en U n = uK m en U n' := by
  rcases Nat.le_total n n' with hl | hl
  · obtain ⟨d, rfl⟩ := Nat.le.dest hl; exact (uK_stop h d).symm
  · obtain ⟨d, rfl⟩ := Nat.le.dest hl; exact uK_stop h' d

theorem mask_atK {m : Mdl} (hm : Right m) {en : Int} (hen : en ≤ 200) {U : Nat → Bool} (hC : ∀ y ∈ m.links, U y.t.toNat = true → U y.f.toNat = true) : ∀ k, ∃ n, mask U (atK m en k) = uK m en U n
  | 0 => ⟨0, rfl⟩
  | k + 1 => by
    obtain ⟨n, hn⟩ := mask_atK hm hen hC k
    rcases mask_step hm hC (en := en) (atK_inv hm hen k).keys with h | h
    · exact ⟨n, h.trans hn⟩
    · refine ⟨n + 1, h.trans ?_⟩
      rw [hn]; rfl

theorem filter_set_out {α : Type} {P : α → Bool} : ∀ {l : List α} {s : Nat} {x y : α}, l[s]? = some x → P x = false → P y = false → (l.set s y).filter P = l.filter P
  | [], s, x, y, h, _, _ => by simp at h
  | a :: l, 0, x, y, h, hx, hy => by
    simp only [List.getElem?_cons_zero, Option.some.injEq] at h
    subst h
    simp only [List.set_cons_zero, List.filter_cons, hx, hy, Bool.false_eq_true, if_false]
  | a :: l, s + 1, x, y, h, hx, hy => by
    simp only [List.getElem?_cons_succ] at h
    simp only [List.set_cons_succ, List.filter_cons, filter_set_out h hx hy]

/-- the model with another load at a start -/
def reload (m : Mdl) (s : Nat) (x : MStart) (load : Int) : Mdl := { m with starts := m.starts.set s ⟨x.p, x.t, load⟩ }

theorem reload_step (m : Mdl) (s : Nat) (x : MStart) (load en : Int) (c : Cs) : stepF (reload m s x load) en c = stepF m en c := rfl
theorem reload_c0 {m : Mdl} {s : Nat} {x : MStart} (load : Int) (hx : m.starts[s]? = some x) {U : Nat → Bool} (hU : U x.p.toNat = false) : mask U (c0 (reload m s x load)) = mask U (c0 m) := by
  have h1 : (c0 (reload m s x load)).wait = (c0 m).wait.set s (initEv s ⟨x.p, x.t, load⟩) := by
    show (m.starts.set s _).mapIdx initEv = (m.starts.mapIdx initEv).set s _
    apply List.ext_getElem?
    intro i
    rw [List.getElem?_mapIdx]
    by_cases e : i = s
    · subst e
      rw [List.getElem?_set_self (get_lt hx), List.getElem?_set_self (by simpa using get_lt hx)]; rfl
    · rw [List.getElem?_set_ne (by omega), List.getElem?_set_ne (by omega), List.getElem?_mapIdx]
  have h2 : (c0 m).wait[s]? = some (initEv s x) := by
    show (m.starts.mapIdx initEv)[s]? = _
    rw [List.getElem?_mapIdx, hx]; rfl
  have h3 : (c0 (reload m s x load)).wait.filter (fun e => U e.p.toNat) = (c0 m).wait.filter (fun e => U e.p.toNat) := by
    rw [h1]; exact filter_set_out h2 hU hU
  unfold mask
  rw [h3]
  rfl
theorem reload_uK {m : Mdl} {s : Nat} {x : MStart} (load en : Int) (hx : m.starts[s]? = some x) {U : Nat → Bool} (hU : U x.p.toNat = false) : ∀ n, uK (reload m s x load) en U n = uK m en U n
  | 0 => reload_c0 load hx hU
  | n + 1 => by
    show mask U (stepF (reload m s x load) en (uK (reload m s x load) en U n)) = _
    rw [reload_uK load en hx hU n, reload_step]; rfl

theorem mask_get {U : Nat → Bool} {c c' : Cs} (h : mask U c = mask U c') {p : Nat} (hU : U p = true) : c.states[p]? = c'.states[p]? ∧ c.done[p]? = c'.done[p]? := by
  have key : ∀ {α : Type} (d : α) (l : List α), (l.mapIdx (mk1 U d))[p]? = l[p]? := fun d l => by
    rw [List.getElem?_mapIdx]
    cases l[p]? with
    | none => rfl
    | some x => simp [mk1, hU]
  have h1 : (mask U c).states = (mask U c').states := by rw [h]
  have h2 : (mask U c).done = (mask U c').done := by rw [h]
  exact ⟨by rw [← key 0 c.states, ← key 0 c'.states]; exact congrArg (·[p]?) h1, by rw [← key [] c.done, ← key [] c'.done]; exact congrArg (·[p]?) h2⟩

theorem unreached {m : Mdl} {s : Nat} {x : MStart} {load en : Int} (hm : Right m) (hm' : Right (reload m s x load)) (hen : en ≤ 200) (hx : m.starts[s]? = some x) {U : Nat → Bool} (hC : ∀ y ∈ m.links, U y.t.toNat = true → U y.f.toNat = true) (hUx : U x.p.toNat = false)
    {k k' : Nat} (h : nx en (atK m en k).wait = none) (h' : nx en (atK (reload m s x load) en k').wait = none) {p : Nat} (hU : U p = true) :
    (atK m en k).states[p]? = (atK (reload m s x load) en k').states[p]? ∧ (atK m en k).done[p]? = (atK (reload m s x load) en k').done[p]? := by
  obtain ⟨n, hn⟩ := mask_atK hm hen hC k
  obtain ⟨n', hn'⟩ := mask_atK hm' hen (U := U) hC k'
  rw [reload_uK load en hx hUx] at hn'
  have e1 : nx en (uK m en U n).wait = none := by
    rw [← hn]
    exact nx_none (fun e he => nx_none_all h e ((List.mem_filter.1 he).1))
  have e2 : nx en (uK m en U n').wait = none := by
    rw [← hn']
    exact nx_none (fun e he => nx_none_all h' e ((List.mem_filter.1 he).1))
  refine mask_get ?_ hU
  rw [hn, hn', uK_end e1 e2]

end Go.Proofs.Ytaieackeflmhgaa

namespace Go.Proofs.Ytaieackeflmhgaa
open Go.RowKit Go.Sort Go.Maps

def link1 (l : List Bool) (y : MLink) : List Bool := if l.getD y.f.toNat false = true then l.set y.t.toNat true else l
def reach (m : Mdl) (a : Nat) : Nat → List Bool
  | 0 => (List.replicate (np m) false).set a true
  | i + 1 => m.links.foldl link1 (reach m a i)

def LeB (l l' : List Bool) : Prop := l.length = l'.length ∧ ∀ i : Nat, l[i]? = some true → l'[i]? = some true

theorem LeB.refl (l : List Bool) : LeB l l := ⟨rfl, fun _ h => h⟩
theorem LeB.trans {a b c : List Bool} (h : LeB a b) (k : LeB b c) : LeB a c := ⟨h.1.trans k.1, fun i hi => k.2 i (h.2 i hi)⟩
theorem LeB.tail {x y : Bool} {l l' : List Bool} (h : LeB (x :: l) (y :: l')) : LeB l l' := by
  refine ⟨by have := h.1; simpa using this, fun i hi => ?_⟩
  have := h.2 (i + 1) (by simpa using hi)
  simpa using this
theorem LeB.count : ∀ {l l' : List Bool}, LeB l l' → l.count true ≤ l'.count true ∧ (l.count true = l'.count true → l = l')
  | [], [], _ => ⟨Nat.le_refl _, fun _ => rfl⟩
  | [], y :: l', h => by have := h.1; simp at this
  | x :: l, [], h => by have := h.1; simp at this
  | x :: l, y :: l', h => by
    obtain ⟨h1, h2⟩ := LeB.count h.tail
    have h0 := h.2 0
    cases x <;> cases y
    · simp only [List.count_cons]; exact ⟨by simpa using h1, fun e => by rw [h2 (by simpa using e)]⟩
    · simp only [List.count_cons]
      refine ⟨by simp; omega, fun e => ?_⟩
      simp at e
      omega
    · simp at h0
    · simp only [List.count_cons]; exact ⟨by simpa using h1, fun e => by rw [h2 (by simpa using e)]⟩
theorem LeB.anti {l l' : List Bool} (h : LeB l l') (k : LeB l' l) : l = l' :=
  h.count.2 (Nat.le_antisymm h.count.1 k.count.1)

theorem link1_le (l : List Bool) (y : MLink) : LeB l (link1 l y) := by
  unfold link1
  split
  · refine ⟨by simp, fun i hi => ?_⟩
    by_cases e : i = y.t.toNat
    · subst e; rw [List.getElem?_set_self (get_lt hi)]
    · rw [List.getElem?_set_ne (by omega)]; exact hi
  · exact LeB.refl l
theorem fold_le : ∀ (ys : List MLink) (l : List Bool), LeB l (ys.foldl link1 l) ∧ (ys.foldl link1 l = l → ∀ y ∈ ys, link1 l y = l)
  | [], l => ⟨LeB.refl l, fun _ y hy => by simp at hy⟩
  | y :: ys, l => by
    obtain ⟨h1, h2⟩ := fold_le ys (link1 l y)
    have h0 := link1_le l y
    refine ⟨h0.trans h1, fun e z hz => ?_⟩
    have e0 : ys.foldl link1 (link1 l y) = l := e
    have e1 : link1 l y = l := (LeB.anti h0 (by rw [e0] at h1; exact h1)).symm
    rcases List.mem_cons.1 hz with rfl | hz
    · exact e1
    · rw [e1] at h2 e0
      exact h2 e0 z hz

theorem reach_len (m : Mdl) (a : Nat) : ∀ i, (reach m a i).length = np m
  | 0 => by simp [reach]
  | i + 1 => by rw [← reach_len m a i]; exact (fold_le m.links (reach m a i)).1.1.symm
theorem reach_self {m : Mdl} {a : Nat} (ha : a < np m) : ∀ i, (reach m a i)[a]? = some true
  | 0 => by
    show ((List.replicate (np m) false).set a true)[a]? = _
    rw [List.getElem?_set_self (by simpa using ha)]
  | i + 1 => (fold_le m.links (reach m a i)).1.2 a (reach_self ha i)
theorem reach_more {m : Mdl} {a : Nat} (ha : a < np m) : ∀ i, i + 1 ≤ (reach m a i).count true ∨ m.links.foldl link1 (reach m a i) = reach m a i
  | 0 => by
    left
    have := List.count_pos_iff.2 (List.mem_of_getElem? (reach_self ha 0))
    omega
  | i + 1 => by
    by_cases e : m.links.foldl link1 (reach m a i) = reach m a i
    · right
      show m.links.foldl link1 (m.links.foldl link1 (reach m a i)) = m.links.foldl link1 (reach m a i)
      rw [e, e]
    · left
      rcases reach_more ha i with h | h
      · have hc := (fold_le m.links (reach m a i)).1.count
        have h1 : (reach m a i).count true ≠ (m.links.foldl link1 (reach m a i)).count true := fun e' => e (hc.2 e').symm
        show i + 1 + 1 ≤ (m.links.foldl link1 (reach m a i)).count true
        have := hc.1
        omega
      · exact absurd h e

/-- the processes to which no links lead from a -/
def apartFrom (m : Mdl) (a : Nat) (i : Nat) : Bool := !((reach m a (np m)).getD i false)

theorem reach_closed {m : Mdl} (hm : Right m) {a : Nat} (ha : a < np m) : ∀ y ∈ m.links, apartFrom m a y.t.toNat = true → apartFrom m a y.f.toNat = true := by
  have hfix : m.links.foldl link1 (reach m a (np m)) = reach m a (np m) := by
    rcases reach_more ha (np m) with h | h
    · have h1 := List.count_le_length (a := true) (l := reach m a (np m))
      rw [reach_len] at h1
      omega
    · exact h
  intro y hy ht
  obtain ⟨j, hj⟩ := List.getElem?_of_mem hy
  have hl := hm.link hj
  have h1 := (fold_le m.links (reach m a (np m))).2 hfix y hy
  unfold apartFrom at ht ⊢
  cases hf : (reach m a (np m)).getD y.f.toNat false with
  | false => rfl
  | true =>
    unfold link1 at h1
    rw [if_pos hf] at h1
    have h2 : ((reach m a (np m)).set y.t.toNat true)[y.t.toNat]? = some true := List.getElem?_set_self (by rw [reach_len]; unfold np; omega)
    rw [h1] at h2
    rw [List.getD_eq_getElem?_getD, h2] at ht
    cases ht
theorem apart_self {m : Mdl} {a : Nat} (ha : a < np m) : apartFrom m a a = false := by
  unfold apartFrom
  rw [List.getD_eq_getElem?_getD, reach_self ha]; rfl

end Go.Proofs.Ytaieackeflmhgaa

namespace Go.Proofs.Ytaieackeflmhgaa
open Go.RowKit Go.Sort Go.Maps

theorem firstIx_noneU {α : Type} {p : α → Bool} {l : List α} (h : ∀ (j : Nat) (y : α), l[j]? = some y → p y = false) : firstIx p l = -1 := by
  rcases firstIx_cases p l with h1 | ⟨i, x, _, h1, h2, _⟩
  · exact h1.1
  · rw [h i x h1] at h2; cases h2
theorem valid_of_right {m : Mdl} {en : Int} (h : Right m) (h0 : 0 ≤ en) (h1 : en ≤ 200) : valid m en = (0, 0) := by
  have l := h.lim
  have a := l.p1
  have b := l.p2
  have c := l.s1
  have d := l.s2
  have e := l.l1
  have f := l.l2
  have g := l.nl
  have i := l.nr
  have j := l.ns
  refine valid_ok ?_ (firstIx_noneU h.links) ?_ (firstIx_noneU h.starts) ?_
  · simp only [limB, withinB, Bool.and_eq_true, decide_eq_true_eq]
    refine ⟨⟨⟨⟨⟨⟨a, b⟩, c, d⟩, e, f⟩, ?_⟩, ?_⟩, ?_⟩ <;> omega
  · unfold wrongRule
    refine firstIx_noneU fun k y hk => ?_
    have hk' := get_lt hk
    rw [List.getElem?_range (by simpa using hk')] at hk
    cases hk
    rw [h.rules k (by simpa using hk')]; rfl
  · simp only [withinB, Bool.and_eq_true, decide_eq_true_eq]; exact ⟨h0, h1⟩
theorem answer_right {m : Mdl} {en : Int} (h : Right m) (h0 : 0 ≤ en) (h1 : en ≤ 200) : answer m en = (0, 0) ∨ answer m en = (6, 0) := by
  rw [answer, if_pos (valid_of_right h h0 h1)]
  split
  · exact .inl rfl
  · exact .inr rfl
theorem right_reload {m : Mdl} {s : Nat} {x : MStart} {load : Int} (h : Right m) (hx : m.starts[s]? = some x) (h0 : 0 ≤ load) (h1 : load < m.loads) : Right (reload m s x load) := by
  have l := h.lim
  refine ⟨⟨l.p1, l.p2, l.s1, l.s2, l.l1, l.l2, l.nl, l.nr, ?_⟩, h.links, h.rules, fun j y hy => ?_⟩
  · show (m.starts.set s _).length ≤ 12
    rw [List.length_set]; exact l.ns
  · have hs := h.start hx
    have hy : (m.starts.set s ⟨x.p, x.t, load⟩)[j]? = some y := hy
    rcases set_get hy with ⟨_, e2⟩ | ⟨_, e2⟩
    · subst e2
      show startBad m ⟨x.p, x.t, load⟩ = false
      simp only [startBad, isP, isL, withinB, Bool.or_eq_false_iff, Bool.not_eq_false', Bool.and_eq_true, decide_eq_true_eq]
      omega
    · exact h.starts j y e2

theorem Own.raise {α : Type} {E : Enc α} {w : World} {B B' : Nat} {v : Value} {l : List α} (h : Own E w B v l) (hg : ∀ g, v.ownBlock = some g → B' ≤ g) : Own E w B' v l := by
  obtain ⟨h1, h2⟩ := h
  refine ⟨h1, ?_⟩
  rcases h2 with h2 | ⟨g, cap, cur, hv, _, r⟩
  · exact .inl h2
  · exact .inr ⟨g, cap, cur, hv, hg g (by rw [hv]; rfl), r⟩
theorem Own.rowsBelow {α : Type} {E : Enc α} {w : World} {B N : Nat} {v : Value} {l : List α} (h : Own E w B v l) (hg : ∀ g, v.ownBlock = some g → g < N) : RowsAt E.sz E.enc w N v l := by
  rcases h.form with ⟨h1, h2⟩ | ⟨g, cap, h1, h2⟩
  · subst h2
    exact ⟨none, 0, h1, Nat.le_refl _, fun h => absurd rfl h⟩
  · subst h1
    refine ⟨_, _, rfl, h2, fun _ => ⟨g, 0, rfl, hg g rfl, fun j x k u hx hu => ?_⟩⟩
    rw [Nat.zero_add]
    exact h.cell hx hu
theorem Own.blk {α : Type} {E : Enc α} {w : World} {B g len cap : Nat} {l : List α} (h : Own E w B (.slice (some ⟨g, 0, none⟩) len cap) l) : ∃ c, Blk w g c E.T := by
  rcases h.2 with ⟨h1, _⟩ | ⟨g', cap', cur, h1, _, h3, _⟩
  · cases h1
  · simp only [Value.slice.injEq, Option.some.injEq, Addr.mk.injEq, and_true] at h1
    obtain ⟨rfl, _⟩ := h1
    exact ⟨cur, h3⟩

theorem starts_set {w : World} {B g cap : Nat} {l : List MStart} (h : Own stE w B (.slice (some ⟨g, 0, none⟩) l.length cap) l) {s : Nat} {x : MStart} (hx : l[s]? = some x) (load : Int) :
    StartsAt (w.setCell ⟨g, s * 3 + 2, none⟩ (.int .i64 load)) w.heap.size (.slice (some ⟨g, 0, none⟩) l.length cap) (l.set s ⟨x.p, x.t, load⟩) := by
  obtain ⟨c, hb⟩ := h.blk
  have hcap : l.length ≤ cap := by
    rcases h.form with ⟨h1, _⟩ | ⟨_, _, h1, h2⟩
    · cases h1
    · cases h1; exact h2
  refine ⟨_, _, by rw [List.length_set], by rw [List.length_set]; exact hcap, fun _ => ⟨g, 0, rfl, (h.lt rfl).2, fun j y k u hj hu => ?_⟩⟩
  have hk : k < 3 := get_lt hu
  rw [Nat.zero_add, (hb.set (s * 3 + 2) (.int .i64 load)).cell]
  have old : ∀ (i : Nat) (z : MStart) (k : Nat) (v : Value), l[i]? = some z → (startC z)[k]? = some v → c[i * 3 + k]? = some v := fun i z k v hi hv => by
    rw [← hb.cell]; exact h.cell (E := stE) hi hv
  rcases set_get hj with ⟨e1, e2⟩ | ⟨e1, e2⟩
  · subst e1 e2
    have h2 := old j x 2 (.int .i64 x.l) hx rfl
    have hlt : j * 3 + 2 < c.size := by
      rcases Nat.lt_or_ge (j * 3 + 2) c.size with h' | h'
      · exact h'
      · rw [Array.getElem?_eq_none h'] at h2; cases h2
    have : k = 0 ∨ k = 1 ∨ k = 2 := by omega
    rcases this with rfl | rfl | rfl
    · rw [Array.getElem?_setIfInBounds_ne (by omega)]
      exact (old j x 0 (.int .i64 x.p) hx rfl).trans hu
    · rw [Array.getElem?_setIfInBounds_ne (by omega)]
      exact (old j x 1 (.int .i64 x.t) hx rfl).trans hu
    · rw [Array.getElem?_setIfInBounds_self_of_lt hlt]
      exact hu
  · rw [Array.getElem?_setIfInBounds_ne (by omega)]
    exact old j y k u e2 hu

end Go.Proofs.Ytaieackeflmhgaa

namespace Go.Proofs.Ytaieackeflmhgaa
open Go.RowKit Go.Sort Go.Maps

set_option maxRecDepth 100000 in
set_option maxHeartbeats 8000000 in
theorem made_own (m : Mdl) (lv rv sv : Value) (R : List RuleV) (B : Nat) (w : World) (h : ModelAt w B lv rv sv m R) (hB : B ≤ w.heap.size)
    (b1 : m.links.length * 24 ≤ 140737488351232) (b2 : m.rules.length * 56 ≤ 140737488351232) (b3 : m.starts.length * 24 ≤ 140737488351232) (b4 : ∀ r ∈ m.rules, r.es.length * 24 ≤ 140737488351232) :
    Calls Try.prog 15 #[.agg #[.int .i64 m.procs, .int .i64 m.states, .int .i64 m.loads, lv, rv, sv]] w fun e w' => ∃ (lv' rv' sv' : Value) (R' : List RuleV), e = .returned (.agg #[.int .i64 m.procs, .int .i64 m.states, .int .i64 m.loads, lv', rv', sv']) ∧ ModelAt w' w'.heap.size lv' rv' sv' m R' ∧ Below w.heap.size w w' ∧ ∃ Bs, w.heap.size ≤ Bs ∧ Bs ≤ w'.heap.size ∧ LinksAt w' Bs lv' m.links ∧ RulesAt w' Bs rv' R' ∧ Own stE w' Bs sv' m.starts := by
  obtain ⟨ao, cap, hlv, hcap⟩ := RowsAt.form h.links
  subst hlv
  obtain ⟨aor, capr, hrv, hcapr⟩ := RowsAt.form h.rules.1
  rw [h.rlen] at hrv hcapr
  subst hrv
  obtain ⟨aos, caps, hsv, hcaps⟩ := RowsAt.form h.starts
  subst hsv
  obtain ⟨il, hil, hil0, hil1, hil2⟩ := info_parts info_lk
  obtain ⟨ie, hie, hie0, hie1, hie2⟩ := info_parts info_et
  obtain ⟨ist, hist, hist0, hist1, hist2⟩ := info_parts info_st
  obtain ⟨ir, hir, hir0, hir1, hir2⟩ := info_parts info_rl
  obtain ⟨W1, hW1⟩ : ∃ W1, W1 = ((w.alloc (.cells #[.int .i64 m.procs, .int .i64 m.states, .int .i64 m.loads, .slice ao m.links.length cap, .slice aor m.rules.length capr, .slice aos m.starts.length caps] 26)).alloc (.cells #[.int .i64 0, .int .i64 0, .int .i64 0, .slice none 0 0, .slice none 0 0, .slice none 0 0] 31)).alloc (.cells #[.int .i64 m.procs, .int .i64 m.states, .int .i64 m.loads, .slice none 0 0, .slice none 0 0, .slice none 0 0] 31) := ⟨_, rfl⟩
  have HW1 : Hid (W1 = ((w.alloc (.cells #[.int .i64 m.procs, .int .i64 m.states, .int .i64 m.loads, .slice ao m.links.length cap, .slice aor m.rules.length capr, .slice aos m.starts.length caps] 26)).alloc (.cells #[.int .i64 0, .int .i64 0, .int .i64 0, .slice none 0 0, .slice none 0 0, .slice none 0 0] 31)).alloc (.cells #[.int .i64 m.procs, .int .i64 m.states, .int .i64 m.loads, .slice none 0 0, .slice none 0 0, .slice none 0 0] 31)) := hW1
  have hbA : Below w.heap.size w W1 := by rw [hW1]; exact (((Below.refl _ _).alloc (Nat.le_refl _) _).alloc (by simp) _).alloc (by simp; omega) _
  have hmb : Blk W1 w.heap.size #[.int .i64 m.procs, .int .i64 m.states, .int .i64 m.loads, .slice ao m.links.length cap, .slice aor m.rules.length capr, .slice aos m.starts.length caps] 26 := by rw [hW1]; exact Blk.alloc (Blk.alloc (heap_alloc_new w _) _) _
  have hrb : Blk W1 (w.heap.size + 1) #[.int .i64 0, .int .i64 0, .int .i64 0, .slice none 0 0, .slice none 0 0, .slice none 0 0] 31 := by rw [hW1]; exact Blk.alloc (blk_newQ (by simp)) _
  have hob : Blk W1 (w.heap.size + 2) #[.int .i64 m.procs, .int .i64 m.states, .int .i64 m.loads, .slice none 0 0, .slice none 0 0, .slice none 0 0] 31 := by rw [hW1]; exact blk_newQ (by simp)
  have hzA : w.heap.size + 3 ≤ W1.heap.size := by rw [hW1]; simp
  clear hW1
  go_enter Try.func15, Try.ntmps15
  go_upto_region 2 with fail
  rw [← HW1.out]
  clear HW1
  go_wp2
  go_loopw [4] (fun s wr => ∃ (k : Nat) (v : Value), s = .int .i64 k ∧ k ≤ m.links.length ∧ Blk wr (w.heap.size + 2) #[.int .i64 m.procs, .int .i64 m.states, .int .i64 m.loads, v, .slice none 0 0, .slice none 0 0] 31 ∧ Own lkE wr (w.heap.size + 3) v (m.links.take k) ∧ KeptF (fun i => i = w.heap.size + 2) W1 wr ∧ (∀ g, v.ownBlock = some g → W1.heap.size ≤ g)) (fun s _ => m.links.length - (intOf s).toNat)
  case atStart => exact ⟨0, _, rfl, Nat.zero_le _, hob, by rw [List.take_zero]; exact Own.nil _ _ _, KeptF.refl _ _, fun g hg => by cases hg⟩
  case round =>
    obtain ⟨k, v, rfl, hk, hob2, hO, hK, hvA⟩ := hrel
    have hbw : Below w.heap.size w wr := hbA.trans (KeptF.below hK hbA.size (fun i hi => by omega))
    have hsz : w.heap.size + 3 ≤ wr.heap.size := Nat.le_trans hzA hK.size
    have c0 : wr.cell? ⟨w.heap.size, 3, none⟩ = some (.slice ao m.links.length cap) := (hK.cell (p := ⟨w.heap.size, 3, none⟩) (show w.heap.size < W1.heap.size by omega) (by simp)).trans (hmb.cell 3)
    by_cases hlt : k < m.links.length
    · obtain ⟨x, hx⟩ := get_of_lt hlt
      obtain ⟨b, off, hao, hbB, hc⟩ := RowsAt.at_ (h.keep (hbw.mono hB)).links hx
      subst hao
      have x0 := hc 0 (.int .i64 x.f) rfl
      have x1 := hc 1 (.int .i64 x.t) rfl
      have x2 := hc 2 (.int .i64 x.a) rfl
      simp only [Nat.add_zero] at x0
      have Hx : Hid (m.links[k]? = some x) := hx
      have hlk := take_len hlt
      have Hlk : Hid ((m.links.take k).length = k) := hlk
      obtain ⟨ao2, cap2, hvf, hcap2⟩ := hO.form'
      rw [hlk] at hvf hcap2
      subst hvf
      have o3 : wr.cell? ⟨w.heap.size + 2, 3, none⟩ = some (.slice ao2 k cap2) := hob2.cell 3
      have hcc := newCells (wr.alloc (.cells #[.int .i64 x.f, .int .i64 x.t, .int .i64 x.a] 93)) [.int .i64 x.f, .int .i64 x.t, .int .i64 x.a] 94
      rw [World.size_alloc] at hcc
      have hcc2 : ∀ j u, ([.int .i64 x.f, .int .i64 x.t, .int .i64 x.a])[j]? = some u → ((wr.alloc (.cells #[.int .i64 x.f, .int .i64 x.t, .int .i64 x.a] 93)).alloc (.cells #[.int .i64 x.f, .int .i64 x.t, .int .i64 x.a] 94)).cell? ((⟨wr.heap.size + 1, 0, none⟩ : Addr).add j) = some u := fun j u hu => hcc j u hu
      have hWW : KeptF (fun _ => False) wr ((wr.alloc (.cells #[.int .i64 x.f, .int .i64 x.t, .int .i64 x.a] 93)).alloc (.cells #[.int .i64 x.f, .int .i64 x.t, .int .i64 x.a] 94)) := ((KeptF.refl _ wr).alloc _).alloc _
      have hWl := hWW.size
      have hown0 : ((wr.alloc (.cells #[.int .i64 x.f, .int .i64 x.t, .int .i64 x.a] 93)).alloc (.cells #[.int .i64 x.f, .int .i64 x.t, .int .i64 x.a] 94)).ownsRow (w.heap.size + 3) 94 3 (.slice ao2 k cap2) k (flat lkE (m.links.take k)) := by
        have := hO.keep hWW (fun _ _ e => e)
        unfold Own at this
        rw [Hlk.out] at this
        exact this
      have hlb : b < wr.heap.size := block_lt_of_cell x0
      have hlo := hob2.lt
      clear hlk hx hc hcc
      go_wp2_with (at_builtin; refine wpList_append_ownX rfl (.tmp 33) (.tmp 41) 27 rfl (w.heap.size + 3) 94 il _ 3 24 Try.underlying27 hil hil0 hil1 hil2 rfl (by decide) (.slice ao2 k cap2) k (flat lkE (m.links.take k)) rfl ?own ⟨wr.heap.size + 1, 0, none⟩ 1 1 [.int .i64 x.f, .int .i64 x.t, .int .i64 x.a] rfl ?len ?cells ?one ?b1 ?b2 ?hb ?k)
      case own => exact hown0
      case len => rfl
      case cells => exact hcc2
      case one => exact three_one
      case b1 => unfold maxLen; omega
      case b2 => omega
      case hb => exact Nat.le_trans hsz hWl
      case k =>
        intro v2 w2 hown2 hgr2 hfr2
        have hOb : ∀ g, (Value.slice ao2 k cap2).ownBlock = some g → w.heap.size + 3 ≤ g := fun g hg => (hO.lt hg).1
        have hK2 : KeptF (fun g => (Value.slice ao2 k cap2).ownBlock = some g) wr w2 := (hWW.weaken (fun _ _ e => e.elim)).trans (KeptF.of_grown hgr2 (fun k h _ => h))
        have hob3 := hob2.keep hK2 (fun e => by have := hOb _ e; omega)
        have o3b : w2.cell? ⟨w.heap.size + 2, 3, none⟩ = some (.slice ao2 k cap2) := hob3.cell 3
        have o3f : w2.frozen? ⟨w.heap.size + 2, 3, none⟩ = false := hob3.frozen 3
        have hO2 : Own lkE w2 (w.heap.size + 3) v2 (m.links.take (k + 1)) := by
          rw [take_snoc Hx.out]
          exact Own.snoc (by rw [Hlk.out]; exact hown2)
        have hKA : KeptF (fun i => i = w.heap.size + 2) W1 w2 := hK.trans' hK2 (fun i hi e => by have := hvA i e; omega)
        have hv2A : ∀ g, v2.ownBlock = some g → W1.heap.size ≤ g := fun g hg => by
          rcases hfr2 g hg with h1 | h1
          · exact hvA g h1
          · have := hK.size; omega
        have hO2lt : ∀ g, v2.ownBlock = some g → w.heap.size + 3 ≤ g := fun g hg => (hO2.lt hg).1
        obtain ⟨ao3, cap3, hv3, hcap3⟩ := hO2.form'
        have hl1 : (m.links.take (k + 1)).length = k + 1 := by rw [List.length_take]; omega
        rw [hl1] at hv3
        subst hv3
        clear hl1
        clear hown2 hgr2 hfr2 hown0 hcc2 hWW hO x0 x1 x2 c0 o3
        go_wp2
        go_roundw
        case rel =>
          refine ⟨k + 1, _, by go_num, hlt, hob3.set 3 _, hO2.keep ((KeptF.refl (fun i => i = w.heap.size + 2) w2).setCell (p := ⟨w.heap.size + 2, 3, none⟩) (.inl rfl) _) (fun g hg e => by have := hO2lt g hg; omega), hKA.setCell (p := ⟨w.heap.size + 2, 3, none⟩) (.inl rfl) _, hv2A⟩
        case measure => simp [intOf]; omega
    · have hke : k = m.links.length := by omega
      subst hke
      rw [List.take_length] at hO
      obtain ⟨wA, hwA⟩ : ∃ wA, wA = wr := ⟨_, rfl⟩
      subst hwA
      obtain ⟨v1, hv1⟩ : ∃ v1, v1 = v := ⟨_, rfl⟩
      subst hv1
      have hL := hO
      have hKA := hK
      have hobA := hob2
      have hmA := hmb.keep hK (by omega)
      have hrA := hrb.keep hK (by omega)
      have hbwA := hbw
      have hszA := hsz
      clear hO hK hob2 hk hvA hbA hmb hrb hob hzA hbw hsz
      go_wp2
      clear c0 hlt
      go_loopw [6] (fun s wr => ∃ (k : Nat) (v2 : Value) (RS : List RuleS), s = .int .i64 k ∧ k ≤ m.rules.length ∧ Blk wr (w.heap.size + 2) #[.int .i64 m.procs, .int .i64 m.states, .int .i64 m.loads, v1, v2, .slice none 0 0] 31 ∧ Own rlE wr (w.heap.size + 3) v2 RS ∧ RS.map RuleS.r = m.rules.take k ∧ (∀ x ∈ RS, Own etE wr (w.heap.size + 3) x.ev x.r.es ∧ ∀ g, x.ev.ownBlock = some g → wA.heap.size ≤ g ∧ v2.ownBlock ≠ some g) ∧ KeptF (fun i => i = w.heap.size + 2) wA wr ∧ (∀ g, v2.ownBlock = some g → wA.heap.size ≤ g)) (fun s _ => m.rules.length - (intOf s).toNat)
      case atStart => exact ⟨0, _, [], rfl, Nat.zero_le _, hobA, Own.nil _ _ _, by simp, fun x hx => by simp at hx, KeptF.refl _ _, fun g hg => by cases hg⟩
      case round =>
        obtain ⟨w1, hw1⟩ : ∃ w1, w1 = wr := ⟨_, rfl⟩
        subst hw1
        obtain ⟨k, v2, RS, rfl, hk, hob2, hRO, hmap, hEm, hK, hvA⟩ := hrel
        have hbw : Below w.heap.size w w1 := hbwA.trans (KeptF.below hK hbwA.size (fun i hi => by omega))
        have hsz : w.heap.size + 3 ≤ w1.heap.size := Nat.le_trans hszA hK.size
        have hm1 := hmA.keep hK (by omega)
        have c0 : w1.cell? ⟨w.heap.size, 4, none⟩ = some (.slice aor m.rules.length capr) := hm1.cell 4
        by_cases hlt : k < m.rules.length
        · obtain ⟨⟨r, ev⟩, hRx, hmr, hE⟩ := h.rule hlt
          have hmr : m.rules[k]? = some r := hmr
          have hE : EmitsAt w B ev r.es := hE
          have hre := b4 r (List.mem_of_getElem? hmr)
          obtain ⟨aoe, cape, rfl, hcape⟩ := RowsAt.form hE
          obtain ⟨b, off, hao, hbB, hc⟩ := RowsAt.at_ (h.keep (hbw.mono hB)).rules.1 hRx
          subst hao
          have x0 := hc 0 (.int .i64 r.p) rfl
          have x1 := hc 1 (.int .i64 r.s) rfl
          have x2 := hc 2 (.int .i64 r.l) rfl
          have x3 := hc 3 (.int .i64 r.n) rfl
          have x4 := hc 4 (.slice aoe r.es.length cape) rfl
          simp only [Nat.add_zero] at x0
          have Hr : Hid (m.rules[k]? = some r) := hmr
          have hlb : b < w1.heap.size := block_lt_of_cell x0
          have hrb1 : Blk (w1.alloc (.cells #[.int .i64 r.p, .int .i64 r.s, .int .i64 r.l, .int .i64 r.n, .slice aoe r.es.length cape] 97)) w1.heap.size #[.int .i64 r.p, .int .i64 r.s, .int .i64 r.l, .int .i64 r.n, .slice aoe r.es.length cape] 97 := heap_alloc_new w1 _
          have hzr : (w1.alloc (.cells #[.int .i64 r.p, .int .i64 r.s, .int .i64 r.l, .int .i64 r.n, .slice aoe r.es.length cape] 97)).heap.size = w1.heap.size + 1 := by simp
          have Hzr : Hid ((w1.alloc (.cells #[.int .i64 r.p, .int .i64 r.s, .int .i64 r.l, .int .i64 r.n, .slice aoe r.es.length cape] 97)).heap.size = w1.heap.size + 1) := hzr
          have Hmap : Hid (RS.map RuleS.r = m.rules.take k) := hmap
          have hRl : RS.length = k := by have := congrArg List.length hmap; rw [List.length_map, take_len hlt] at this; exact this
          have HRl : Hid (RS.length = k) := hRl
          have hKR : KeptF (fun _ => False) w1 (w1.alloc (.cells #[.int .i64 r.p, .int .i64 r.s, .int .i64 r.l, .int .i64 r.n, .slice aoe r.es.length cape] 97)) := (KeptF.refl _ w1).alloc _
          clear hc hRx hmr hmap hRl hzr
          go_wp2
          clear x0 x1 x2 x3 x4 c0
          go_loopw [8, 9] (fun s8 s9 wr => ∃ (i : Nat) (l : Value), s8 = l ∧ s9 = .int .i64 i ∧ i ≤ r.es.length ∧ Own etE wr (w1.heap.size + 1) l (r.es.take i) ∧ KeptF (fun _ => False) (w1.alloc (.cells #[.int .i64 r.p, .int .i64 r.s, .int .i64 r.l, .int .i64 r.n, .slice aoe r.es.length cape] 97)) wr) (fun _ s9 _ => r.es.length - (intOf s9).toNat)
          case atStart => exact ⟨0, _, rfl, rfl, Nat.zero_le _, by rw [List.take_zero]; exact Own.nil _ _ _, KeptF.refl _ _⟩
          case round =>
            obtain ⟨i, l, rfl, rfl, hi, hO, hKi⟩ := hrel
            have hri := hrb1.keep hKi (fun e => e)
            have hszi : w1.heap.size + 1 ≤ wr.heap.size := by have := hKi.size; rw [Hzr.out] at this; exact this
            have hK1i : KeptF (fun _ => False) w1 wr := hKR.trans hKi
            have r4 : wr.cell? ⟨w1.heap.size, 4, none⟩ = some (.slice aoe r.es.length cape) := hri.cell 4
            by_cases hli : i < r.es.length
            · obtain ⟨e, he⟩ := get_of_lt hli
              have hbi : Below w.heap.size w wr := hbw.trans (KeptF.below hK1i hbw.size (fun i hi => hi.elim))
              obtain ⟨eb, eo, hao, hebB, hec⟩ := RowsAt.at_ (RowsAt.keep hE (hbi.mono hB)) he
              subst hao
              have y0 := hec 0 (.int .i64 e.k) rfl
              have y1 := hec 1 (.int .i64 e.d) rfl
              have y2 := hec 2 (.int .i64 e.l) rfl
              simp only [Nat.add_zero] at y0
              have He : Hid (r.es[i]? = some e) := he
              have hlk := take_len hli
              have Hlk : Hid ((r.es.take i).length = i) := hlk
              obtain ⟨ao2, cap2, hvf, hcap2⟩ := hO.form'
              rw [hlk] at hvf hcap2
              subst hvf
              have hcc := newCells (wr.alloc (.cells #[.int .i64 e.k, .int .i64 e.d, .int .i64 e.l] 100)) [.int .i64 e.k, .int .i64 e.d, .int .i64 e.l] 101
              rw [World.size_alloc] at hcc
              have hcc2 : ∀ j u, ([.int .i64 e.k, .int .i64 e.d, .int .i64 e.l])[j]? = some u → ((wr.alloc (.cells #[.int .i64 e.k, .int .i64 e.d, .int .i64 e.l] 100)).alloc (.cells #[.int .i64 e.k, .int .i64 e.d, .int .i64 e.l] 101)).cell? ((⟨wr.heap.size + 1, 0, none⟩ : Addr).add j) = some u := fun j u hu => hcc j u hu
              have hWW : KeptF (fun _ => False) wr ((wr.alloc (.cells #[.int .i64 e.k, .int .i64 e.d, .int .i64 e.l] 100)).alloc (.cells #[.int .i64 e.k, .int .i64 e.d, .int .i64 e.l] 101)) := ((KeptF.refl _ wr).alloc _).alloc _
              have hWl := hWW.size
              have hown0 : ((wr.alloc (.cells #[.int .i64 e.k, .int .i64 e.d, .int .i64 e.l] 100)).alloc (.cells #[.int .i64 e.k, .int .i64 e.d, .int .i64 e.l] 101)).ownsRow (w1.heap.size + 1) 101 3 (.slice ao2 i cap2) i (flat etE (r.es.take i)) := by
                have := hO.keep hWW (fun _ _ e => e)
                unfold Own at this
                rw [Hlk.out] at this
                exact this
              have hleb : eb < wr.heap.size := block_lt_of_cell y0
              have hlri := hri.lt
              clear hlk he hec hcc
              go_wp2_with (at_builtin; refine wpList_append_ownX rfl (.tmp 68) (.tmp 76) 98 rfl (w1.heap.size + 1) 101 ie _ 3 24 Try.underlying98 hie hie0 hie1 hie2 rfl (by decide) (.slice ao2 i cap2) i (flat etE (r.es.take i)) rfl ?own ⟨wr.heap.size + 1, 0, none⟩ 1 1 [.int .i64 e.k, .int .i64 e.d, .int .i64 e.l] rfl ?len ?cells ?one ?b1 ?b2 ?hb ?k)
              case own => exact hown0
              case len => rfl
              case cells => exact hcc2
              case one => exact three_one
              case b1 => unfold maxLen; omega
              case b2 => omega
              case hb => exact Nat.le_trans hszi hWl
              case k =>
                intro l2 w2 hown2 hgr2 hfr2
                have hK2 : KeptF (fun g => (Value.slice ao2 i cap2).ownBlock = some g) wr w2 := (hWW.weaken (fun _ _ e => e.elim)).trans (KeptF.of_grown hgr2 (fun k h _ => h))
                have hO2 : Own etE w2 (w1.heap.size + 1) l2 (r.es.take (i + 1)) := by
                  rw [take_snoc He.out]
                  exact Own.snoc (by rw [Hlk.out]; exact hown2)
                have hKi2 : KeptF (fun _ => False) _ w2 := hKi.trans' hK2 (fun g hg e => by have := (hO.lt e).1; rw [Hzr.out] at hg; omega)
                clear hown2 hgr2 hfr2 hown0 hcc2 hWW y0 y1 y2 r4
                go_wp2
                go_roundw
                case rel => exact ⟨i + 1, l2, rfl, by go_num, hli, hO2, hKi2⟩
                case measure => simp [intOf]; omega
            · have hie' : i = r.es.length := by omega
              subst hie'
              rw [List.take_length] at hO
              obtain ⟨aol, capl, hlf, hcapl⟩ := hO.form'
              have z0 : wr.cell? ⟨w1.heap.size, 0, none⟩ = some (.int .i64 r.p) := hri.cell 0
              have z1 : wr.cell? ⟨w1.heap.size, 1, none⟩ = some (.int .i64 r.s) := hri.cell 1
              have z2 : wr.cell? ⟨w1.heap.size, 2, none⟩ = some (.int .i64 r.l) := hri.cell 2
              have z3 : wr.cell? ⟨w1.heap.size, 3, none⟩ = some (.int .i64 r.n) := hri.cell 3
              have HO : Hid (Own etE wr (w1.heap.size + 1) (.slice aol r.es.length capl) r.es) := by rw [hlf] at hO; exact hO
              subst hlf
              clear hO
              have hob3 := hob2.keep hK1i (fun e => e)
              obtain ⟨ao2, cap2, hvf, hcap2⟩ := hRO.form'
              rw [HRl.out] at hvf hcap2
              subst hvf
              have o4 : wr.cell? ⟨w.heap.size + 2, 4, none⟩ = some (.slice ao2 k cap2) := hob3.cell 4
              have hcc2 : ∀ j u, ([.int .i64 r.p, .int .i64 r.s, .int .i64 r.l, .int .i64 r.n, .slice aol r.es.length capl])[j]? = some u → (wr.alloc (.cells #[.int .i64 r.p, .int .i64 r.s, .int .i64 r.l, .int .i64 r.n, .slice aol r.es.length capl] 103)).cell? ((⟨wr.heap.size, 0, none⟩ : Addr).add j) = some u := fun j u hu => newCells wr [.int .i64 r.p, .int .i64 r.s, .int .i64 r.l, .int .i64 r.n, .slice aol r.es.length capl] 103 j u hu
              have hone : ∀ u ∈ ([.int .i64 r.p, .int .i64 r.s, .int .i64 r.l, .int .i64 r.n, .slice aol r.es.length capl] : List Value), u.oneCell' = true := by
                intro u hu
                simp only [List.mem_cons, List.not_mem_nil, or_false] at hu
                rcases hu with rfl | rfl | rfl | rfl | rfl <;> rfl
              have hWW : KeptF (fun _ => False) wr (wr.alloc (.cells #[.int .i64 r.p, .int .i64 r.s, .int .i64 r.l, .int .i64 r.n, .slice aol r.es.length capl] 103)) := (KeptF.refl _ wr).alloc _
              have hWl := hWW.size
              have hown0 : (wr.alloc (.cells #[.int .i64 r.p, .int .i64 r.s, .int .i64 r.l, .int .i64 r.n, .slice aol r.es.length capl] 103)).ownsRow (w.heap.size + 3) 103 5 (.slice ao2 k cap2) k (flat rlE RS) := by
                have := (hRO.keep hK1i (fun _ _ e => e)).keep hWW (fun _ _ e => e)
                unfold Own at this
                rw [HRl.out] at this
                exact this
              have hlo := hob3.lt
              have hlri := hri.lt
              go_wp2_with (at_builtin; refine wpList_append_ownX rfl (.tmp 79) (.tmp 90) 28 rfl (w.heap.size + 3) 103 ir _ 5 56 Try.underlying28 hir hir0 hir1 hir2 rfl (by decide) (.slice ao2 k cap2) k (flat rlE RS) rfl ?own ⟨wr.heap.size, 0, none⟩ 1 1 [.int .i64 r.p, .int .i64 r.s, .int .i64 r.l, .int .i64 r.n, .slice aol r.es.length capl] rfl ?len ?cells ?one ?b1 ?b2 ?hb ?k)
              case own => exact hown0
              case len => rfl
              case cells => exact hcc2
              case one => exact hone
              case b1 => unfold maxLen; omega
              case b2 => omega
              case hb => exact Nat.le_trans (by omega) hWl
              case k =>
                intro v3 w2 hown2 hgr2 hfr2
                have hvb : ∀ g, (Value.slice ao2 k cap2).ownBlock = some g → w.heap.size + 3 ≤ g ∧ g < w1.heap.size := fun g hg => hRO.lt hg
                have hK2 : KeptF (fun g => (Value.slice ao2 k cap2).ownBlock = some g) wr w2 := (hWW.weaken (fun _ _ e => e.elim)).trans (KeptF.of_grown hgr2 (fun k h _ => h))
                have hK12 : KeptF (fun g => (Value.slice ao2 k cap2).ownBlock = some g) w1 w2 := (hK1i.weaken (fun _ _ e => e.elim)).trans hK2
                have hob4 := hob3.keep hK2 (fun e => by have := (hvb _ e).1; omega)
                have o4b : w2.cell? ⟨w.heap.size + 2, 4, none⟩ = some (.slice ao2 k cap2) := hob4.cell 4
                have o4f : w2.frozen? ⟨w.heap.size + 2, 4, none⟩ = false := hob4.frozen 4
                have hO2 : Own rlE w2 (w.heap.size + 3) v3 (RS ++ [⟨r, aol, r.es.length, capl⟩]) := Own.snoc (by rw [HRl.out]; exact hown2)
                have hO2lt : ∀ g, v3.ownBlock = some g → w.heap.size + 3 ≤ g := fun g hg => (hO2.lt hg).1
                have hfr : ∀ g, v3.ownBlock = some g → (Value.slice ao2 k cap2).ownBlock = some g ∨ wr.heap.size ≤ g := fun g hg => by
                  rcases hfr2 g hg with h1 | h1
                  · exact .inl h1
                  · exact .inr (by omega)
                have hKA2 : KeptF (fun i => i = w.heap.size + 2) wA w2 := hK.trans' hK12 (fun i hi e => by have := hvA i e; omega)
                have hv3A : ∀ g, v3.ownBlock = some g → wA.heap.size ≤ g := fun g hg => by
                  rcases hfr g hg with h1 | h1
                  · exact hvA g h1
                  · have := hK.size; omega
                have HE2 : Hid (∀ x ∈ RS ++ [(⟨r, aol, r.es.length, capl⟩ : RuleS)], Own etE w2 (w.heap.size + 3) x.ev x.r.es ∧ ∀ g, x.ev.ownBlock = some g → wA.heap.size ≤ g ∧ v3.ownBlock ≠ some g) := fun x hx => by
                  rcases List.mem_append.1 hx with hx | hx
                  · obtain ⟨h1, h2⟩ := hEm x hx
                    refine ⟨h1.keep hK12 (fun g hg e => (h2 g hg).2 e), fun g hg => ⟨(h2 g hg).1, fun e => ?_⟩⟩
                    rcases hfr g e with h3 | h3
                    · exact (h2 g hg).2 h3
                    · have := (h1.lt hg).2; omega
                  · simp at hx
                    subst hx
                    have h1 : Own etE wr (w1.heap.size + 1) (.slice aol r.es.length capl) r.es := HO.out
                    refine ⟨(h1.keep hK2 (fun g hg e => by have := (h1.lt hg).1; have := (hvb g e).2; omega)).mono (by omega), fun g hg => ⟨by have := (h1.lt hg).1; have := hK.size; omega, fun e => ?_⟩⟩
                    rcases hfr g e with h3 | h3
                    · have := (h1.lt hg).1; have := (hvb g h3).2; omega
                    · have := (h1.lt hg).2; omega
                obtain ⟨ao3, cap3, hv3, hcap3⟩ := hO2.form'
                have hl1 : (RS ++ [(⟨r, aol, r.es.length, capl⟩ : RuleS)]).length = k + 1 := by rw [List.length_append, HRl.out]; rfl
                rw [hl1] at hv3
                subst hv3
                clear hl1 hown2 hgr2 hfr2 hown0 hcc2 hone hWW z0 z1 z2 z3 r4 o4 hEm hRO
                go_wp2
                go_roundw
                case rel =>
                  have ks : ∀ W : World, KeptF (fun i => i = w.heap.size + 2) W (W.setCell ⟨w.heap.size + 2, 4, none⟩ (.slice ao3 (k + 1) cap3)) := fun W => (KeptF.refl (fun i => i = w.heap.size + 2) W).setCell (p := ⟨w.heap.size + 2, 4, none⟩) (.inl rfl) _
                  refine ⟨k + 1, _, RS ++ [⟨r, aol, r.es.length, capl⟩], by go_num, hlt, hob4.set 4 _, hO2.keep (ks w2) (fun g hg e => by have := hO2lt g hg; omega), ?_, ?_, hKA2.setCell (p := ⟨w.heap.size + 2, 4, none⟩) (.inl rfl) _, hv3A⟩
                  · rw [List.map_append, Hmap.out, take_snoc Hr.out]; rfl
                  · intro x hx
                    obtain ⟨h1, h2⟩ := HE2.out x hx
                    exact ⟨h1.keep (ks w2) (fun g hg e => by have := (h1.lt hg).1; omega), h2⟩
                case measure => simp [intOf]; omega
        · have hke : k = m.rules.length := by omega
          subst hke
          rw [List.take_length] at hmap
          obtain ⟨wB, hwB⟩ : ∃ wB, wB = w1 := ⟨_, rfl⟩
          subst hwB
          have hob := hob2
          have hL := hL.keep hK (fun g hg e => by have := (hL.lt hg).1; omega)
          have hmb := hm1
          have hrb := hrA.keep hK (by omega)
          have hbA := hbw
          have hzA := hsz
          have hEm3 : ∀ x ∈ RS, Own etE wB (w.heap.size + 3) x.ev x.r.es := fun x hx => (hEm x hx).1
          clear hEm
          clear hob2 hm1 hrA hmA hbw hsz hbwA hszA hK hKA hvA hk hobA
          go_wp2
          clear c0 hlt
          go_loopw [11] (fun s wr => ∃ (k : Nat) (v : Value), s = .int .i64 k ∧ k ≤ m.starts.length ∧ Blk wr (w.heap.size + 2) #[.int .i64 m.procs, .int .i64 m.states, .int .i64 m.loads, v1, v2, v] 31 ∧ Own stE wr (w.heap.size + 3) v (m.starts.take k) ∧ KeptF (fun i => i = w.heap.size + 2) wB wr ∧ (∀ g, v.ownBlock = some g → wB.heap.size ≤ g)) (fun s _ => m.starts.length - (intOf s).toNat)
          case atStart => exact ⟨0, _, rfl, Nat.zero_le _, hob, by rw [List.take_zero]; exact Own.nil _ _ _, KeptF.refl _ _, fun g hg => by cases hg⟩
          case round =>
            obtain ⟨k, v, rfl, hk, hob2, hO, hK, hvA⟩ := hrel
            have hbw : Below w.heap.size w wr := hbA.trans (KeptF.below hK hbA.size (fun i hi => by omega))
            have hsz : w.heap.size + 3 ≤ wr.heap.size := Nat.le_trans hzA hK.size
            have c0 : wr.cell? ⟨w.heap.size, 5, none⟩ = some (.slice aos m.starts.length caps) := (hK.cell (p := ⟨w.heap.size, 5, none⟩) (show w.heap.size < wB.heap.size by omega) (by simp)).trans (hmb.cell 5)
            by_cases hlt : k < m.starts.length
            · obtain ⟨x, hx⟩ := get_of_lt hlt
              obtain ⟨b, off, hao, hbB, hc⟩ := RowsAt.at_ (h.keep (hbw.mono hB)).starts hx
              subst hao
              have x0 := hc 0 (.int .i64 x.p) rfl
              have x1 := hc 1 (.int .i64 x.t) rfl
              have x2 := hc 2 (.int .i64 x.l) rfl
              simp only [Nat.add_zero] at x0
              have Hx : Hid (m.starts[k]? = some x) := hx
              have hlk := take_len hlt
              have Hlk : Hid ((m.starts.take k).length = k) := hlk
              obtain ⟨ao2, cap2, hvf, hcap2⟩ := hO.form'
              rw [hlk] at hvf hcap2
              subst hvf
              have o5 : wr.cell? ⟨w.heap.size + 2, 5, none⟩ = some (.slice ao2 k cap2) := hob2.cell 5
              have hcc := newCells (wr.alloc (.cells #[.int .i64 x.p, .int .i64 x.t, .int .i64 x.l] 72)) [.int .i64 x.p, .int .i64 x.t, .int .i64 x.l] 73
              rw [World.size_alloc] at hcc
              have hcc2 : ∀ j u, ([.int .i64 x.p, .int .i64 x.t, .int .i64 x.l])[j]? = some u → ((wr.alloc (.cells #[.int .i64 x.p, .int .i64 x.t, .int .i64 x.l] 72)).alloc (.cells #[.int .i64 x.p, .int .i64 x.t, .int .i64 x.l] 73)).cell? ((⟨wr.heap.size + 1, 0, none⟩ : Addr).add j) = some u := fun j u hu => hcc j u hu
              have hWW : KeptF (fun _ => False) wr ((wr.alloc (.cells #[.int .i64 x.p, .int .i64 x.t, .int .i64 x.l] 72)).alloc (.cells #[.int .i64 x.p, .int .i64 x.t, .int .i64 x.l] 73)) := ((KeptF.refl _ wr).alloc _).alloc _
              have hWl := hWW.size
              have hown0 : ((wr.alloc (.cells #[.int .i64 x.p, .int .i64 x.t, .int .i64 x.l] 72)).alloc (.cells #[.int .i64 x.p, .int .i64 x.t, .int .i64 x.l] 73)).ownsRow (w.heap.size + 3) 73 3 (.slice ao2 k cap2) k (flat stE (m.starts.take k)) := by
                have := hO.keep hWW (fun _ _ e => e)
                unfold Own at this
                rw [Hlk.out] at this
                exact this
              have hlb : b < wr.heap.size := block_lt_of_cell x0
              have hlo := hob2.lt
              clear hlk hx hc hcc
              go_wp2_with (at_builtin; refine wpList_append_ownX rfl (.tmp 106) (.tmp 114) 29 rfl (w.heap.size + 3) 73 ist _ 3 24 Try.underlying29 hist hist0 hist1 hist2 rfl (by decide) (.slice ao2 k cap2) k (flat stE (m.starts.take k)) rfl ?own ⟨wr.heap.size + 1, 0, none⟩ 1 1 [.int .i64 x.p, .int .i64 x.t, .int .i64 x.l] rfl ?len ?cells ?one ?b1 ?b2 ?hb ?k)
              case own => exact hown0
              case len => rfl
              case cells => exact hcc2
              case one => exact three_one
              case b1 => unfold maxLen; omega
              case b2 => omega
              case hb => exact Nat.le_trans hsz hWl
              case k =>
                intro v2 w2 hown2 hgr2 hfr2
                have hOb : ∀ g, (Value.slice ao2 k cap2).ownBlock = some g → w.heap.size + 3 ≤ g := fun g hg => (hO.lt hg).1
                have hK2 : KeptF (fun g => (Value.slice ao2 k cap2).ownBlock = some g) wr w2 := (hWW.weaken (fun _ _ e => e.elim)).trans (KeptF.of_grown hgr2 (fun k h _ => h))
                have hob3 := hob2.keep hK2 (fun e => by have := hOb _ e; omega)
                have o5b : w2.cell? ⟨w.heap.size + 2, 5, none⟩ = some (.slice ao2 k cap2) := hob3.cell 5
                have o5f : w2.frozen? ⟨w.heap.size + 2, 5, none⟩ = false := hob3.frozen 5
                have hO2 : Own stE w2 (w.heap.size + 3) v2 (m.starts.take (k + 1)) := by
                  rw [take_snoc Hx.out]
                  exact Own.snoc (by rw [Hlk.out]; exact hown2)
                have hKA : KeptF (fun i => i = w.heap.size + 2) wB w2 := hK.trans' hK2 (fun i hi e => by have := hvA i e; omega)
                have hv2A : ∀ g, v2.ownBlock = some g → wB.heap.size ≤ g := fun g hg => by
                  rcases hfr2 g hg with h1 | h1
                  · exact hvA g h1
                  · have := hK.size; omega
                have hO2lt : ∀ g, v2.ownBlock = some g → w.heap.size + 3 ≤ g := fun g hg => (hO2.lt hg).1
                obtain ⟨ao3, cap3, hv3, hcap3⟩ := hO2.form'
                have hl1 : (m.starts.take (k + 1)).length = k + 1 := by rw [List.length_take]; omega
                rw [hl1] at hv3
                subst hv3
                clear hl1
                clear hown2 hgr2 hfr2 hown0 hcc2 hWW hO x0 x1 x2 c0 o5
                go_wp2
                go_roundw
                case rel =>
                  refine ⟨k + 1, _, by go_num, hlt, hob3.set 5 _, hO2.keep ((KeptF.refl (fun i => i = w.heap.size + 2) w2).setCell (p := ⟨w.heap.size + 2, 5, none⟩) (.inl rfl) _) (fun g hg e => by have := hO2lt g hg; omega), hKA.setCell (p := ⟨w.heap.size + 2, 5, none⟩) (.inl rfl) _, hv2A⟩
                case measure => simp [intOf]; omega
            · have hke : k = m.starts.length := by omega
              subst hke
              rw [List.take_length] at hO
              have hO3 := hO
              have k6 : ∀ u0 u1 u2 u3 u4 u5, KeptF (fun i => i = w.heap.size + 1) wr ((((((wr.setCell ⟨w.heap.size + 1, 0, none⟩ u0).setCell ⟨w.heap.size + 1, 1, none⟩ u1).setCell ⟨w.heap.size + 1, 2, none⟩ u2).setCell ⟨w.heap.size + 1, 3, none⟩ u3).setCell ⟨w.heap.size + 1, 4, none⟩ u4).setCell ⟨w.heap.size + 1, 5, none⟩ u5) := fun u0 u1 u2 u3 u4 u5 =>
                ((((((KeptF.refl (fun i => i = w.heap.size + 1) wr).setCell (p := ⟨w.heap.size + 1, 0, none⟩) (.inl rfl) u0).setCell (p := ⟨w.heap.size + 1, 1, none⟩) (.inl rfl) u1).setCell (p := ⟨w.heap.size + 1, 2, none⟩) (.inl rfl) u2).setCell (p := ⟨w.heap.size + 1, 3, none⟩) (.inl rfl) u3).setCell (p := ⟨w.heap.size + 1, 4, none⟩) (.inl rfl) u4).setCell (p := ⟨w.heap.size + 1, 5, none⟩) (.inl rfl) u5
              have hrb3 := hrb.keep hK (by omega)
              have q0 : wr.cell? ⟨w.heap.size + 1, 0, none⟩ = some (.int .i64 0) := hrb3.cell 0
              have q1 : wr.cell? ⟨w.heap.size + 1, 1, none⟩ = some (.int .i64 0) := hrb3.cell 1
              have q2 : wr.cell? ⟨w.heap.size + 1, 2, none⟩ = some (.int .i64 0) := hrb3.cell 2
              have q3 : wr.cell? ⟨w.heap.size + 1, 3, none⟩ = some (.slice none 0 0) := hrb3.cell 3
              have q4 : wr.cell? ⟨w.heap.size + 1, 4, none⟩ = some (.slice none 0 0) := hrb3.cell 4
              have q5 : wr.cell? ⟨w.heap.size + 1, 5, none⟩ = some (.slice none 0 0) := hrb3.cell 5
              have qf := hrb3.frozen
              have p0 : wr.cell? ⟨w.heap.size + 2, 0, none⟩ = some (.int .i64 m.procs) := hob2.cell 0
              have p1 : wr.cell? ⟨w.heap.size + 2, 1, none⟩ = some (.int .i64 m.states) := hob2.cell 1
              have p2 : wr.cell? ⟨w.heap.size + 2, 2, none⟩ = some (.int .i64 m.loads) := hob2.cell 2
              have p3 : wr.cell? ⟨w.heap.size + 2, 3, none⟩ = some v1 := hob2.cell 3
              have p4 : wr.cell? ⟨w.heap.size + 2, 4, none⟩ = some v2 := hob2.cell 4
              have p5 : wr.cell? ⟨w.heap.size + 2, 5, none⟩ = some v := hob2.cell 5
              obtain ⟨ga1, gc1, hf1, _⟩ := hL.form'
              obtain ⟨ga2, gc2, hf2, _⟩ := hRO.form'
              obtain ⟨ga3, gc3, hf3, _⟩ := hO.form'
              have HL : Hid (Own lkE wB (w.heap.size + 3) v1 m.links) := hL
              have HR : Hid (Own rlE wB (w.heap.size + 3) v2 RS) := hRO
              have HO : Hid (Own stE wr (w.heap.size + 3) v m.starts) := hO
              subst hf1 hf2 hf3
              clear hL hRO hO hO3
              go_wp2
              have k7 := k6 (.int .i64 m.procs) (.int .i64 m.states) (.int .i64 m.loads) (.slice ga1 m.links.length gc1) (.slice ga2 RS.length gc2) (.slice ga3 m.starts.length gc3)
              refine bodyPost_ret (v := .agg #[.int .i64 m.procs, .int .i64 m.states, .int .i64 m.loads, .slice ga1 m.links.length gc1, .slice ga2 RS.length gc2, .slice ga3 m.starts.length gc3]) (by simp [results, Try.results15, go_sem, q0, q1, q2, q3, q4, q5]) rfl ⟨_, _, _, RS.map RuleS.v, rfl, ⟨?_, ⟨?_, ?_⟩, ?_, ?_⟩, ?_, wB.heap.size, ?_, ?_, ?_, ⟨?_, ?_⟩, ?_⟩
              · exact ((HL.out.keep hK (fun g hg e => by have := (HL.out.lt hg).1; omega)).keep k7 (fun g hg e => by have := (HL.out.lt hg).1; omega)).rows
              · exact RowsAt.map (f := RuleS.v) ((HR.out.keep hK (fun g hg e => by have := (HR.out.lt hg).1; omega)).keep k7 (fun g hg e => by have := (HR.out.lt hg).1; omega)).rows
              · intro z hz
                obtain ⟨y, hy, rfl⟩ := List.mem_map.1 hz
                have h1 := hEm3 y hy
                exact ((h1.keep hK (fun g hg e => by have := (h1.lt hg).1; omega)).keep k7 (fun g hg e => by have := (h1.lt hg).1; omega)).rows
              · exact (HO.out.keep k7 (fun g hg e => by have := (HO.out.lt hg).1; omega)).rows
              · rw [List.map_map]; exact hmap
              · exact hbw.trans (KeptF.below k7 hbw.size (fun i hi => by omega))
              · exact hbA.size
              · exact Nat.le_trans hK.size k7.size
              · exact ((HL.out.keep hK (fun g hg e => by have := (HL.out.lt hg).1; omega)).keep k7 (fun g hg e => by have := (HL.out.lt hg).1; omega)).rowsBelow (fun g hg => (HL.out.lt hg).2)
              · exact RowsAt.map (f := RuleS.v) (((HR.out.keep hK (fun g hg e => by have := (HR.out.lt hg).1; omega)).keep k7 (fun g hg e => by have := (HR.out.lt hg).1; omega)).rowsBelow (fun g hg => (HR.out.lt hg).2))
              · intro z hz
                obtain ⟨y, hy, rfl⟩ := List.mem_map.1 hz
                have h1 := hEm3 y hy
                exact ((h1.keep hK (fun g hg e => by have := (h1.lt hg).1; omega)).keep k7 (fun g hg e => by have := (h1.lt hg).1; omega)).rowsBelow (fun g hg => (h1.lt hg).2)
              · exact (HO.out.keep k7 (fun g hg e => by have := (HO.out.lt hg).1; omega)).raise hvA

end Go.Proofs.Ytaieackeflmhgaa

namespace Go.Proofs.Ytaieackeflmhgaa
open Go.RowKit Go.Sort Go.Maps

def bools (l : List Bool) : Array Value := (l.map Value.bool).toArray
theorem bools_get {l : List Bool} {j : Nat} {x : Bool} (h : l[j]? = some x) : (bools l)[j]? = some (.bool x) := by simp [bools, h]
theorem bools_set (l : List Bool) (j : Nat) (x : Bool) : (bools l).setIfInBounds j (.bool x) = bools (l.set j x) := by simp [bools, List.map_set]
theorem made_bools (n : Nat) : madeCells #[Value.bool false] n = bools (List.replicate n false) := by
  apply Array.ext
  · simp [madeCells, bools]
  · intro i h1 h2
    simp [madeCells, bools, Nat.mod_one]
theorem info_bools : (Try.prog.info? 4).map (fun i => (i.zero, i.size, i.bytes)) = some (some (.bool false), 1, 1) := by kernel_rfl

theorem fold_len (l : List Bool) (ys : List MLink) : (ys.foldl link1 l).length = l.length := (fold_le ys l).1.1.symm
theorem fold_take {m : Mdl} {k : Nat} {y : MLink} (h : m.links[k]? = some y) (l : List Bool) : (m.links.take (k + 1)).foldl link1 l = link1 ((m.links.take k).foldl link1 l) y := by
  rw [take_snoc h, List.foldl_append]; rfl

set_option maxRecDepth 100000 in
set_option maxHeartbeats 4000000 in
theorem reaches_any (m : Mdl) (lv rv sv : Value) (B : Nat) (a q : Int) (w : World) (hL : LinksAt w B lv m.links) (hB : B ≤ w.heap.size) (hm : Right m) (ha0 : 0 ≤ a) (ha1 : a < m.procs) (hq0 : 0 ≤ q) (hq1 : q < m.procs) :
    Calls Try.prog 25 #[.agg #[.int .i64 m.procs, .int .i64 m.states, .int .i64 m.loads, lv, rv, sv], .int .i64 a, .int .i64 q] w fun e w' => e = .returned (.bool (!apartFrom m a.toNat q.toNat)) ∧ Below w.heap.size w w' := by
  have hp1 := hm.lim.p1
  have hp2 := hm.lim.p2
  have hnl := hm.lim.nl
  obtain ⟨n, hn⟩ : ∃ n : Nat, m.procs = (n : Int) := ⟨m.procs.toNat, by omega⟩
  have hnp : np m = n := by unfold np; omega
  have Hnp : Hid (np m = n) := hnp
  have Hn : Hid (m.procs = (n : Int)) := hn
  have hn6 : n ≤ 6 := by omega
  obtain ⟨x, hx⟩ : ∃ x : Nat, a = (x : Int) := ⟨a.toNat, by omega⟩
  obtain ⟨z, hz⟩ : ∃ z : Nat, q = (z : Int) := ⟨q.toNat, by omega⟩
  subst hx hz
  have hxn : x < n := by omega
  have hzn : z < n := by omega
  rw [Int.toNat_natCast, Int.toNat_natCast, hn]
  clear ha0 ha1 hq0 hq1 hn hnp
  obtain ⟨ao, cap, rfl, hcap⟩ := RowsAt.form hL
  obtain ⟨W0, hW0⟩ : ∃ W0, W0 = w.alloc (.cells #[.int .i64 (n : Int), .int .i64 m.states, .int .i64 m.loads, .slice ao m.links.length cap, rv, sv] 26) := ⟨_, rfl⟩
  have HW0 : Hid (W0 = w.alloc (.cells #[.int .i64 (n : Int), .int .i64 m.states, .int .i64 m.loads, .slice ao m.links.length cap, rv, sv] 26)) := hW0
  have hB0 : Below w.heap.size w W0 := by rw [hW0]; exact (Below.refl _ _).alloc (Nat.le_refl _) _
  have hmb : Blk W0 w.heap.size #[.int .i64 (n : Int), .int .i64 m.states, .int .i64 m.loads, .slice ao m.links.length cap, rv, sv] 26 := by rw [hW0]; exact heap_alloc_new w _
  have hzz : W0.heap.size = w.heap.size + 1 := by rw [hW0]; simp
  have Hz : Hid (W0.heap.size = w.heap.size + 1) := hzz
  have hmk := run_make_row' (P := Try.prog) 137 4 (.bool false) 1 Try.underlying137 info_bools rfl .i64 .i64 n (by omega) (by omega)
  have m0 : W0.cell? ⟨w.heap.size, 0, none⟩ = some (.int .i64 (n : Int)) := hmb.cell 0
  have hlm := hmb.lt
  have hA : Blk (W0.alloc (.cells (madeCells #[.bool false] n) 4)) (w.heap.size + 1) (bools (List.replicate n false)) 4 := by rw [← made_bools]; exact blk_newQ hzz.symm
  have hxi : (x : Int) < n := by omega
  have cx : (W0.alloc (.cells (madeCells #[.bool false] n) 4)).cell? ⟨w.heap.size + 1, x, none⟩ = some (.bool false) := (hA.cell x).trans (bools_get (by rw [List.getElem?_replicate, if_pos hxn]))
  have fx : (W0.alloc (.cells (madeCells #[.bool false] n) 4)).frozen? ⟨w.heap.size + 1, x, none⟩ = false := hA.frozen x
  have hA1 := hA.set x (.bool true)
  rw [bools_set] at hA1
  have hkA : KeptF (fun i => i = w.heap.size + 1) W0 ((W0.alloc (.cells (madeCells #[.bool false] n) 4)).setCell ⟨w.heap.size + 1, x, none⟩ (.bool true)) := ((KeptF.refl (fun i => i = w.heap.size + 1) W0).alloc _).setCell (p := ⟨w.heap.size + 1, x, none⟩) (.inl rfl) _
  clear hW0 hzz hA
  go_enter Try.func25, Try.ntmps25
  go_upto_region 1 with fail
  rw [← HW0.out]
  go_upto_region 2 with fail
  rw [Hz.out]
  go_wp2
  clear m0 hmk cx fx
  go_loopw [8] (fun s8 wr => ∃ i : Nat, s8 = .int .i64 i ∧ i ≤ n ∧ Blk wr (w.heap.size + 1) (bools (reach m x i)) 4 ∧ KeptF (fun i => i = w.heap.size + 1) W0 wr) (fun s8 _ => n - (intOf s8).toNat)
  case atStart =>
    refine ⟨0, rfl, Nat.zero_le _, ?_, hkA⟩
    show Blk _ _ (bools ((List.replicate (np m) false).set x true)) _
    rw [Hnp.out]; exact hA1
  case round =>
    clear hA1 hkA
    obtain ⟨i, rfl, hi, hb, hk⟩ := hrel
    have m0 : wr.cell? ⟨w.heap.size, 0, none⟩ = some (.int .i64 (n : Int)) := (hk.cell (p := ⟨w.heap.size, 0, none⟩) hlm (by simp)).trans (hmb.cell 0)
    have hlr := hb.lt
    by_cases hlt : i < n
    · go_wp2
      clear m0
      go_loopw [9] (fun s9 wr => ∃ k : Nat, s9 = .int .i64 k ∧ k ≤ m.links.length ∧ Blk wr (w.heap.size + 1) (bools ((m.links.take k).foldl link1 (reach m x i))) 4 ∧ KeptF (fun i => i = w.heap.size + 1) W0 wr) (fun s9 _ => m.links.length - (intOf s9).toNat)
      case atStart => exact ⟨0, rfl, Nat.zero_le _, by rw [List.take_zero]; exact hb, hk⟩
      case round =>
        clear hb hk hlr
        obtain ⟨k, rfl, hkl, hb, hk⟩ := hrel
        have m3 : wr.cell? ⟨w.heap.size, 3, none⟩ = some (.slice ao m.links.length cap) := (hk.cell (p := ⟨w.heap.size, 3, none⟩) hlm (by simp)).trans (hmb.cell 3)
        have hlr := hb.lt
        by_cases hkt : k < m.links.length
        · obtain ⟨y, hy⟩ := get_of_lt hkt
          have hyb := hm.link hy
          have hbw : Below w.heap.size w wr := hB0.trans (KeptF.below hk hB0.size (fun i hi => by omega))
          obtain ⟨lb, lo, hao, hlbB, hlc⟩ := RowsAt.at_ (RowsAt.keep hL (hbw.mono hB)) hy
          subst hao
          have y0 := hlc 0 (.int .i64 y.f) rfl
          have y1 := hlc 1 (.int .i64 y.t) rfl
          simp only [Nat.add_zero] at y0
          have hyf : y.f < (n : Int) := by rw [← Hn.out]; exact hyb.2.1
          have hyt : y.t < (n : Int) := by rw [← Hn.out]; exact hyb.2.2.2.1
          have hlen : ((m.links.take k).foldl link1 (reach m x i)).length = n := by rw [fold_len, reach_len, Hnp.out]
          obtain ⟨bf, hbf⟩ := get_of_lt (d := (m.links.take k).foldl link1 (reach m x i)) (k := y.f.toNat) (by omega)
          obtain ⟨bt, hbt⟩ := get_of_lt (d := (m.links.take k).foldl link1 (reach m x i)) (k := y.t.toNat) (by omega)
          have cf : wr.cell? ⟨w.heap.size + 1, y.f.toNat, none⟩ = some (.bool bf) := (hb.cell _).trans (bools_get hbf)
          have ct : wr.cell? ⟨w.heap.size + 1, y.t.toNat, none⟩ = some (.bool bt) := (hb.cell _).trans (bools_get hbt)
          have ft : wr.frozen? ⟨w.heap.size + 1, y.t.toNat, none⟩ = false := hb.frozen _
          have hllb : lb < wr.heap.size := block_lt_of_cell y0
          have hgd : ((m.links.take k).foldl link1 (reach m x i)).getD y.f.toNat false = bf := by rw [List.getD_eq_getElem?_getD, hbf]; rfl
          have Hgd : Hid (((m.links.take k).foldl link1 (reach m x i)).getD y.f.toNat false = bf) := hgd
          have Hy : Hid (m.links[k]? = some y) := hy
          clear hlc hy hgd hbf hbt hlen
          cases bf with
          | true =>
            go_wp2
            go_roundw
            case rel =>
              have hb2 := hb.set y.t.toNat (.bool true)
              rw [bools_set] at hb2
              refine ⟨k + 1, by go_num, hkt, ?_, hk.setCell (p := ⟨w.heap.size + 1, y.t.toNat, none⟩) (.inl rfl) _⟩
              rw [fold_take Hy.out, link1, if_pos Hgd.out]
              exact hb2
            case measure => simp [intOf]; omega
          | false =>
            go_wp2
            go_roundw
            case rel =>
              refine ⟨k + 1, by go_num, hkt, ?_, hk⟩
              rw [fold_take Hy.out, link1, if_neg (by rw [Hgd.out]; simp)]
              exact hb
            case measure => simp [intOf]; omega
        · have hke : k = m.links.length := by omega
          subst hke
          rw [List.take_length] at hb
          go_wp2
          go_roundw
          case rel => exact ⟨i + 1, by go_num, hlt, hb, hk⟩
          case measure => simp [intOf]; omega
    · have hie : i = n := by omega
      subst hie
      obtain ⟨bz, hbz⟩ := get_of_lt (d := reach m x i) (k := z) (by rw [reach_len, Hnp.out]; exact hzn)
      have cz : wr.cell? ⟨w.heap.size + 1, z, none⟩ = some (.bool bz) := (hb.cell _).trans (bools_get hbz)
      have Hbz : Hid ((reach m x i)[z]? = some bz) := hbz
      have hzi : (z : Int) < i := by omega
      clear hbz
      go_wp2
      go_ret
      refine ⟨?_, hB0.trans (KeptF.below hk hB0.size (fun i hi => by omega))⟩
      unfold apartFrom
      rw [Bool.not_not, Hnp.out, List.getD_eq_getElem?_getD, Hbz.out]
      rfl

end Go.Proofs.Ytaieackeflmhgaa

namespace Go.Proofs.Ytaieackeflmhgaa
open Go.RowKit Go.Sort Go.Maps

set_option maxRecDepth 100000 in
set_option maxHeartbeats 8000000 in
theorem unreached_any (w : World) (m : Mdl) (lv rv sv : Value) (R : List RuleV) (en start load p : Int) (h : ModelAt w w.heap.size lv rv sv m R)
    (b1 : m.links.length * 24 ≤ 140737488351232) (b2 : m.rules.length * 56 ≤ 140737488351232) (b3 : m.starts.length * 24 ≤ 140737488351232) (b4 : ∀ r ∈ m.rules, r.es.length * 24 ≤ 140737488351232) :
    Calls Try.prog 7 #[.agg #[.int .i64 m.procs, .int .i64 m.states, .int .i64 m.loads, lv, rv, sv], .int .i64 en, .int .i64 start, .int .i64 load, .int .i64 p] w fun e w' => e = .returned (.bool true) ∧ Below w.heap.size w w' := by
  have hne : ∀ r ∈ m.rules, r.es.length ≤ 5864062014634 := fun r hr => by have := b4 r hr; omega
  obtain ⟨W0, hW0⟩ : ∃ W0, W0 = w.alloc (.cells #[.int .i64 m.procs, .int .i64 m.states, .int .i64 m.loads, lv, rv, sv] 26) := ⟨_, rfl⟩
  have HW0 : Hid (W0 = w.alloc (.cells #[.int .i64 m.procs, .int .i64 m.states, .int .i64 m.loads, lv, rv, sv] 26)) := hW0
  have hB0 : Below w.heap.size w W0 := by rw [hW0]; exact (Below.refl _ _).alloc (Nat.le_refl _) _
  have hmb : Blk W0 w.heap.size #[.int .i64 m.procs, .int .i64 m.states, .int .i64 m.loads, lv, rv, sv] 26 := by rw [hW0]; exact heap_alloc_new w _
  have hmade := made_own m lv rv sv R w.heap.size W0 (h.keep hB0) hB0.size b1 b2 b3 b4
  have k0 := Gr.cells (v := .int .i64 m.procs) (hmb.cell 0)
  have k1 := Gr.cells (v := .int .i64 m.states) (hmb.cell 1)
  have k2 := Gr.cells (v := .int .i64 m.loads) (hmb.cell 2)
  have k3 := Gr.cells (v := lv) (hmb.cell 3)
  have k4 := Gr.cells (v := rv) (hmb.cell 4)
  have k5 := Gr.cells (v := sv) (hmb.cell 5)
  have hg0 := Gr.refl W0
  have hlm := hmb.lt
  clear hW0
  go_enter Try.func7, Try.ntmps7
  go_upto_region 1 with fail
  rw [← HW0.out]
  clear HW0
  go_wp2_with fail
  refine hmade.mono ?_
  rintro e1 w1 ⟨lv', rv', sv', R', rfl, hM', g1, Bs, hBs0, hBs1, hLk, hRl, hSt⟩
  clear hmade
  obtain ⟨a1, c1, hf1, _⟩ := RowsAt.form hM'.links
  obtain ⟨a2, c2, hf2, _⟩ := RowsAt.form hM'.rules.1
  obtain ⟨a3, c3, hf3, _⟩ := RowsAt.form hM'.starts
  subst hf1 hf2 hf3
  obtain ⟨WA, hWA⟩ : ∃ WA, WA = w1.alloc (.cells #[.int .i64 m.procs, .int .i64 m.states, .int .i64 m.loads, (.slice a1 m.links.length c1), (.slice a2 R'.length c2), (.slice a3 m.starts.length c3)] 31) := ⟨_, rfl⟩
  have HWA : Hid (WA = w1.alloc (.cells #[.int .i64 m.procs, .int .i64 m.states, .int .i64 m.loads, (.slice a1 m.links.length c1), (.slice a2 R'.length c2), (.slice a3 m.starts.length c3)] 31)) := hWA
  have hg1 : Gr W0 WA := by rw [hWA]; exact Gr.alloc (W0 := W0) g1 _
  have hbA : Below w1.heap.size w1 WA := by rw [hWA]; exact (Below.refl _ _).alloc (Nat.le_refl _) _
  have hkb : Blk WA w1.heap.size #[.int .i64 m.procs, .int .i64 m.states, .int .i64 m.loads, (.slice a1 m.links.length c1), (.slice a2 R'.length c2), (.slice a3 m.starts.length c3)] 31 := by rw [hWA]; exact heap_alloc_new w1 _
  clear hWA
  have hMA := hM'.keep hbA
  have j0 := Gr.cells (v := .int .i64 m.procs) (hkb.cell 0)
  have j1 := Gr.cells (v := .int .i64 m.states) (hkb.cell 1)
  have j2 := Gr.cells (v := .int .i64 m.loads) (hkb.cell 2)
  have j3 := Gr.cells (v := .slice a1 m.links.length c1) (hkb.cell 3)
  have j4 := Gr.cells (v := .slice a2 R'.length c2) (hkb.cell 4)
  have j5 := Gr.cells (v := .slice a3 m.starts.length c3) (hkb.cell 5)
  have hgA := Gr.refl WA
  have hlk := hkb.lt
  have hr1 := run_in2 m (.slice a1 m.links.length c1) (.slice a2 R'.length c2) (.slice a3 m.starts.length c3) R' w1.heap.size en WA hMA hbA.size hne
  go_upto_region 2 with fail
  rw [← HWA.out]
  clear HWA
  go_wp2_with fail
  refine hr1.mono ?_
  rintro e2 w2 ⟨g2, s1, l1, rfl, hc1, hd1⟩
  clear hr1
  have hgA2 : Gr WA w2 := g2
  have hg2 : Gr W0 w2 := Gr.trans hg1 g2
  have hbw2 : Below w.heap.size w w2 := Gr.below hg2 hB0
  have hrf := refCheck_any m lv rv sv R w.heap.size en w2 (h.keep hbw2) hbw2.size hne
  go_wp2_with fail
  refine hrf.mono ?_
  rintro e3 w3 ⟨pv, rfl, g3, -⟩
  clear hrf
  have hg3 : Gr W0 w3 := Gr.trans hg2 g3
  have hgA3 : Gr WA w3 := Gr.trans hgA2 g3
  have hbw3 : Below w.heap.size w w3 := Gr.below hg3 hB0
  have hnum := num_any (answer m en).1 w3
  have n1 := eql_nil (P := Try.prog) Try.underlying55
  have n2 := eql_nil (P := Try.prog) Try.underlying56
  by_cases ha : answer m en = (0, 0)
  · obtain ⟨sb1, lb1, t1, L1, rfl, rfl, hR1⟩ := hd1 ha
    obtain ⟨hv, -⟩ := answer_zero ha
    obtain ⟨hRt, hen0, hen⟩ := right_of_valid hv
    have hI1 := atK_inv hRt hen t1
    have hlen1 : ∀ (p : Nat) (l : List Dn), (atK m en t1).done[p]? = some l → l.length ≤ 5000 := fun p l hl => by
      obtain ⟨k, hk, hnk⟩ := (answer_zero ha).2
      have h1 := hI1.dl p l hl
      have h2 := atK_all m en k
      rw [atK_end hnk hR1.stop] at h2
      omega
    rw [ha] at hnum
    rw [ha]
    clear ha hv hc1 hd1
    have hp1 := hRt.lim.p1
    have hp2 := hRt.lim.p2
    obtain ⟨n, hn⟩ : ∃ n : Nat, m.procs = (n : Int) := ⟨m.procs.toNat, by omega⟩
    have hnp : np m = n := by unfold np; omega
    have Hnp : Hid (np m = n) := hnp
    have Hn : Hid (m.procs = (n : Int)) := hn
    have hn6 : n ≤ 6 := by omega
    obtain ⟨aos, caps, hsv, hcaps⟩ := RowsAt.form h.starts
    subst hsv
    have p0 : w3.cell? ⟨w.heap.size, 0, none⟩ = some (.int .i64 (n : Int)) := by rw [← hn]; exact k0 _ hg3
    have p1 : w3.cell? ⟨w.heap.size, 1, none⟩ = some (.int .i64 m.states) := k1 _ hg3
    have p2 : w3.cell? ⟨w.heap.size, 2, none⟩ = some (.int .i64 m.loads) := k2 _ hg3
    have p3 : w3.cell? ⟨w.heap.size, 3, none⟩ = some lv := k3 _ hg3
    have p4 : w3.cell? ⟨w.heap.size, 4, none⟩ = some rv := k4 _ hg3
    have p5 : w3.cell? ⟨w.heap.size, 5, none⟩ = some (.slice aos m.starts.length caps) := k5 _ hg3
    rw [hnp]
    have hlm3 : w.heap.size < w3.heap.size := Nat.lt_of_lt_of_le hlm hg3.size
    clear hn hnp k0 k1 k2 k3 k4 k5
    go_upto_region 8 with (go_at_call 18; refine hnum.mono ?_; rintro e6 w6 ⟨rfl, hw6⟩; rw [hw6]; clear hw6)
    clear hnum
    rcases Int.lt_or_le start 0 with d1 | d1
    · go_wp2
      all_goals
        go_ret
        exact ⟨rfl, hbw3⟩
    rcases Int.lt_or_le start m.starts.length with d2 | d2
    rotate_left
    · go_wp2
      all_goals
        go_ret
        exact ⟨rfl, hbw3⟩
    rcases Int.lt_or_le p 0 with d3 | d3
    · go_wp2
      all_goals
        go_ret
        exact ⟨rfl, hbw3⟩
    rcases Int.lt_or_le p n with d4 | d4
    rotate_left
    · go_wp2
      all_goals
        go_ret
        exact ⟨rfl, hbw3⟩
    rcases Int.lt_or_le load 0 with d5 | d5
    · go_wp2
      all_goals
        go_ret
        exact ⟨rfl, hbw3⟩
    rcases Int.lt_or_le load m.loads with d6 | d6
    rotate_left
    · go_wp2
      all_goals
        go_ret
        exact ⟨rfl, hbw3⟩
    obtain ⟨st, hst⟩ : ∃ st : Nat, start = (st : Int) := ⟨start.toNat, by omega⟩
    subst hst
    obtain ⟨pn, hpn⟩ : ∃ pn : Nat, p = (pn : Int) := ⟨p.toNat, by omega⟩
    subst hpn
    have hpnn : pn < n := by omega
    have hsl : st < m.starts.length := by omega
    obtain ⟨x, hx⟩ := get_of_lt hsl
    have hxs := hRt.start hx
    obtain ⟨xb, xo, hxao, hxB, hxc⟩ := RowsAt.at_ (h.keep hbw3).starts hx
    subst hxao
    have hrq : ∀ q : Regrown, Calls Try.prog 25 #[.agg #[.int .i64 (n : Int), .int .i64 m.states, .int .i64 m.loads, lv, rv, .slice (some ⟨xb, xo, none⟩) m.starts.length caps], .int .i64 x.p, .int .i64 (pn : Int)] (grow (redrawn w3 q.d) q.os) fun e' w'' => e' = .returned (.bool (!apartFrom m x.p.toNat pn)) ∧ ∃ q : Regrown, w'' = grow (redrawn w3 q.d) q.os := fun q => by
      have hb2 := below_regrown w3 q.d q.os
      have := Calls.regrown_of (reaches_any m lv rv (.slice (some ⟨xb, xo, none⟩) m.starts.length caps) w.heap.size x.p (pn : Int) (grow (redrawn w3 q.d) q.os) (RowsAt.keep (h.keep hbw3).links (hb2.mono hbw3.size)) (Nat.le_trans hbw3.size hb2.size) hRt hxs.1 hxs.2.1 d3 (by rw [Hn.out]; exact d4))
      rw [Int.toNat_natCast, Hn.out] at this
      exact this
    have hUx : apartFrom m x.p.toNat x.p.toNat = false := apart_self (by have := hxs.2.1; unfold np; omega)
    have hC := reach_closed hRt (a := x.p.toNat) (by have := hxs.2.1; unfold np; omega)
    obtain ⟨tb, htb⟩ : ∃ tb, tb = apartFrom m x.p.toNat pn := ⟨_, rfl⟩
    rw [← htb] at hrq
    have q0 := cell_regrown p0
    have q1 := cell_regrown p1
    have q2 := cell_regrown p2
    have q3 := cell_regrown p3
    have q4 := cell_regrown p4
    have q5 := cell_regrown p5
    have x0 := cell_regrown (hxc 0 (.int .i64 x.p) rfl)
    simp only [Nat.add_zero] at x0
    have hxl3 : xb < w3.heap.size := Nat.lt_of_lt_of_le hxB hbw3.size
    have Hx : Hid (m.starts[st]? = some x) := hx
    have Htb : Hid (tb = apartFrom m x.p.toNat pn) := htb
    clear htb hx hxc
    go_upto_region 10 with fail
    refine wp_region_quiet_below (by kernel_rfl) (by kernel_rfl) ?_
    repeat (quiet_step (exact hrq _))
    refine wpQuiet_nil ?_
    intro wq hw'
    have hbq := below_of_regrown hw'
    have hbwq : Below w.heap.size w wq := hbw3.trans (hbq.mono hbw3.size)
    clear hw' q0 q1 q2 q3 q4 q5 x0 hrq
    cases tb with
    | false =>
      go_wp2
      go_ret
      exact ⟨rfl, hbwq⟩
    | true =>
      have hgAq : Gr WA wq := Gr.trans hgA3 hbq
      have hw1q : Below w1.heap.size w1 wq := hbA.trans (Below.mono hgAq hbA.size)
      have hSq : Own stE wq Bs (.slice a3 m.starts.length c3) m.starts := hSt.keep (kept_of_below' hw1q) (fun _ _ e => e)
      obtain ⟨g, cap', hg, hcap'⟩ := Own.at_ hSq Hx.out
      simp only [Value.slice.injEq] at hg
      obtain ⟨rfl, -, rfl⟩ := hg
      obtain ⟨cc, hgb⟩ := hSq.blk
      have gc : wq.cell? ⟨g, st * 3 + 2, none⟩ = some (.int .i64 x.l) := hSq.cell (E := stE) Hx.out (k := 2) rfl
      have gf : wq.frozen? ⟨g, st * 3 + 2, none⟩ = false := hgb.frozen _
      have hgl : Bs ≤ g ∧ g < w1.heap.size := hSt.lt rfl
      have hgq : g < wq.heap.size := (hSq.lt rfl).2
      have hkq : Blk wq w1.heap.size _ _ := hkb.keep (kept_of_below' hgAq) (fun e => e)
      have c5 : wq.cell? ⟨w1.heap.size, 5, none⟩ = some (.slice (some ⟨g, 0, none⟩) m.starts.length c3) := hkq.cell 5
      have hlkq := hkq.lt
      obtain ⟨WS, hWS⟩ : ∃ WS, WS = wq.setCell ⟨g, st * 3 + 2, none⟩ (.int .i64 load) := ⟨_, rfl⟩
      have HWS : Hid (WS = wq.setCell ⟨g, st * 3 + 2, none⟩ (.int .i64 load)) := hWS
      have hbS : Below Bs w1 WS := by rw [hWS]; exact Below.setCell (hw1q.mono hBs1) hgl.1 _
      have hsS : WS.heap.size = wq.heap.size := by rw [hWS]; simp [World.setCell]
      have HsS : Hid (WS.heap.size = wq.heap.size) := hsS
      have hBq : Bs ≤ wq.heap.size := Nat.le_trans hBs1 hw1q.size
      have hM2 : ModelAt WS wq.heap.size (.slice a1 m.links.length c1) (.slice a2 R'.length c2) (.slice (some ⟨g, 0, none⟩) m.starts.length c3) (reload m st x load) R' := by
        refine ⟨(RowsAt.keep hLk hbS).mono hBq, ⟨(RowsAt.keep hRl.1 hbS).mono hBq, fun y hy => (RowsAt.keep (hRl.2 y hy) hbS).mono hBq⟩, ?_, hM'.same⟩
        rw [hWS]; exact starts_set hSq Hx.out load
      have hkS : Blk WS w1.heap.size #[.int .i64 m.procs, .int .i64 m.states, .int .i64 m.loads, (.slice a1 m.links.length c1), (.slice a2 R'.length c2), (.slice (some ⟨g, 0, none⟩) m.starts.length c3)] 31 := by rw [hWS]; exact hkq.set_other (a := ⟨g, st * 3 + 2, none⟩) (show w1.heap.size ≠ g by omega) _
      have hkF : KeptF (fun i => i = g) wq WS := by rw [hWS]; exact (KeptF.refl (fun i => i = g) wq).setCell (p := ⟨g, st * 3 + 2, none⟩) (.inl rfl) _
      have hm' := right_reload hRt Hx.out d5 d6
      have hr2 := run_in2 (reload m st x load) (.slice a1 m.links.length c1) (.slice a2 R'.length c2) (.slice (some ⟨g, 0, none⟩) m.starts.length c3) R' wq.heap.size en WS hM2 (by rw [hsS]; exact Nat.le_refl _) hne
      have hsti : (st : Int) < m.starts.length := d2
      clear hWS hsS
      go_upto_region 14 with fail
      rw [← HWS.out]
      have r0 : WS.cell? ⟨w1.heap.size, 0, none⟩ = some (.int .i64 m.procs) := hkS.cell 0
      have r1 : WS.cell? ⟨w1.heap.size, 1, none⟩ = some (.int .i64 m.states) := hkS.cell 1
      have r2 : WS.cell? ⟨w1.heap.size, 2, none⟩ = some (.int .i64 m.loads) := hkS.cell 2
      have r3 : WS.cell? ⟨w1.heap.size, 3, none⟩ = some (.slice a1 m.links.length c1) := hkS.cell 3
      have r4 : WS.cell? ⟨w1.heap.size, 4, none⟩ = some (.slice a2 R'.length c2) := hkS.cell 4
      have r5 : WS.cell? ⟨w1.heap.size, 5, none⟩ = some (.slice (some ⟨g, 0, none⟩) m.starts.length c3) := hkS.cell 5
      have hlkS := hkS.lt
      clear j0 j1 j2 j3 j4 j5 gc gf c5
      go_wp2_with fail
      refine hr2.mono ?_
      rintro e4 w4 ⟨g4, s2, l2, rfl, hc2, hd2⟩
      clear hr2 r0 r1 r2 r3 r4 r5
      have hwg : w.heap.size < g := by have h1 := hgl.1; omega
      have hbw4 : Below w.heap.size w w4 := (hbwq.trans (KeptF.below hkF hbwq.size (fun i hi => by omega))).trans (g4.mono (Nat.le_trans hbwq.size hkF.size))
      have hnum := num_any (answer (reload m st x load) en).1 w4
      rcases answer_right hm' hen0 hen with ha2 | ha2
      · obtain ⟨sb2, lb2, t2, L2, rfl, rfl, hR2⟩ := hd2 ha2
        rw [ha2] at hnum
        rw [ha2]
        clear ha2 hc2 hd2
        have hnp2 : np (reload m st x load) = n := Hnp.out
        rw [hnp2]
        clear hnp2
        have p0q : wq.cell? ⟨w.heap.size, 0, none⟩ = some (.int .i64 (n : Int)) := (hbq.cell (p := ⟨w.heap.size, 0, none⟩) hlm3).trans p0
        have hlmq : w.heap.size < wq.heap.size := Nat.lt_of_lt_of_le hlm3 hbq.size
        have p0S : WS.cell? ⟨w.heap.size, 0, none⟩ = some (.int .i64 (n : Int)) := (hkF.cell (p := ⟨w.heap.size, 0, none⟩) hlmq (fun e => by have e : w.heap.size = g := e; omega)).trans p0q
        have hlmS : w.heap.size < WS.heap.size := Nat.lt_of_lt_of_le hlmq hkF.size
        have p04 : w4.cell? ⟨w.heap.size, 0, none⟩ = some (.int .i64 (n : Int)) := (g4.cell (p := ⟨w.heap.size, 0, none⟩) hlmS).trans p0S
        have hlm4 : w.heap.size < w4.heap.size := Nat.lt_of_lt_of_le hlmS g4.size
        have hgWA : g < WA.heap.size := Nat.lt_of_lt_of_le hgl.2 hbA.size
        have hQ1 := (((hR1.keep (kept_of_below' g3) (fun _ e => e.elim)).keep (kept_of_below' hbq) (fun _ e => e.elim)).keep hkF (fun i hi => by omega)).keep (kept_of_below' g4) (fun _ e => e.elim)
        have hpure := unreached hRt hm' hen Hx.out hC hUx hR1.stop hR2.stop Htb.out.symm
        obtain ⟨l, hl⟩ := get_of_lt (d := (atK m en t1).done) (k := pn) (by rw [hI1.ld, Hnp.out]; exact hpnn)
        obtain ⟨s, hs⟩ := get_of_lt (d := (atK m en t1).states) (k := pn) (by rw [hI1.ls, Hnp.out]; exact hpnn)
        have hl2 := hpure.2.symm.trans hl
        have hs2 := hpure.1.symm.trans hs
        obtain ⟨v1, hv1⟩ := get_of_lt (d := L1) (k := pn) (by rw [hQ1.len, Hnp.out]; exact hpnn)
        obtain ⟨v2, hv2⟩ := get_of_lt (d := L2) (k := pn) (by rw [hR2.len]; show pn < np m; rw [Hnp.out]; exact hpnn)
        have hr1 := (hQ1.rows pn v1 l hv1 hl).at
        have hr2 := (hR2.rows pn v2 l hv2 hl2).at
        have hlen := hlen1 pn l hl
        obtain ⟨ao1, cap1, hf1, hcp1⟩ := RowsAt.form hr1
        obtain ⟨ao2, cap2, hf2, hcp2⟩ := RowsAt.form hr2
        subst hf1 hf2
        have hal : ∀ q : Regrown, Calls Try.prog 24 #[.slice ao1 l.length cap1, .slice ao2 l.length cap2] (grow (redrawn w4 q.d) q.os) fun e' w'' => e' = .returned (.bool true) ∧ ∃ q : Regrown, w'' = grow (redrawn w4 q.d) q.os := fun q => by
          have hb2 := below_regrown w4 q.d q.os
          exact Calls.regrown_of (alike_any _ w4.heap.size _ _ l (hr1.keep hb2) (hr2.keep hb2) hb2.size hlen)
        have cl := cell_regrown (v := .slice ao1 l.length cap1) ((hQ1.ls.cell pn).trans (by simpa using hv1))
        have cn := cell_regrown (v := .slice ao2 l.length cap2) ((hR2.ls.cell pn).trans (by simpa using hv2))
        have dl1 := hQ1.ls.lt
        have dl2 := hR2.ls.lt
        have dl3 := hQ1.st.lt
        have dl4 := hR2.st.lt
        clear p0q p0S hpure
        go_upto_region 19 with (go_at_call 18; refine hnum.mono ?_; rintro e6 w6 ⟨rfl, hw6⟩; rw [hw6]; clear hw6)
        clear hnum
        refine wp_region_quiet_below (by kernel_rfl) (by kernel_rfl) ?_
        repeat (quiet_step (exact hal _))
        refine wpQuiet_nil ?_
        intro wy hw'
        have hby := below_of_regrown hw'
        clear hw' cl cn hal
        have hY1 := hQ1.keep (kept_of_below' hby) (fun _ e => e.elim)
        have hY2 := hR2.keep (kept_of_below' hby) (fun _ e => e.elim)
        have es := cell_regrown (v := .int .i64 s) ((hY1.st.cell pn).trans (ints_get hs))
        have et := cell_regrown (v := .int .i64 s) ((hY2.st.cell pn).trans (ints_get hs2))
        have fl3 := hY1.st.lt
        have fl4 := hY2.st.lt
        go_upto_region 20 with fail
        refine wp_region_quiet_below (by kernel_rfl) (by kernel_rfl) ?_
        repeat (first | quiet_step (fail) | go_big_quiet_step (fail))
        refine wpQuiet_nil ?_
        intro wz hw'
        have hbz := below_of_regrown hw'
        clear hw' es et
        go_wp2
        go_ret
        exact ⟨rfl, hbw4.trans ((hby.trans (hbz.mono hby.size)).mono hbw4.size)⟩
      · obtain ⟨rfl, rfl⟩ := hc2 (by rw [ha2]; simp)
        rw [ha2] at hnum
        rw [ha2]
        clear ha2 hc2 hd2
        go_wp2_with (go_at_call 18; refine hnum.mono ?_; rintro e6 w6 ⟨rfl, hw6⟩; rw [hw6]; clear hw6)
        go_ret
        exact ⟨rfl, hbw4⟩
  · obtain ⟨rfl, rfl⟩ := hc1 ha
    have h1 := answer_ne ha
    clear ha hc1 hd1
    generalize answer m en = a at *
    go_wp2_with (go_at_call 18; refine hnum.mono ?_; rintro e6 w6 ⟨rfl, hw6⟩; rw [hw6]; clear hw6)
    go_ret
    exact ⟨rfl, hbw3⟩

end Go.Proofs.Ytaieackeflmhgaa

