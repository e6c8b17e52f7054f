/-
  The course of events, its end; and the course with a later end. Nothing of the program.
-/
import Derived.Test.YtbpaigpjffdcbaaCour
namespace Go.Proofs.Ytbpaigpjffdcbaa
open Go.RowKit Go.Sort Go.Maps

theorem It.lt_trans {x y z : It} (h1 : x.lt y) (h2 : y.lt z) : x.lt z := by unfold It.lt at *; omega
theorem It.lt_irrefl (x : It) : ¬ x.lt x := by unfold It.lt; omega

theorem ev_least : ∀ (l : List Ev) (P : Ev → Bool), (∃ e ∈ l, P e = true) → ∃ (j : Nat) (e : Ev), l[j]? = some e ∧ P e = true ∧ ∀ y ∈ l, P y = true → ¬ y.it.lt e.it
  | [], P, h => by obtain ⟨e, he, _⟩ := h; simp at he
  | a :: l, P, h => by
    by_cases hl : ∃ e ∈ l, P e = true
    · obtain ⟨j, e, hj, hp, hm⟩ := ev_least l P hl
      by_cases ha : P a = true ∧ a.it.lt e.it
      · refine ⟨0, a, rfl, ha.1, fun y hy hyp hlt => ?_⟩
        rcases List.mem_cons.1 hy with rfl | hy
        · exact It.lt_irrefl _ hlt
        · exact hm y hy hyp (It.lt_trans hlt ha.2)
      · refine ⟨j + 1, e, by simpa using hj, hp, fun y hy hyp hlt => ?_⟩
        rcases List.mem_cons.1 hy with rfl | hy
        · exact ha ⟨hyp, hlt⟩
        · exact hm y hy hyp hlt
    · obtain ⟨e, he, hp⟩ := h
      rcases List.mem_cons.1 he with rfl | he
      · refine ⟨0, e, rfl, hp, fun y hy hyp hlt => ?_⟩
        rcases List.mem_cons.1 hy with rfl | hy
        · exact It.lt_irrefl _ hlt
        · exact hl ⟨y, hy, hyp⟩
      · exact absurd ⟨e, he, hp⟩ hl

theorem nx_is {en : Int} {wait : List Ev} {j : Nat} (h : nx en wait = some j) : IsNx en wait j := nxB_iff.1 (List.find?_some h)
theorem nx_none_all {en : Int} {wait : List Ev} (h : nx en wait = none) : ∀ e ∈ wait, en ≤ e.it.t := by
  intro e he
  refine Decidable.byContradiction fun hn => ?_
  obtain ⟨j, x, hj, hx, hm⟩ := ev_least wait (fun e => decide (e.it.t < en)) ⟨e, he, by simpa using hn⟩
  unfold nx at h
  rw [List.find?_eq_none] at h
  exact h j (by simpa using get_lt hj) (nxB_iff.2 ⟨x, hj, by simpa using hx, fun y hy ht => hm y hy (by simpa using ht)⟩)
theorem nx_later {en la : Int} {wait : List Ev} (hk : (wait.map evKey).Nodup) (hle : en ≤ la) {j : Nat} (h : nx en wait = some j) : nx la wait = some j := by
  obtain ⟨e, he, ht, hm⟩ := nx_is h
  refine nx_some hk ⟨e, he, by omega, fun y hy _ hlt => ?_⟩
  have : y.it.t < en := by unfold It.lt at hlt; omega
  exact hm y hy this hlt

theorem stepF_none {m : Mdl} {en : Int} {c : Cs} (h : nx en c.wait = none) : stepF m en c = c := by
  simp only [stepF, h]

theorem atK_inv {m : Mdl} (hm : Right m) {en : Int} (hen : en ≤ 200) : ∀ k, Inv m (atK m en k)
  | 0 => inv_c0 hm
  | k + 1 => by
    show Inv m (stepF m en (atK m en k))
    have ih := atK_inv hm hen k
    cases h : nx en (atK m en k).wait with
    | none => rw [stepF_none h]; exact ih
    | some j =>
      obtain ⟨e, he, ht, _⟩ := nx_is h
      rw [stepF_some h he]
      exact inv_do hm ih hen he ht

theorem atK_all (m : Mdl) (en : Int) : ∀ k, (atK m en k).all ≤ k
  | 0 => Nat.le_refl _
  | k + 1 => by
    show (stepF m en (atK m en k)).all ≤ k + 1
    have ih := atK_all m en k
    cases h : nx en (atK m en k).wait with
    | none => rw [stepF_none h]; omega
    | some j =>
      obtain ⟨e, he, _⟩ := nx_is h
      rw [stepF_some h he, doEv_all]; omega

theorem atK_stop {m : Mdl} {en : Int} {k : Nat} (h : nx en (atK m en k).wait = none) : ∀ d, atK m en (k + d) = atK m en k
  | 0 => rfl
  | d + 1 => by
    show stepF m en (atK m en (k + d)) = _
    rw [atK_stop h d, stepF_none h]
theorem atK_end {m : Mdl} {en : Int} {k k' : Nat} (h : nx en (atK m en k).wait = none) (h' : nx en (atK m en k').wait = none) : atK m en k = atK m en k' := by
  rcases Nat.le_total k k' with hl | hl
  · obtain ⟨d, rfl⟩ := Nat.le.dest hl; exact (atK_stop h d).symm
  · obtain ⟨d, rfl⟩ := Nat.le.dest hl; exact atK_stop h' d

theorem first_stop {m : Mdl} {en : Int} : ∀ k, nx en (atK m en k).wait = none → ∃ k1, k1 ≤ k ∧ nx en (atK m en k1).wait = none ∧ Live m en k1
  | 0, h => ⟨0, Nat.le_refl _, h, fun i hi => by omega⟩
  | k + 1, h => by
    by_cases h0 : ∃ i, i ≤ k ∧ nx en (atK m en i).wait = none
    · obtain ⟨i, hi, h1⟩ := h0
      have h2 : nx en (atK m en k).wait = none := by
        obtain ⟨d, rfl⟩ := Nat.le.dest hi
        rw [atK_stop h1]; exact h1
      obtain ⟨k1, h3, h4, h5⟩ := first_stop k h2
      exact ⟨k1, by omega, h4, h5⟩
    · exact ⟨k + 1, Nat.le_refl _, h, fun i hi e => h0 ⟨i, by omega, e⟩⟩

theorem atK_later {m : Mdl} (hm : Right m) {en la : Int} (hle : en ≤ la) (hen : en ≤ 200) {k : Nat} (hL : Live m en k) : ∀ i, i ≤ k → atK m la i = atK m en i
  | 0, _ => rfl
  | i + 1, hi => by
    show stepF m la (atK m la i) = stepF m en (atK m en i)
    rw [atK_later hm hle hen hL i (by omega)]
    cases h : nx en (atK m en i).wait with
    | none => exact absurd h (hL i (by omega))
    | some j =>
      obtain ⟨e, he, _, _⟩ := nx_is h
      rw [stepF_some h he, stepF_some (nx_later (atK_inv hm hen i).keys hle h) he]

theorem doEv_done (m : Mdl) (c : Cs) (j : Nat) (e : Ev) : ∃ st, (doEv m c j e).done = c.done.set e.p.toNat (c.done.getD e.p.toNat [] ++ [⟨e.it, st⟩]) := by
  unfold doEv
  split
  · exact ⟨_, rfl⟩
  · exact ⟨_, rfl⟩
theorem doEv_wait {m : Mdl} (hm : Right m) {c : Cs} {j : Nat} {e : Ev} : ∀ y ∈ (doEv m c j e).wait, y ∈ c.wait ∨ e.it.t < y.it.t := by
  intro y hy
  unfold doEv at hy
  split at hy
  · exact .inl (List.mem_of_mem_eraseIdx hy)
  · rename_i r hr
    rcases List.mem_append.1 hy with hy | hy
    · exact .inl (List.mem_of_mem_eraseIdx hy)
    · right
      obtain ⟨i, hi⟩ := List.getElem?_of_mem hy
      obtain ⟨x, hx, rfl⟩ := emitted_get hi
      obtain ⟨ri, hri, _⟩ := ruleAt_mem hr
      have hro := ruleOk_iff (hm.rule hri)
      obtain ⟨z, z1, z2, z3, z4, z5, _⟩ := emitOk_iff (hro.2.2.2.2.2 x (List.mem_of_getElem? hx))
      have := hm.link z1
      show e.it.t < e.it.t + x.d
      omega

theorem set_row {α : Type} {l : List (List α)} {p i : Nat} {x : List α} {y : List α} (hx : l[i]? = some x) (h : p < l.length) : (l.set p (l.getD p [] ++ y))[i]? = some (if i = p then x ++ y else x) := by
  by_cases e : i = p
  · subst e
    rw [List.getElem?_set_self h, List.getD_eq_getElem?_getD, hx, if_pos rfl]; rfl
  · rw [List.getElem?_set_ne (by omega), if_neg e, hx]

theorem done_below {m : Mdl} (hm : Right m) {en : Int} (hen : en ≤ 200) : ∀ (k p : Nat) (l : List Dn), (atK m en k).done[p]? = some l → ∀ y ∈ l, y.it.t < en
  | 0, p, l, h, y, hy => by
    have h' : (List.replicate (np m) ([] : List Dn))[p]? = some l := h
    rw [List.getElem?_replicate] at h'
    split at h'
    · cases h'; simp at hy
    · cases h'
  | k + 1, p, l, h, y, hy => by
    have ih := done_below hm hen k
    have hI := atK_inv hm hen k
    have h' : (stepF m en (atK m en k)).done[p]? = some l := h
    cases hn : nx en (atK m en k).wait with
    | none => rw [stepF_none hn] at h'; exact ih p l h' y hy
    | some j =>
      obtain ⟨e, he, ht, _⟩ := nx_is hn
      rw [stepF_some hn he] at h'
      obtain ⟨st, hd⟩ := doEv_done m (atK m en k) j e
      rw [hd] at h'
      have hp0 := hI.ev e (List.mem_of_getElem? he)
      have hpl : e.p.toNat < (atK m en k).done.length := by rw [hI.ld]; unfold np; omega
      obtain ⟨l0, hl0⟩ := get_of_lt (d := (atK m en k).done) (k := p) (by have := get_lt h'; simpa using this)
      rw [set_row hl0 hpl] at h'
      cases h'
      split at hy
      · rcases List.mem_append.1 hy with hy | hy
        · exact ih p l0 hl0 y hy
        · simp at hy; subst hy; exact ht
      · exact ih p l0 hl0 y hy

theorem after_end {m : Mdl} (hm : Right m) {en la : Int} (hla : la ≤ 200) {k1 : Nat} {D : List (List Dn)} (h0 : ∀ e ∈ (atK m la k1).wait, en ≤ e.it.t) (hD : (atK m la k1).done = D) :
    ∀ d, (∀ e ∈ (atK m la (k1 + d)).wait, en ≤ e.it.t) ∧ ∀ (p : Nat) (l : List Dn), D[p]? = some l → ∃ x, (atK m la (k1 + d)).done[p]? = some (l ++ x) ∧ ∀ y ∈ x, en ≤ y.it.t ∧ y.it.t < la
  | 0 => ⟨h0, fun p l hl => ⟨[], by rw [List.append_nil, Nat.add_zero, hD]; exact hl, fun y hy => by simp at hy⟩⟩
  | d + 1 => by
    obtain ⟨ih1, ih2⟩ := after_end hm hla h0 hD d
    have hI := atK_inv hm hla (k1 + d)
    show (∀ e ∈ (stepF m la (atK m la (k1 + d))).wait, en ≤ e.it.t) ∧ ∀ (p : Nat) (l : List Dn), D[p]? = some l → ∃ x, (stepF m la (atK m la (k1 + d))).done[p]? = some (l ++ x) ∧ ∀ y ∈ x, en ≤ y.it.t ∧ y.it.t < la
    cases hn : nx la (atK m la (k1 + d)).wait with
    | none => rw [stepF_none hn]; exact ⟨ih1, ih2⟩
    | some j =>
      obtain ⟨e, he, ht, _⟩ := nx_is hn
      rw [stepF_some hn he]
      have hee := ih1 e (List.mem_of_getElem? he)
      refine ⟨fun y hy => ?_, fun p l hl => ?_⟩
      · rcases doEv_wait hm y hy with h1 | h1
        · exact ih1 y h1
        · omega
      · obtain ⟨x, hx, hxt⟩ := ih2 p l hl
        obtain ⟨st, hd⟩ := doEv_done m (atK m la (k1 + d)) j e
        have hp0 := hI.ev e (List.mem_of_getElem? he)
        have hpl : e.p.toNat < (atK m la (k1 + d)).done.length := by rw [hI.ld]; unfold np; omega
        rw [hd, set_row hx hpl]
        by_cases e1 : p = e.p.toNat
        · rw [if_pos e1]
          refine ⟨x ++ [⟨e.it, st⟩], by rw [List.append_assoc], fun y hy => ?_⟩
          rcases List.mem_append.1 hy with hy | hy
          · exact hxt y hy
          · simp at hy; subst hy; exact ⟨hee, ht⟩
        · rw [if_neg e1]
          exact ⟨x, rfl, hxt⟩

theorem longer {m : Mdl} (hm : Right m) {en la : Int} (hle : en ≤ la) (hla : la ≤ 200) {k k' : Nat} (h : nx en (atK m en k).wait = none) (h' : nx la (atK m la k').wait = none) :
    ∀ (p : Nat) (l : List Dn), (atK m en k).done[p]? = some l → ∃ x, (atK m la k').done[p]? = some (l ++ x) ∧ (∀ y ∈ l, y.it.t < en) ∧ ∀ y ∈ x, en ≤ y.it.t ∧ y.it.t < la := by
  intro p l hl
  have hen : en ≤ 200 := by omega
  have hb := done_below hm hen k p l hl
  obtain ⟨k1, _, hk1, hL⟩ := first_stop k h
  rw [atK_end h hk1] at hl
  have e1 := atK_later hm hle hen hL k1 (Nat.le_refl _)
  have key := after_end hm hla (k1 := k1) (D := (atK m en k1).done) (by rw [e1]; exact nx_none_all hk1) (by rw [e1]) k'
  obtain ⟨x, hx, hxt⟩ := key.2 p l hl
  have e2 : atK m la (k1 + k') = atK m la k' := by rw [Nat.add_comm]; exact atK_stop h' k1
  rw [e2] at hx
  exact ⟨x, hx, hb, hxt⟩

end Go.Proofs.Ytbpaigpjffdcbaa
