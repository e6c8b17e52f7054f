/-
  To which processes links lead, as the law reckons it. Nothing of the program.
-/
import Derived.Test.YtbpaigpjffdcbaaUnrea
namespace Go.Proofs.Ytbpaigpjffdcbaa
open Go.RowKit Go.Sort Go.Maps

def link1 (l : List Bool) (y : MLink) : List Bool := if l.getD y.f.toNat false = true then l.set y.t.toNat true else l
def reach (m : Mdl) (a : Nat) : Nat → List Bool
  | 0 => (List.replicate (np m) false).set a true
  | i + 1 => m.links.foldl link1 (reach m a i)

def LeB (l l' : List Bool) : Prop := l.length = l'.length ∧ ∀ i : Nat, l[i]? = some true → l'[i]? = some true

theorem LeB.refl (l : List Bool) : LeB l l := ⟨rfl, fun _ h => h⟩
theorem LeB.trans {a b c : List Bool} (h : LeB a b) (k : LeB b c) : LeB a c := ⟨h.1.trans k.1, fun i hi => k.2 i (h.2 i hi)⟩
theorem LeB.tail {x y : Bool} {l l' : List Bool} (h : LeB (x :: l) (y :: l')) : LeB l l' := by
  refine ⟨by have := h.1; simpa using this, fun i hi => ?_⟩
  have := h.2 (i + 1) (by simpa using hi)
  simpa using this
theorem LeB.count : ∀ {l l' : List Bool}, LeB l l' → l.count true ≤ l'.count true ∧ (l.count true = l'.count true → l = l')
  | [], [], _ => ⟨Nat.le_refl _, fun _ => rfl⟩
  | [], y :: l', h => by have := h.1; simp at this
  | x :: l, [], h => by have := h.1; simp at this
  | x :: l, y :: l', h => by
    obtain ⟨h1, h2⟩ := LeB.count h.tail
    have h0 := h.2 0
    cases x <;> cases y
    · simp only [List.count_cons]; exact ⟨by simpa using h1, fun e => by rw [h2 (by simpa using e)]⟩
    · simp only [List.count_cons]
      refine ⟨by simp; omega, fun e => ?_⟩
      simp at e
      omega
    · simp at h0
    · simp only [List.count_cons]; exact ⟨by simpa using h1, fun e => by rw [h2 (by simpa using e)]⟩
theorem LeB.anti {l l' : List Bool} (h : LeB l l') (k : LeB l' l) : l = l' :=
  h.count.2 (Nat.le_antisymm h.count.1 k.count.1)

theorem link1_le (l : List Bool) (y : MLink) : LeB l (link1 l y) := by
  unfold link1
  split
  · refine ⟨by simp, fun i hi => ?_⟩
    by_cases e : i = y.t.toNat
    · subst e; rw [List.getElem?_set_self (get_lt hi)]
    · rw [List.getElem?_set_ne (by omega)]; exact hi
  · exact LeB.refl l
theorem fold_le : ∀ (ys : List MLink) (l : List Bool), LeB l (ys.foldl link1 l) ∧ (ys.foldl link1 l = l → ∀ y ∈ ys, link1 l y = l)
  | [], l => ⟨LeB.refl l, fun _ y hy => by simp at hy⟩
  | y :: ys, l => by
    obtain ⟨h1, h2⟩ := fold_le ys (link1 l y)
    have h0 := link1_le l y
    refine ⟨h0.trans h1, fun e z hz => ?_⟩
    have e0 : ys.foldl link1 (link1 l y) = l := e
    have e1 : link1 l y = l := (LeB.anti h0 (by rw [e0] at h1; exact h1)).symm
    rcases List.mem_cons.1 hz with rfl | hz
    · exact e1
    · rw [e1] at h2 e0
      exact h2 e0 z hz

theorem reach_len (m : Mdl) (a : Nat) : ∀ i, (reach m a i).length = np m
  | 0 => by simp [reach]
  | i + 1 => by rw [← reach_len m a i]; exact (fold_le m.links (reach m a i)).1.1.symm
theorem reach_self {m : Mdl} {a : Nat} (ha : a < np m) : ∀ i, (reach m a i)[a]? = some true
  | 0 => by
    show ((List.replicate (np m) false).set a true)[a]? = _
    rw [List.getElem?_set_self (by simpa using ha)]
  | i + 1 => (fold_le m.links (reach m a i)).1.2 a (reach_self ha i)
theorem reach_more {m : Mdl} {a : Nat} (ha : a < np m) : ∀ i, i + 1 ≤ (reach m a i).count true ∨ m.links.foldl link1 (reach m a i) = reach m a i
  | 0 => by
    left
    have := List.count_pos_iff.2 (List.mem_of_getElem? (reach_self ha 0))
    omega
  | i + 1 => by
    by_cases e : m.links.foldl link1 (reach m a i) = reach m a i
    · right
      show m.links.foldl link1 (m.links.foldl link1 (reach m a i)) = m.links.foldl link1 (reach m a i)
      rw [e, e]
    · left
      rcases reach_more ha i with h | h
      · have hc := (fold_le m.links (reach m a i)).1.count
        have h1 : (reach m a i).count true ≠ (m.links.foldl link1 (reach m a i)).count true := fun e' => e (hc.2 e').symm
        show i + 1 + 1 ≤ (m.links.foldl link1 (reach m a i)).count true
        have := hc.1
        omega
      · exact absurd h e

/-- the processes to which no links lead from a -/
def apartFrom (m : Mdl) (a : Nat) (i : Nat) : Bool := !((reach m a (np m)).getD i false)

theorem reach_closed {m : Mdl} (hm : Right m) {a : Nat} (ha : a < np m) : ∀ y ∈ m.links, apartFrom m a y.t.toNat = true → apartFrom m a y.f.toNat = true := by
  have hfix : m.links.foldl link1 (reach m a (np m)) = reach m a (np m) := by
    rcases reach_more ha (np m) with h | h
    · have h1 := List.count_le_length (a := true) (l := reach m a (np m))
      rw [reach_len] at h1
      omega
    · exact h
  intro y hy ht
  obtain ⟨j, hj⟩ := List.getElem?_of_mem hy
  have hl := hm.link hj
  have h1 := (fold_le m.links (reach m a (np m))).2 hfix y hy
  unfold apartFrom at ht ⊢
  cases hf : (reach m a (np m)).getD y.f.toNat false with
  | false => rfl
  | true =>
    unfold link1 at h1
    rw [if_pos hf] at h1
    have h2 : ((reach m a (np m)).set y.t.toNat true)[y.t.toNat]? = some true := List.getElem?_set_self (by rw [reach_len]; unfold np; omega)
    rw [h1] at h2
    rw [List.getD_eq_getElem?_getD, h2] at ht
    cases ht
theorem apart_self {m : Mdl} {a : Nat} (ha : a < np m) : apartFrom m a a = false := by
  unfold apartFrom
  rw [List.getD_eq_getElem?_getD, reach_self ha]; rfl

end Go.Proofs.Ytbpaigpjffdcbaa
