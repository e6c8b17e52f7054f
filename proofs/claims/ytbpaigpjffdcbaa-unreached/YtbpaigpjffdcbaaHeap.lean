/-
  Plain lists as heaps: what one exchange upward or downward does. Nothing of the program.
-/
namespace Go.Proofs.Ytbpaigpjffdcbaa

section
variable {α : Type}

/-- the list with the elements at i (it is x) and j (it is y) exchanged -/
def swapL (d : List α) (i j : Nat) (x y : α) : List α := (d.set i y).set j x

theorem swapL_length (d : List α) (i j : Nat) (x y : α) : (swapL d i j x y).length = d.length := by simp [swapL]

theorem swapL_get (d : List α) (i j : Nat) (x y : α) (hi : i < d.length) (hj : j < d.length) (k : Nat) :
    (swapL d i j x y)[k]? = if k = j then some x else if k = i then some y else d[k]? := by
  unfold swapL
  rw [List.getElem?_set]
  by_cases h1 : k = j
  · subst h1; simp [hj]
  · rw [if_neg (fun e => h1 e.symm), if_neg h1, List.getElem?_set]
    by_cases h2 : k = i
    · subst h2; simp [hi]
    · rw [if_neg (fun e => h2 e.symm), if_neg h2]

theorem get_lt {d : List α} {k : Nat} {x : α} (h : d[k]? = some x) : k < d.length := by
  rcases Nat.lt_or_ge k d.length with h' | h'
  · exact h'
  · rw [List.getElem?_eq_none h'] at h; cases h

theorem get_of_lt {d : List α} {k : Nat} (h : k < d.length) : ∃ x, d[k]? = some x := ⟨d[k], by simp [h]⟩

theorem set_perm_aux (y : α) : ∀ (d : List α) (j : Nat) (z : α), d[j]? = some z → List.Perm (z :: d.set j y) (y :: d)
  | [], j, z, h => by simp at h
  | a :: d, 0, z, h => by
    simp only [List.getElem?_cons_zero, Option.some.injEq] at h
    subst h
    simp only [List.set_cons_zero]
    exact List.Perm.swap _ _ _
  | a :: d, j + 1, z, h => by
    simp only [List.getElem?_cons_succ] at h
    simp only [List.set_cons_succ]
    exact ((List.Perm.swap _ _ _).trans ((set_perm_aux y d j z h).cons a)).trans (List.Perm.swap _ _ _)

theorem swapL_perm (d : List α) (i j : Nat) (x y : α) (hne : i ≠ j) (hi : d[i]? = some x) (hj : d[j]? = some y) : (swapL d i j x y).Perm d := by
  have h1 := set_perm_aux y d i x hi
  have hj' : (d.set i y)[j]? = some y := by rw [List.getElem?_set_ne hne]; exact hj
  have h2 := set_perm_aux x (d.set i y) j y hj'
  exact (List.Perm.cons_inv (h2.trans h1))

variable (lt : α → α → Bool)

def HeapL (d : List α) : Prop := ∀ k x y, 0 < k → d[k]? = some x → d[(k - 1) / 2]? = some y → lt x y = false
def RiseInv (d : List α) (i : Nat) : Prop :=
  (∀ k x y, 0 < k → k ≠ i → d[k]? = some x → d[(k - 1) / 2]? = some y → lt x y = false) ∧
  (∀ k x y, 0 < k → 0 < i → (k - 1) / 2 = i → d[k]? = some x → d[(i - 1) / 2]? = some y → lt x y = false)
def SinkInv (d : List α) (i : Nat) : Prop :=
  (∀ k x y, 0 < k → (k - 1) / 2 ≠ i → d[k]? = some x → d[(k - 1) / 2]? = some y → lt x y = false) ∧
  (∀ k x y, 0 < k → 0 < i → (k - 1) / 2 = i → d[k]? = some x → d[(i - 1) / 2]? = some y → lt x y = false)

structure Orderly : Prop where
  asymm : ∀ x y, lt x y = true → lt y x = false
  ntrans : ∀ x y z, lt y x = false → lt z y = false → lt z x = false

variable {lt}

theorem Orderly.irrefl (O : Orderly lt) (x : α) : lt x x = false := by
  cases h : lt x x with
  | false => rfl
  | true => exact h.symm.trans (O.asymm x x h)

theorem RiseInv.step (O : Orderly lt) {d : List α} {i j : Nat} {x y : α} (h : RiseInv lt d i) (hi : 0 < i) (hj : j = (i - 1) / 2) (hx : d[i]? = some x) (hy : d[j]? = some y) (hl : lt x y = true) :
    RiseInv lt (swapL d i j x y) j := by
  have li := get_lt hx
  have lj := get_lt hy
  have hji : j < i := by omega
  have hyx := O.asymm x y hl
  obtain ⟨h1, h2⟩ := h
  refine ⟨fun k a b hk hkj ha hb => ?_, fun k a b hk hj0 hkp ha hb => ?_⟩
  · rw [swapL_get d i j x y li lj] at ha hb
    rw [if_neg hkj] at ha
    by_cases hki : k = i
    · rw [if_pos hki] at ha
      rw [if_pos (by omega)] at hb
      cases ha; cases hb
      exact hyx
    · rw [if_neg hki] at ha
      by_cases hpj : (k - 1) / 2 = j
      · rw [if_pos hpj] at hb
        cases hb
        exact O.ntrans x y a hyx (h1 k a y hk hki ha (by rw [hpj]; exact hy))
      · rw [if_neg hpj] at hb
        by_cases hpi : (k - 1) / 2 = i
        · rw [if_pos hpi] at hb
          cases hb
          exact h2 k a y hk hi hpi ha (by rw [← hj]; exact hy)
        · rw [if_neg hpi] at hb
          exact h1 k a b hk hki ha hb
  · rw [swapL_get d i j x y li lj] at ha hb
    rw [if_neg (by omega), if_neg (by omega)] at hb
    rw [if_neg (by omega)] at ha
    have hyb : lt y b = false := h1 j y b hj0 (by omega) hy hb
    by_cases hki : k = i
    · rw [if_pos hki] at ha
      cases ha
      exact hyb
    · rw [if_neg hki] at ha
      exact O.ntrans b y a hyb (h1 k a y hk hki ha (by rw [hkp]; exact hy))

theorem RiseInv.done0 {d : List α} (h : RiseInv lt d 0) : HeapL lt d :=
  fun k x y hk hx hy => h.1 k x y hk (by omega) hx hy
theorem RiseInv.done {d : List α} {i : Nat} {x y : α} (h : RiseInv lt d i) (hx : d[i]? = some x) (hy : d[(i - 1) / 2]? = some y) (hl : lt x y = false) : HeapL lt d := by
  intro k a b hk ha hb
  by_cases hki : k = i
  · subst hki
    rw [hx] at ha; rw [hy] at hb
    cases ha; cases hb; exact hl
  · exact h.1 k a b hk hki ha hb

theorem RiseInv.push {d : List α} (h : HeapL lt d) (e : α) : RiseInv lt (d ++ [e]) d.length := by
  refine ⟨fun k x y hk hne hx hy => ?_, fun k x y hk h0 hp hx hy => ?_⟩
  · have hk' := get_lt hx
    rw [List.length_append, List.length_singleton] at hk'
    rw [List.getElem?_append_left (by omega)] at hx hy
    exact h k x y hk hx hy
  · have hk' := get_lt hx
    rw [List.length_append, List.length_singleton] at hk'
    omega

theorem SinkInv.step (O : Orderly lt) {d : List α} {i m : Nat} {x y : α} (h : SinkInv lt d i) (hm : 0 < m) (hmi : (m - 1) / 2 = i) (hx : d[i]? = some x) (hy : d[m]? = some y) (hl : lt y x = true)
    (hmin : ∀ k a, 0 < k → (k - 1) / 2 = i → d[k]? = some a → lt a y = false) : SinkInv lt (swapL d i m x y) m := by
  have li := get_lt hx
  have lm := get_lt hy
  have him : i < m := by omega
  have hxy := O.asymm y x hl
  obtain ⟨h1, h2⟩ := h
  refine ⟨fun k a b hk hkm ha hb => ?_, fun k a b hk hm0 hkp ha hb => ?_⟩
  · rw [swapL_get d i m x y li lm] at ha hb
    rw [if_neg hkm] at hb
    by_cases hk1 : k = m
    · rw [if_pos hk1] at ha
      rw [if_pos (by rw [hk1]; exact hmi)] at hb
      cases ha; cases hb
      exact hxy
    · rw [if_neg hk1] at ha
      by_cases hk2 : k = i
      · rw [if_pos hk2] at ha
        rw [if_neg (by omega)] at hb
        cases ha
        exact h2 m y b hm (by omega) hmi hy (by rw [← hk2]; exact hb)
      · rw [if_neg hk2] at ha
        by_cases hp : (k - 1) / 2 = i
        · rw [if_pos hp] at hb
          cases hb
          exact hmin k a hk hp ha
        · rw [if_neg hp] at hb
          exact h1 k a b hk hp ha hb
  · rw [swapL_get d i m x y li lm] at ha hb
    rw [if_neg (by omega), if_neg (by omega)] at ha
    rw [if_neg (by omega), if_pos (by omega)] at hb
    cases hb
    exact h1 k a y hk (by omega) ha (by rw [hkp]; exact hy)

theorem SinkInv.done {d : List α} {i : Nat} (h : SinkInv lt d i) (hmin : ∀ k a x, 0 < k → (k - 1) / 2 = i → d[k]? = some a → d[i]? = some x → lt a x = false) : HeapL lt d := by
  intro k a b hk ha hb
  by_cases hp : (k - 1) / 2 = i
  · exact hmin k a b hk hp ha (by rw [← hp]; exact hb)
  · exact h.1 k a b hk hp ha hb

/-- what pop leaves: the last one in front, the end cut -/
def popL (d : List α) (last : α) : List α := (d.set 0 last).take (d.length - 1)

theorem SinkInv.pop {d : List α} (h : HeapL lt d) (last : α) : SinkInv lt (popL d last) 0 := by
  refine ⟨fun k x y hk hp hx hy => ?_, fun k x y hk h0 => by omega⟩
  have lk := get_lt hx
  simp only [popL, List.length_take, List.length_set] at lk
  unfold popL at hx hy
  rw [List.getElem?_take_of_lt (by omega), List.getElem?_set_ne (by omega)] at hx hy
  exact h k x y hk hx hy

theorem popL_length (d : List α) (last : α) : (popL d last).length = d.length - 1 := by
  simp [popL]

theorem popL_perm {d : List α} {x last : α} (hx : d[0]? = some x) (hl : d[d.length - 1]? = some last) : (x :: popL d last).Perm d := by
  cases d with
  | nil => simp at hx
  | cons a r =>
    simp only [List.getElem?_cons_zero, Option.some.injEq] at hx
    subst hx
    simp only [popL, List.length_cons, Nat.add_sub_cancel, List.set_cons_zero] at *
    cases r with
    | nil => simp
    | cons b r =>
      simp only [List.length_cons, List.getElem?_cons_succ] at hl
      simp only [List.length_cons, List.take_succ_cons]
      have e : b :: r = (b :: r).take (r.length) ++ [last] := by
        have h1 : (b :: r) = (b :: r).take (r.length) ++ (b :: r).drop r.length := (List.take_append_drop _ _).symm
        have h2 : (b :: r).drop r.length = [last] := by
          have := List.drop_eq_getElem_cons (l := b :: r) (i := r.length) (by simp)
          rw [this]
          have hg : (b :: r)[r.length]? = some last := hl
          rw [List.getElem?_eq_getElem (by simp)] at hg
          simp only [Option.some.injEq] at hg
          rw [hg]
          simp
        rw [h2] at h1
        exact h1
      refine List.Perm.cons _ ?_
      refine List.Perm.trans ?_ (List.Perm.of_eq e.symm)
      exact (List.perm_append_singleton _ _).symm

theorem HeapL.least (O : Orderly lt) {d : List α} (h : HeapL lt d) {x : α} (h0 : d[0]? = some x) : ∀ (n k : Nat) (a : α), k ≤ n → d[k]? = some a → lt a x = false
  | 0, k, a, hk, ha => by
    have : k = 0 := by omega
    subst this
    rw [h0] at ha; cases ha
    exact O.irrefl _
  | n + 1, k, a, hk, ha => by
    by_cases hz : k = 0
    · subst hz
      rw [h0] at ha; cases ha
      exact O.irrefl _
    · have lk := get_lt ha
      obtain ⟨b, hb⟩ := get_of_lt (d := d) (k := (k - 1) / 2) (by omega)
      exact O.ntrans x b a (HeapL.least O h h0 n ((k - 1) / 2) b (by omega) hb) (h k a b (by omega) ha hb)

theorem HeapL.least_mem (O : Orderly lt) {d : List α} (h : HeapL lt d) {x : α} (h0 : d[0]? = some x) {a : α} (ha : a ∈ d) : lt a x = false := by
  obtain ⟨k, hk⟩ := List.getElem?_of_mem ha
  exact HeapL.least O h h0 k k a (Nat.le_refl _) hk

end
end Go.Proofs.Ytbpaigpjffdcbaa
