/-
  Plain words: items, entries, and how they are ordered. Nothing of the program.
  The walks of the small functions: cmp.Compare, cmp.Or at three, Item.compare, entry.before, day.before.
  Plain lists as heaps: what one exchange upward or downward does. Nothing of the program.
  What a call does to memory: blocks that may turn, blocks that stay; rows of entries and of pointers in a block of the program's own.
  The walks of rise: at entries, at days.
-/
import Derived.Test.YtaieackeflmhgaaProg
import Derived.WalkKit
import Derived.WalkSpells
import Derived.WalkLawsBesides
import Derived.StillTailTactics
import Derived.BigRegion
import Derived.BigQuiet
import Derived.Below
import Derived.Deep.Draws
import Derived.Deep.LoopGhost
import Derived.Lib.QuietBelow
namespace Go.Proofs.Ytaieackeflmhgaa

def cmpI (a b : Int) : Int := if a < b then -1 else if b < a then 1 else 0
def or3 (x y z : Int) : Int := if x = 0 then (if y = 0 then z else y) else x

structure It where
  t : Int
  f : Int
  s : Int
  l : Int

structure Ent where
  it : It
  r : Int

def It.cmp (x y : It) : Int := or3 (cmpI x.t y.t) (cmpI x.f y.f) (cmpI x.s y.s)
def Ent.ltB (x y : Ent) : Bool := if x.it.cmp y.it = 0 then decide (x.r < y.r) else decide (x.it.cmp y.it < 0)

theorem or3_x {x y z : Int} (h : x ≠ 0) : or3 x y z = x := by simp [or3, h]
theorem or3_y {y z : Int} (h : y ≠ 0) : or3 0 y z = y := by simp [or3, h]
theorem or3_z {z : Int} : or3 0 0 z = z := by simp [or3]

/-- 'ahead': by time, From, Seq. -/
def It.lt (x y : It) : Prop := x.t < y.t ∨ (x.t = y.t ∧ (x.f < y.f ∨ (x.f = y.f ∧ x.s < y.s)))
def It.same (x y : It) : Prop := x.t = y.t ∧ x.f = y.f ∧ x.s = y.s

theorem cmpI_neg {a b : Int} : cmpI a b < 0 ↔ a < b := by unfold cmpI; split <;> (try split) <;> omega
theorem cmpI_zero {a b : Int} : cmpI a b = 0 ↔ a = b := by unfold cmpI; split <;> (try split) <;> omega

theorem It.cmp_neg (x y : It) : x.cmp y < 0 ↔ x.lt y := by
  have h1 := @cmpI_neg x.t y.t
  have z1 := @cmpI_zero x.t y.t
  have h2 := @cmpI_neg x.f y.f
  have z2 := @cmpI_zero x.f y.f
  have h3 := @cmpI_neg x.s y.s
  have z3 := @cmpI_zero x.s y.s
  unfold It.cmp It.lt or3
  generalize cmpI x.t y.t = a at *
  generalize cmpI x.f y.f = b at *
  generalize cmpI x.s y.s = c at *
  split
  · split <;> omega
  · omega

theorem It.cmp_zero (x y : It) : x.cmp y = 0 ↔ x.same y := by
  have z1 := @cmpI_zero x.t y.t
  have z2 := @cmpI_zero x.f y.f
  have z3 := @cmpI_zero x.s y.s
  unfold It.cmp It.same or3
  generalize cmpI x.t y.t = a at *
  generalize cmpI x.f y.f = b at *
  generalize cmpI x.s y.s = c at *
  split
  · split <;> omega
  · omega

/-- The whole order of entries: strict and total but for equal keys and ranks. -/
def Ent.lt (x y : Ent) : Prop := x.it.lt y.it ∨ (x.it.same y.it ∧ x.r < y.r)

theorem Ent.ltB_iff (x y : Ent) : x.ltB y = true ↔ x.lt y := by
  unfold Ent.ltB Ent.lt
  have h1 := It.cmp_neg x.it y.it
  have h2 := It.cmp_zero x.it y.it
  rw [← h1, ← h2]
  split
  · simp only [decide_eq_true_eq]; omega
  · simp only [decide_eq_true_eq]; omega

theorem Ent.lt_trans {x y z : Ent} (h : x.lt y) (k : y.lt z) : x.lt z := by
  unfold Ent.lt It.lt It.same at *; omega
theorem Ent.lt_irrefl {x : Ent} : ¬ x.lt x := by
  unfold Ent.lt It.lt It.same; omega
/-- not less is kept along. -/
theorem Ent.not_lt_trans {x y z : Ent} (h : ¬ y.lt x) (k : ¬ z.lt y) : ¬ z.lt x := by
  unfold Ent.lt It.lt It.same at *; omega

theorem Ent.ltB_asymm {x y : Ent} (h : x.ltB y = true) : y.ltB x = false := by
  rw [Bool.eq_false_iff]; intro k
  rw [Ent.ltB_iff] at h k
  exact Ent.lt_irrefl (Ent.lt_trans h k)
theorem Ent.ltB_neg_trans {x y z : Ent} (h : y.ltB x = false) (k : z.ltB y = false) : z.ltB x = false := by
  rw [Bool.eq_false_iff] at *; intro m
  rw [Ne, Ent.ltB_iff] at h k
  rw [Ent.ltB_iff] at m
  exact Ent.not_lt_trans h k m

end Go.Proofs.Ytaieackeflmhgaa

namespace Go.Proofs.Ytaieackeflmhgaa
open Go.RowKit

theorem ret_int {k : IntKind} {a b : Int} (h : a = b) : Ending.returned (.int k a) = .returned (.int k b) := by rw [h]
theorem ret_bool {a b : Bool} (h : a = b) : Ending.returned (.bool a) = .returned (.bool b) := by rw [h]

theorem still_tail' {P : Program} {id : Nat} {Q : Exit → Act → World → Prop} {a : Act} {w : World} {l : List Oper} (n : Nat) (hm : P.follows .mixedOrders = true) (hB : Region.lexTailB .any l.toArray n = true)
    (h : wpStill P l.toArray w.drew (fun a' => wpList P l.toArray Q (l.drop n) a' w.drew) (l.take n) a) : (Code.region id l.toArray true).wp P Q a w :=
  wp_region_still_tail n hm hB h

theorem bcell {W w1 : World} (hb : Below W.heap.size W w1) : (∀ b o, b < W.heap.size → w1.cell? ⟨b, o, none⟩ = W.cell? ⟨b, o, none⟩) ∧ (∀ b o, b < W.heap.size → w1.frozen? ⟨b, o, none⟩ = W.frozen? ⟨b, o, none⟩) :=
  ⟨fun b o h => hb.cell (p := ⟨b, o, none⟩) h, fun b o h => hb.frozen (p := ⟨b, o, none⟩) h⟩

set_option maxHeartbeats 400000 in
theorem isNaN_any (a : Int) (w : World) :
    Calls Try.prog 120 #[.int .i64 a] w fun e w' => e = .returned (.bool false) ∧ w' = w := by
  go_enter Try.func120, Try.ntmps120
  go_wp2
  go_ret
  exact ⟨by simp, rfl⟩

theorem cmpI_lt {a b : Int} (h : a < b) : cmpI a b = -1 := by unfold cmpI; rw [if_pos h]
theorem cmpI_gt {a b : Int} (h : b < a) : cmpI a b = 1 := by unfold cmpI; rw [if_neg (by omega), if_pos h]
theorem cmpI_eq {a b : Int} (h : ¬ a < b) (k : ¬ b < a) : cmpI a b = 0 := by unfold cmpI; rw [if_neg h, if_neg k]

set_option maxHeartbeats 400000 in
theorem compare_any (a b : Int) (w : World) :
    Calls Try.prog 119 #[.int .i64 a, .int .i64 b] w fun e w' => e = .returned (.int .i64 (cmpI a b)) ∧ w' = w := by
  by_cases h1 : a < b
  · have H := cmpI_lt h1
    go_enter Try.func119, Try.ntmps119
    go_wp2_with (go_at_call 120; refine (isNaN_any _ _).mono ?_; rintro e w' ⟨rfl, rfl⟩)
    go_ret
    exact ⟨ret_int H.symm, rfl⟩
  · by_cases h2 : b < a
    · have H := cmpI_gt h2
      go_enter Try.func119, Try.ntmps119
      go_wp2_with (go_at_call 120; refine (isNaN_any _ _).mono ?_; rintro e w' ⟨rfl, rfl⟩)
      go_ret
      exact ⟨ret_int H.symm, rfl⟩
    · have H := cmpI_eq h1 h2
      go_enter Try.func119, Try.ntmps119
      go_wp2_with (go_at_call 120; refine (isNaN_any _ _).mono ?_; rintro e w' ⟨rfl, rfl⟩)
      go_ret
      exact ⟨ret_int H.symm, rfl⟩

set_option maxHeartbeats 400000 in
theorem or_any (b : Nat) (x y z : Int) (w : World) (c0 : w.cell? ⟨b, 0, none⟩ = some (.int .i64 x)) (c1 : w.cell? ⟨b, 1, none⟩ = some (.int .i64 y)) (c2 : w.cell? ⟨b, 2, none⟩ = some (.int .i64 z)) :
    Calls Try.prog 118 #[.slice (some ⟨b, 0, none⟩) 3 3] w fun e w' => e = .returned (.int .i64 (or3 x y z)) ∧ w' = w := by
  go_enter Try.func118, Try.ntmps118
  go_wp2
  refine wp_loop_rounds 4 ?_
  by_cases hx : x = 0
  · subst hx
    rw [rounds_succ]
    go_wp2
    by_cases hy : y = 0
    · subst hy
      rw [rounds_succ]
      go_wp2
      by_cases hz : z = 0
      · subst hz
        rw [rounds_succ]
        go_wp2
        rw [rounds_succ]
        go_wp2
        go_ret
        exact ⟨ret_int or3_z.symm, rfl⟩
      · rw [rounds_succ]
        go_wp2
        go_ret
        exact ⟨ret_int or3_z.symm, rfl⟩
    · rw [rounds_succ]
      go_wp2
      go_ret
      exact ⟨ret_int (or3_y hy).symm, rfl⟩
  · rw [rounds_succ]
    go_wp2
    go_ret
    exact ⟨ret_int (or3_x hx).symm, rfl⟩

set_option maxRecDepth 100000 in
set_option maxHeartbeats 400000 in
theorem cmpr_any (a b c d a' b' c' d' : Int) (w : World) :
    Calls Try.prog 114 #[.agg #[.int .i64 a, .int .i64 b, .int .i64 c, .int .i64 d], .agg #[.int .i64 a', .int .i64 b', .int .i64 c', .int .i64 d']] w fun e w' => e = .returned (.int .i64 (It.cmp ⟨a, b, c, d⟩ ⟨a', b', c', d'⟩)) ∧ Below w.heap.size w w' := by
  have H : It.cmp ⟨a, b, c, d⟩ ⟨a', b', c', d'⟩ = or3 (cmpI a a') (cmpI b b') (cmpI c c') := rfl
  go_enter Try.func114, Try.ntmps114
  go_wp2
  refine still_tail' 15 (by kernel_rfl) (by kernel_rfl) ?_
  simp only [List.take_succ_cons, List.take_zero, List.drop_succ_cons, List.drop_zero]
  still_step
  still_step
  still_step
  still_step
  still_call (compare_any _ _ _)
  still_step
  still_step
  still_step
  still_step
  still_call (compare_any _ _ _)
  still_step
  still_step
  still_step
  still_step
  still_call (compare_any _ _ _)
  refine wpStill_nil ?_
  go_wp2_with fail
  refine (or_any _ (cmpI a a') (cmpI b b') (cmpI c c') _ (by go_simp) (by go_simp) (by go_simp)).mono ?_
  rintro e w' ⟨rfl, rfl⟩
  go_wp2
  go_ret
  exact ⟨ret_int H.symm, ((((Below.refl _ _).alloc (Nat.le_refl _) _).alloc (by simp) _).alloc (by simp; omega) _).drew⟩

theorem ltB_ne {x y : Ent} (h : x.it.cmp y.it ≠ 0) : x.ltB y = decide (x.it.cmp y.it < 0) := by unfold Ent.ltB; rw [if_neg h]
theorem ltB_eq {x y : Ent} (h : x.it.cmp y.it = 0) : x.ltB y = decide (x.r < y.r) := by unfold Ent.ltB; rw [if_pos h]

set_option maxRecDepth 100000 in
set_option maxHeartbeats 400000 in
theorem before_any (a b c d r a' b' c' d' r' : Int) (w : World) :
    Calls Try.prog 137 #[.agg #[.int .i64 a, .int .i64 b, .int .i64 c, .int .i64 d, .int .i64 r], .agg #[.int .i64 a', .int .i64 b', .int .i64 c', .int .i64 d', .int .i64 r']] w fun e w' => e = .returned (.bool (Ent.ltB ⟨⟨a, b, c, d⟩, r⟩ ⟨⟨a', b', c', d'⟩, r'⟩)) ∧ Below w.heap.size w w' := by
  have H1 := @ltB_ne ⟨⟨a, b, c, d⟩, r⟩ ⟨⟨a', b', c', d'⟩, r'⟩
  have H2 := @ltB_eq ⟨⟨a, b, c, d⟩, r⟩ ⟨⟨a', b', c', d'⟩, r'⟩
  obtain ⟨n, hn⟩ : ∃ n, It.cmp ⟨a, b, c, d⟩ ⟨a', b', c', d'⟩ = n := ⟨_, rfl⟩
  have C := cmpr_any a b c d a' b' c' d'
  simp only [hn] at H1 H2 C
  clear hn
  by_cases hz : n = 0
  · subst hz
    have H := H2 rfl
    clear H1 H2
    go_enter Try.func137, Try.ntmps137
    go_wp2_with (go_at_call 114; refine (C _).mono ?_; rintro e w1 ⟨rfl, hb⟩; obtain ⟨hc, hf⟩ := bcell hb)
    go_ret
    exact ⟨ret_bool H.symm, (((Below.refl _ _).alloc (Nat.le_refl _) _).alloc (by simp) _).trans (hb.mono (by simp; omega))⟩
  · have H := H1 hz
    have hz' : (n != 0) = true := by simpa using hz
    clear H1 H2
    go_enter Try.func137, Try.ntmps137
    go_wp2_with (go_at_call 114; refine (C _).mono ?_; rintro e w1 ⟨rfl, hb⟩; obtain ⟨hc, hf⟩ := bcell hb)
    go_ret
    exact ⟨ret_bool H.symm, (((Below.refl _ _).alloc (Nat.le_refl _) _).alloc (by simp) _).trans (hb.mono (by simp; omega))⟩

set_option maxRecDepth 100000 in
set_option maxHeartbeats 400000 in
theorem dayBefore_any (b o b' o' : Nat) (x y : Int) (w : World) (hx : w.cell? ⟨b, o, none⟩ = some (.int .i64 x)) (hy : w.cell? ⟨b', o', none⟩ = some (.int .i64 y)) :
    Calls Try.prog 136 #[.pointer (some ⟨b, o, none⟩), .pointer (some ⟨b', o', none⟩)] w fun e w' => e = .returned (.bool (decide (x < y))) ∧ ∃ n, w' = w.drewN n := by
  go_enter Try.func136, Try.ntmps136
  go_wp2
  go_quiet (fail)
  go_wp2
  go_ret
  exact ⟨rfl, _, rfl⟩

end Go.Proofs.Ytaieackeflmhgaa

namespace Go.Proofs.Ytaieackeflmhgaa

section
variable {α : Type}

/-- the list with the elements at i (it is x) and j (it is y) exchanged -/
def swapL (d : List α) (i j : Nat) (x y : α) : List α := (d.set i y).set j x

theorem swapL_length (d : List α) (i j : Nat) (x y : α) : (swapL d i j x y).length = d.length := by simp [swapL]

theorem swapL_get (d : List α) (i j : Nat) (x y : α) (hi : i < d.length) (hj : j < d.length) (k : Nat) :
    (swapL d i j x y)[k]? = if k = j then some x else if k = i then some y else d[k]? := by
  unfold swapL
  rw [List.getElem?_set]
  by_cases h1 : k = j
  · subst h1; simp [hj]
  · rw [if_neg (fun e => h1 e.symm), if_neg h1, List.getElem?_set]
    by_cases h2 : k = i
    · subst h2; simp [hi]
    · rw [if_neg (fun e => h2 e.symm), if_neg h2]

theorem get_lt {d : List α} {k : Nat} {x : α} (h : d[k]? = some x) : k < d.length := by
  rcases Nat.lt_or_ge k d.length with h' | h'
  · exact h'
  · rw [List.getElem?_eq_none h'] at h; cases h

theorem get_of_lt {d : List α} {k : Nat} (h : k < d.length) : ∃ x, d[k]? = some x := ⟨d[k], by simp [h]⟩

theorem set_perm_aux (y : α) : ∀ (d : List α) (j : Nat) (z : α), d[j]? = some z → List.Perm (z :: d.set j y) (y :: d)
  | [], j, z, h => by simp at h
  | a :: d, 0, z, h => by
    simp only [List.getElem?_cons_zero, Option.some.injEq] at h
    subst h
    simp only [List.set_cons_zero]
    exact List.Perm.swap _ _ _
  | a :: d, j + 1, z, h => by
    simp only [List.getElem?_cons_succ] at h
    simp only [List.set_cons_succ]
    exact ((List.Perm.swap _ _ _).trans ((set_perm_aux y d j z h).cons a)).trans (List.Perm.swap _ _ _)

theorem swapL_perm (d : List α) (i j : Nat) (x y : α) (hne : i ≠ j) (hi : d[i]? = some x) (hj : d[j]? = some y) : (swapL d i j x y).Perm d := by
  have h1 := set_perm_aux y d i x hi
  have hj' : (d.set i y)[j]? = some y := by rw [List.getElem?_set_ne hne]; exact hj
  have h2 := set_perm_aux x (d.set i y) j y hj'
  exact (List.Perm.cons_inv (h2.trans h1))

variable (lt : α → α → Bool)

def HeapL (d : List α) : Prop := ∀ k x y, 0 < k → d[k]? = some x → d[(k - 1) / 2]? = some y → lt x y = false
def RiseInv (d : List α) (i : Nat) : Prop :=
  (∀ k x y, 0 < k → k ≠ i → d[k]? = some x → d[(k - 1) / 2]? = some y → lt x y = false) ∧
  (∀ k x y, 0 < k → 0 < i → (k - 1) / 2 = i → d[k]? = some x → d[(i - 1) / 2]? = some y → lt x y = false)
def SinkInv (d : List α) (i : Nat) : Prop :=
  (∀ k x y, 0 < k → (k - 1) / 2 ≠ i → d[k]? = some x → d[(k - 1) / 2]? = some y → lt x y = false) ∧
  (∀ k x y, 0 < k → 0 < i → (k - 1) / 2 = i → d[k]? = some x → d[(i - 1) / 2]? = some y → lt x y = false)

structure Orderly : Prop where
  asymm : ∀ x y, lt x y = true → lt y x = false
  ntrans : ∀ x y z, lt y x = false → lt z y = false → lt z x = false

variable {lt}

theorem Orderly.irrefl (O : Orderly lt) (x : α) : lt x x = false := by
  cases h : lt x x with
  | false => rfl
  | true => exact h.symm.trans (O.asymm x x h)

theorem RiseInv.step (O : Orderly lt) {d : List α} {i j : Nat} {x y : α} (h : RiseInv lt d i) (hi : 0 < i) (hj : j = (i - 1) / 2) (hx : d[i]? = some x) (hy : d[j]? = some y) (hl : lt x y = true) :
    RiseInv lt (swapL d i j x y) j := by
  have li := get_lt hx
  have lj := get_lt hy
  have hji : j < i := by omega
  have hyx := O.asymm x y hl
  obtain ⟨h1, h2⟩ := h
  refine ⟨fun k a b hk hkj ha hb => ?_, fun k a b hk hj0 hkp ha hb => ?_⟩
  · rw [swapL_get d i j x y li lj] at ha hb
    rw [if_neg hkj] at ha
    by_cases hki : k = i
    · rw [if_pos hki] at ha
      rw [if_pos (by omega)] at hb
      cases ha; cases hb
      exact hyx
    · rw [if_neg hki] at ha
      by_cases hpj : (k - 1) / 2 = j
      · rw [if_pos hpj] at hb
        cases hb
        exact O.ntrans x y a hyx (h1 k a y hk hki ha (by rw [hpj]; exact hy))
      · rw [if_neg hpj] at hb
        by_cases hpi : (k - 1) / 2 = i
        · rw [if_pos hpi] at hb
          cases hb
          exact h2 k a y hk hi hpi ha (by rw [← hj]; exact hy)
        · rw [if_neg hpi] at hb
          exact h1 k a b hk hki ha hb
  · rw [swapL_get d i j x y li lj] at ha hb
    rw [if_neg (by omega), if_neg (by omega)] at hb
    rw [if_neg (by omega)] at ha
    have hyb : lt y b = false := h1 j y b hj0 (by omega) hy hb
    by_cases hki : k = i
    · rw [if_pos hki] at ha
      cases ha
      exact hyb
    · rw [if_neg hki] at ha
      exact O.ntrans b y a hyb (h1 k a y hk hki ha (by rw [hkp]; exact hy))

theorem RiseInv.done0 {d : List α} (h : RiseInv lt d 0) : HeapL lt d :=
  fun k x y hk hx hy => h.1 k x y hk (by omega) hx hy
theorem RiseInv.done {d : List α} {i : Nat} {x y : α} (h : RiseInv lt d i) (hx : d[i]? = some x) (hy : d[(i - 1) / 2]? = some y) (hl : lt x y = false) : HeapL lt d := by
  intro k a b hk ha hb
  by_cases hki : k = i
  · subst hki
    rw [hx] at ha; rw [hy] at hb
    cases ha; cases hb; exact hl
  · exact h.1 k a b hk hki ha hb

theorem RiseInv.push {d : List α} (h : HeapL lt d) (e : α) : RiseInv lt (d ++ [e]) d.length := by
  refine ⟨fun k x y hk hne hx hy => ?_, fun k x y hk h0 hp hx hy => ?_⟩
  · have hk' := get_lt hx
    rw [List.length_append, List.length_singleton] at hk'
    rw [List.getElem?_append_left (by omega)] at hx hy
    exact h k x y hk hx hy
  · have hk' := get_lt hx
    rw [List.length_append, List.length_singleton] at hk'
    omega

theorem SinkInv.step (O : Orderly lt) {d : List α} {i m : Nat} {x y : α} (h : SinkInv lt d i) (hm : 0 < m) (hmi : (m - 1) / 2 = i) (hx : d[i]? = some x) (hy : d[m]? = some y) (hl : lt y x = true)
    (hmin : ∀ k a, 0 < k → (k - 1) / 2 = i → d[k]? = some a → lt a y = false) : SinkInv lt (swapL d i m x y) m := by
  have li := get_lt hx
  have lm := get_lt hy
  have him : i < m := by omega
  have hxy := O.asymm y x hl
  obtain ⟨h1, h2⟩ := h
  refine ⟨fun k a b hk hkm ha hb => ?_, fun k a b hk hm0 hkp ha hb => ?_⟩
  · rw [swapL_get d i m x y li lm] at ha hb
    rw [if_neg hkm] at hb
    by_cases hk1 : k = m
    · rw [if_pos hk1] at ha
      rw [if_pos (by rw [hk1]; exact hmi)] at hb
      cases ha; cases hb
      exact hxy
    · rw [if_neg hk1] at ha
      by_cases hk2 : k = i
      · rw [if_pos hk2] at ha
        rw [if_neg (by omega)] at hb
        cases ha
        exact h2 m y b hm (by omega) hmi hy (by rw [← hk2]; exact hb)
      · rw [if_neg hk2] at ha
        by_cases hp : (k - 1) / 2 = i
        · rw [if_pos hp] at hb
          cases hb
          exact hmin k a hk hp ha
        · rw [if_neg hp] at hb
          exact h1 k a b hk hp ha hb
  · rw [swapL_get d i m x y li lm] at ha hb
    rw [if_neg (by omega), if_neg (by omega)] at ha
    rw [if_neg (by omega), if_pos (by omega)] at hb
    cases hb
    exact h1 k a y hk (by omega) ha (by rw [hkp]; exact hy)

theorem SinkInv.done {d : List α} {i : Nat} (h : SinkInv lt d i) (hmin : ∀ k a x, 0 < k → (k - 1) / 2 = i → d[k]? = some a → d[i]? = some x → lt a x = false) : HeapL lt d := by
  intro k a b hk ha hb
  by_cases hp : (k - 1) / 2 = i
  · exact hmin k a b hk hp ha (by rw [← hp]; exact hb)
  · exact h.1 k a b hk hp ha hb

/-- what pop leaves: the last one in front, the end cut -/
def popL (d : List α) (last : α) : List α := (d.set 0 last).take (d.length - 1)

theorem SinkInv.pop {d : List α} (h : HeapL lt d) (last : α) : SinkInv lt (popL d last) 0 := by
  refine ⟨fun k x y hk hp hx hy => ?_, fun k x y hk h0 => by omega⟩
  have lk := get_lt hx
  simp only [popL, List.length_take, List.length_set] at lk
  unfold popL at hx hy
  rw [List.getElem?_take_of_lt (by omega), List.getElem?_set_ne (by omega)] at hx hy
  exact h k x y hk hx hy

theorem popL_length (d : List α) (last : α) : (popL d last).length = d.length - 1 := by
  simp [popL]

theorem popL_perm {d : List α} {x last : α} (hx : d[0]? = some x) (hl : d[d.length - 1]? = some last) : (x :: popL d last).Perm d := by
  cases d with
  | nil => simp at hx
  | cons a r =>
    simp only [List.getElem?_cons_zero, Option.some.injEq] at hx
    subst hx
    simp only [popL, List.length_cons, Nat.add_sub_cancel, List.set_cons_zero] at *
    cases r with
    | nil => simp
    | cons b r =>
      simp only [List.length_cons, List.getElem?_cons_succ] at hl
      simp only [List.length_cons, List.take_succ_cons]
      have e : b :: r = (b :: r).take (r.length) ++ [last] := by
        have h1 : (b :: r) = (b :: r).take (r.length) ++ (b :: r).drop r.length := (List.take_append_drop _ _).symm
        have h2 : (b :: r).drop r.length = [last] := by
          have := List.drop_eq_getElem_cons (l := b :: r) (i := r.length) (by simp)
          rw [this]
          have hg : (b :: r)[r.length]? = some last := hl
          rw [List.getElem?_eq_getElem (by simp)] at hg
          simp only [Option.some.injEq] at hg
          rw [hg]
          simp
        rw [h2] at h1
        exact h1
      refine List.Perm.cons _ ?_
      refine List.Perm.trans ?_ (List.Perm.of_eq e.symm)
      exact (List.perm_append_singleton _ _).symm

theorem HeapL.least (O : Orderly lt) {d : List α} (h : HeapL lt d) {x : α} (h0 : d[0]? = some x) : ∀ (n k : Nat) (a : α), k ≤ n → d[k]? = some a → lt a x = false
  | 0, k, a, hk, ha => by
    have : k = 0 := by omega
    subst this
    rw [h0] at ha; cases ha
    exact O.irrefl _
  | n + 1, k, a, hk, ha => by
    by_cases hz : k = 0
    · subst hz
      rw [h0] at ha; cases ha
      exact O.irrefl _
    · have lk := get_lt ha
      obtain ⟨b, hb⟩ := get_of_lt (d := d) (k := (k - 1) / 2) (by omega)
      exact O.ntrans x b a (HeapL.least O h h0 n ((k - 1) / 2) b (by omega) hb) (h k a b (by omega) ha hb)

theorem HeapL.least_mem (O : Orderly lt) {d : List α} (h : HeapL lt d) {x : α} (h0 : d[0]? = some x) {a : α} (ha : a ∈ d) : lt a x = false := by
  obtain ⟨k, hk⟩ := List.getElem?_of_mem ha
  exact HeapL.least O h h0 k k a (Nat.le_refl _) hk

end
end Go.Proofs.Ytaieackeflmhgaa

namespace Go.Proofs.Ytaieackeflmhgaa
open Go.RowKit

/-- All blocks that were there, but for those of F, are as they were. -/
structure KeptF (F : Nat → Prop) (w w' : World) : Prop where
  os : w'.os = w.os
  tape : w'.tape = w.tape
  output : w'.output = w.output
  size : w.heap.size ≤ w'.heap.size
  block : ∀ k, k < w.heap.size → ¬ F k → w'.heap[k]? = w.heap[k]?

theorem KeptF.refl (F : Nat → Prop) (w : World) : KeptF F w w := ⟨rfl, rfl, rfl, Nat.le_refl _, fun _ _ _ => rfl⟩

/-- the second step may also turn what the first one made -/
theorem KeptF.trans' {F G : Nat → Prop} {a b c : World} (h : KeptF F a b) (k : KeptF G b c) (hG : ∀ i, i < a.heap.size → G i → F i) : KeptF F a c :=
  ⟨k.os.trans h.os, k.tape.trans h.tape, k.output.trans h.output, Nat.le_trans h.size k.size,
   fun i hi hF => (k.block i (Nat.lt_of_lt_of_le hi h.size) (fun g => hF (hG i hi g))).trans (h.block i hi hF)⟩

theorem KeptF.trans {F : Nat → Prop} {a b c : World} (h : KeptF F a b) (k : KeptF F b c) : KeptF F a c := h.trans' k (fun _ _ g => g)

theorem KeptF.weaken {F G : Nat → Prop} {a b : World} (h : KeptF F a b) (hF : ∀ i, i < a.heap.size → F i → G i) : KeptF G a b :=
  ⟨h.os, h.tape, h.output, h.size, fun i hi hG => h.block i hi (fun f => hG (hF i hi f))⟩

theorem KeptF.of_below {F : Nat → Prop} {w w' : World} (h : Below w.heap.size w w') : KeptF F w w' :=
  ⟨h.os, h.tape, h.output, h.size, fun i hi _ => h.block i hi⟩

theorem KeptF.below {F : Nat → Prop} {w w' : World} {B : Nat} (h : KeptF F w w') (hB : B ≤ w.heap.size) (hF : ∀ i, F i → B ≤ i) : Below B w w' :=
  ⟨h.os, h.tape, h.output, h.size, fun i hi => h.block i (by omega) (fun f => by have := hF i f; omega)⟩

theorem KeptF.drew {F : Nat → Prop} {a w : World} (h : KeptF F a w) : KeptF F a w.drew := ⟨h.os, h.tape, h.output, h.size, h.block⟩
theorem KeptF.drewN {F : Nat → Prop} {a w : World} (h : KeptF F a w) (n : Nat) : KeptF F a (w.drewN n) := ⟨h.os, h.tape, h.output, h.size, h.block⟩

theorem KeptF.setCell {F : Nat → Prop} {a w : World} (h : KeptF F a w) {p : Addr} (hp : F p.block ∨ a.heap.size ≤ p.block) (u : Value) : KeptF F a (w.setCell p u) :=
  ⟨h.os, h.tape, h.output, by have := h.size; simp [World.setCell]; exact this, fun k hk hF => by
    rw [Below.heap_setCell _ _ _ _ (by intro e; subst e; rcases hp with hp | hp; exact hF hp; omega)]; exact h.block k hk hF⟩

theorem KeptF.alloc {F : Nat → Prop} {a w : World} (h : KeptF F a w) (o : Obj) : KeptF F a (w.alloc o) :=
  ⟨h.os, h.tape, h.output, by have := h.size; simp; omega, fun k hk hF => by
    rw [Below.heap_alloc _ _ _ (by have := h.size; omega)]; exact h.block k hk hF⟩

theorem KeptF.cell {F : Nat → Prop} {w w' : World} (h : KeptF F w w') {p : Addr} (hp : p.block < w.heap.size) (hF : ¬ F p.block) : w'.cell? p = w.cell? p := World.cell?_of_block (w := w) (h.block p.block hp hF)
theorem KeptF.frozen {F : Nat → Prop} {w w' : World} (h : KeptF F w w') {p : Addr} (hp : p.block < w.heap.size) (hF : ¬ F p.block) : w'.frozen? p = w.frozen? p := World.frozen?_of_block (w := w) (h.block p.block hp hF)

/-- A block of cells of the program's own: never frozen. -/
def Blk (w : World) (b : Nat) (c : Array Value) (T : TypeId) : Prop := w.heap[b]? = some (.cells c T (0, 0))

theorem Blk.cell {w : World} {b : Nat} {c : Array Value} {T : TypeId} (h : Blk w b c T) (o : Nat) : w.cell? ⟨b, o, none⟩ = c[o]? := by
  have h' : w.heap[b]? = some (.cells c T (0, 0)) := h
  simp [World.cell?, h']
theorem Blk.frozen {w : World} {b : Nat} {c : Array Value} {T : TypeId} (h : Blk w b c T) (o : Nat) : w.frozen? ⟨b, o, none⟩ = false := by
  have h' : w.heap[b]? = some (.cells c T (0, 0)) := h
  simp [World.frozen?, h']
theorem Blk.lt {w : World} {b : Nat} {c : Array Value} {T : TypeId} (h : Blk w b c T) : b < w.heap.size := by
  have h' : w.heap[b]? = some (.cells c T (0, 0)) := h
  rcases Nat.lt_or_ge b w.heap.size with k | k
  · exact k
  · rw [Array.getElem?_eq_none k] at h'; cases h'
theorem Blk.drew {w : World} {b : Nat} {c : Array Value} {T : TypeId} (h : Blk w b c T) : Blk w.drew b c T := h
theorem Blk.keep {F : Nat → Prop} {w w' : World} {b : Nat} {c : Array Value} {T : TypeId} (h : Blk w b c T) (k : KeptF F w w') (hF : ¬ F b) : Blk w' b c T :=
  (k.block b h.lt hF).trans h
theorem Blk.set {w : World} {b : Nat} {c : Array Value} {T : TypeId} (h : Blk w b c T) (o : Nat) (v : Value) : Blk (w.setCell ⟨b, o, none⟩ v) b (c.setIfInBounds o v) T := by
  have h' : w.heap[b]? = some (.cells c T (0, 0)) := h
  show (w.heap.modify b _)[b]? = _
  simp [Array.getElem?_modify, h']
theorem Blk.set_other {w : World} {b : Nat} {c : Array Value} {T : TypeId} (h : Blk w b c T) {a : Addr} (hne : b ≠ a.block) (v : Value) : Blk (w.setCell a v) b c T :=
  (Below.heap_setCell w a v b hne).trans h
theorem Blk.alloc {w : World} {b : Nat} {c : Array Value} {T : TypeId} (h : Blk w b c T) (o : Obj) : Blk (w.alloc o) b c T :=
  (Below.heap_alloc w o b h.lt).trans h

/-- Cells from 5j on hold entry j, for every entry of the list. -/
def ERow (c : Array Value) (d : List Ent) : Prop := ∀ (j : Nat) (e : Ent), d[j]? = some e →
  c[j * 5]? = some (.int .i64 e.it.t) ∧ c[j * 5 + 1]? = some (.int .i64 e.it.f) ∧ c[j * 5 + 2]? = some (.int .i64 e.it.s) ∧ c[j * 5 + 3]? = some (.int .i64 e.it.l) ∧ c[j * 5 + 4]? = some (.int .i64 e.r)

/-- A block that holds a row of entries, with room for cap. -/
structure EArr (w : World) (b : Nat) (T : TypeId) (cap : Nat) (d : List Ent) : Prop where
  ex : ∃ c, Blk w b c T ∧ c.size = cap * 5 ∧ ERow c d
  fits : d.length ≤ cap

theorem EArr.lt {w : World} {b : Nat} {T : TypeId} {cap : Nat} {d : List Ent} (h : EArr w b T cap d) : b < w.heap.size := by
  obtain ⟨c, h1, _⟩ := h.ex; exact h1.lt
theorem EArr.frozen {w : World} {b : Nat} {T : TypeId} {cap : Nat} {d : List Ent} (h : EArr w b T cap d) (o : Nat) : w.frozen? ⟨b, o, none⟩ = false := by
  obtain ⟨c, h1, _⟩ := h.ex; exact h1.frozen o
theorem EArr.cells {w : World} {b : Nat} {T : TypeId} {cap : Nat} {d : List Ent} (h : EArr w b T cap d) {j : Nat} {e : Ent} (he : d[j]? = some e) :
    w.cell? ⟨b, j * 5, none⟩ = some (.int .i64 e.it.t) ∧ w.cell? ⟨b, j * 5 + 1, none⟩ = some (.int .i64 e.it.f) ∧ w.cell? ⟨b, j * 5 + 2, none⟩ = some (.int .i64 e.it.s) ∧ w.cell? ⟨b, j * 5 + 3, none⟩ = some (.int .i64 e.it.l) ∧ w.cell? ⟨b, j * 5 + 4, none⟩ = some (.int .i64 e.r) := by
  obtain ⟨c, h1, _, h2⟩ := h.ex
  rw [h1.cell, h1.cell, h1.cell, h1.cell, h1.cell]
  exact h2 j e he
theorem EArr.keep {F : Nat → Prop} {w w' : World} {b : Nat} {T : TypeId} {cap : Nat} {d : List Ent} (h : EArr w b T cap d) (k : KeptF F w w') (hF : ¬ F b) : EArr w' b T cap d := by
  obtain ⟨c, h1, h2⟩ := h.ex
  exact ⟨⟨c, h1.keep k hF, h2⟩, h.fits⟩
theorem EArr.drew {w : World} {b : Nat} {T : TypeId} {cap : Nat} {d : List Ent} (h : EArr w b T cap d) : EArr w.drew b T cap d := ⟨h.ex, h.fits⟩

/-- five cells are stored: entry e at place j -/
def setEnt (w : World) (b j : Nat) (e : Ent) : World :=
  ((((w.setCell ⟨b, j * 5, none⟩ (.int .i64 e.it.t)).setCell ⟨b, j * 5 + 1, none⟩ (.int .i64 e.it.f)).setCell ⟨b, j * 5 + 2, none⟩ (.int .i64 e.it.s)).setCell ⟨b, j * 5 + 3, none⟩ (.int .i64 e.it.l)).setCell ⟨b, j * 5 + 4, none⟩ (.int .i64 e.r)

def setEntC (c : Array Value) (j : Nat) (e : Ent) : Array Value :=
  ((((c.setIfInBounds (j * 5) (.int .i64 e.it.t)).setIfInBounds (j * 5 + 1) (.int .i64 e.it.f)).setIfInBounds (j * 5 + 2) (.int .i64 e.it.s)).setIfInBounds (j * 5 + 3) (.int .i64 e.it.l)).setIfInBounds (j * 5 + 4) (.int .i64 e.r)

theorem Blk.setEnt {w : World} {b : Nat} {c : Array Value} {T : TypeId} (h : Blk w b c T) (j : Nat) (e : Ent) : Blk (setEnt w b j e) b (setEntC c j e) T :=
  ((((h.set _ _).set _ _).set _ _).set _ _).set _ _

theorem setEntC_size (c : Array Value) (j : Nat) (e : Ent) : (setEntC c j e).size = c.size := by simp [setEntC]

theorem setEntC_other (c : Array Value) (j : Nat) (e : Ent) (o : Nat) (h : o < j * 5 ∨ j * 5 + 5 ≤ o) : (setEntC c j e)[o]? = c[o]? := by
  unfold setEntC
  rw [Array.getElem?_setIfInBounds_ne (by omega), Array.getElem?_setIfInBounds_ne (by omega), Array.getElem?_setIfInBounds_ne (by omega), Array.getElem?_setIfInBounds_ne (by omega), Array.getElem?_setIfInBounds_ne (by omega)]

theorem setEntC_same (c : Array Value) (j : Nat) (e : Ent) (h : j * 5 + 5 ≤ c.size) :
    (setEntC c j e)[j * 5]? = some (.int .i64 e.it.t) ∧ (setEntC c j e)[j * 5 + 1]? = some (.int .i64 e.it.f) ∧ (setEntC c j e)[j * 5 + 2]? = some (.int .i64 e.it.s) ∧ (setEntC c j e)[j * 5 + 3]? = some (.int .i64 e.it.l) ∧ (setEntC c j e)[j * 5 + 4]? = some (.int .i64 e.r) := by
  unfold setEntC
  refine ⟨?_, ?_, ?_, ?_, ?_⟩
  · rw [Array.getElem?_setIfInBounds_ne (by omega), Array.getElem?_setIfInBounds_ne (by omega), Array.getElem?_setIfInBounds_ne (by omega), Array.getElem?_setIfInBounds_ne (by omega), Array.getElem?_setIfInBounds_self_of_lt (by omega)]
  · rw [Array.getElem?_setIfInBounds_ne (by omega), Array.getElem?_setIfInBounds_ne (by omega), Array.getElem?_setIfInBounds_ne (by omega), Array.getElem?_setIfInBounds_self_of_lt (by simp; omega)]
  · rw [Array.getElem?_setIfInBounds_ne (by omega), Array.getElem?_setIfInBounds_ne (by omega), Array.getElem?_setIfInBounds_self_of_lt (by simp; omega)]
  · rw [Array.getElem?_setIfInBounds_ne (by omega), Array.getElem?_setIfInBounds_self_of_lt (by simp; omega)]
  · rw [Array.getElem?_setIfInBounds_self_of_lt (by simp; omega)]

theorem ERow.set {c : Array Value} {d : List Ent} (h : ERow c d) {j : Nat} (e : Ent) (hj : j * 5 + 5 ≤ c.size) : ERow (setEntC c j e) (d.set j e) := by
  intro k x hx
  by_cases hk : k = j
  · subst hk
    have hlt : k < d.length := by have := get_lt hx; simpa using this
    rw [List.getElem?_set_self hlt] at hx
    cases hx
    exact setEntC_same c k e hj
  · rw [List.getElem?_set_ne (by omega)] at hx
    have := h k x hx
    rw [setEntC_other _ _ _ _ (by omega), setEntC_other _ _ _ _ (by omega), setEntC_other _ _ _ _ (by omega), setEntC_other _ _ _ _ (by omega), setEntC_other _ _ _ _ (by omega)]
    exact this

theorem EArr.set {w : World} {b : Nat} {T : TypeId} {cap : Nat} {d : List Ent} (h : EArr w b T cap d) {j : Nat} (e : Ent) (hj : j < cap) : EArr (setEnt w b j e) b T cap (d.set j e) := by
  obtain ⟨c, h1, h2, h3⟩ := h.ex
  exact ⟨⟨_, h1.setEnt j e, by rw [setEntC_size]; exact h2, h3.set e (by omega)⟩, by have := h.fits; simpa using this⟩

theorem KeptF.setEnt {F : Nat → Prop} {a w : World} (h : KeptF F a w) {b : Nat} (hp : F b ∨ a.heap.size ≤ b) (j : Nat) (e : Ent) : KeptF F a (setEnt w b j e) :=
  ((((h.setCell (p := ⟨b, j * 5, none⟩) hp _).setCell (p := ⟨b, j * 5 + 1, none⟩) hp _).setCell (p := ⟨b, j * 5 + 2, none⟩) hp _).setCell (p := ⟨b, j * 5 + 3, none⟩) hp _).setCell (p := ⟨b, j * 5 + 4, none⟩) hp _

theorem EArr.swap {w : World} {b : Nat} {T : TypeId} {cap : Nat} {d : List Ent} (h : EArr w b T cap d) {i j : Nat} {x y : Ent} (hi : d[i]? = some x) (hj : d[j]? = some y) :
    EArr (Go.Proofs.Ytaieackeflmhgaa.setEnt (Go.Proofs.Ytaieackeflmhgaa.setEnt w b i y) b j x) b T cap (swapL d i j x y) := by
  have := get_lt hi; have := get_lt hj; have := h.fits
  exact (h.set y (by omega)).set x (by omega)

/-- A day: its block and its date. -/
structure Dy where
  kb : Nat
  date : Int
def Dy.ltB (x y : Dy) : Bool := decide (x.date < y.date)
def DRow (c : Array Value) (d : List Dy) : Prop := ∀ (j : Nat) (e : Dy), d[j]? = some e → c[j]? = some (Value.pointer (some ⟨e.kb, 0, none⟩))

structure DArr (w : World) (b : Nat) (T : TypeId) (cap : Nat) (d : List Dy) : Prop where
  ex : ∃ c, Blk w b c T ∧ c.size = cap ∧ DRow c d
  fits : d.length ≤ cap

theorem DArr.lt {w : World} {b : Nat} {T : TypeId} {cap : Nat} {d : List Dy} (h : DArr w b T cap d) : b < w.heap.size := by
  obtain ⟨c, h1, _⟩ := h.ex; exact h1.lt
theorem DArr.frozen {w : World} {b : Nat} {T : TypeId} {cap : Nat} {d : List Dy} (h : DArr w b T cap d) (o : Nat) : w.frozen? ⟨b, o, none⟩ = false := by
  obtain ⟨c, h1, _⟩ := h.ex; exact h1.frozen o
theorem DArr.cells {w : World} {b : Nat} {T : TypeId} {cap : Nat} {d : List Dy} (h : DArr w b T cap d) {j : Nat} {e : Dy} (he : d[j]? = some e) :
    w.cell? ⟨b, j, none⟩ = some (.pointer (some ⟨e.kb, 0, none⟩)) := by
  obtain ⟨c, h1, _, h2⟩ := h.ex
  rw [h1.cell]
  exact h2 j e he
theorem DArr.keep {F : Nat → Prop} {w w' : World} {b : Nat} {T : TypeId} {cap : Nat} {d : List Dy} (h : DArr w b T cap d) (k : KeptF F w w') (hF : ¬ F b) : DArr w' b T cap d := by
  obtain ⟨c, h1, h2⟩ := h.ex
  exact ⟨⟨c, h1.keep k hF, h2⟩, h.fits⟩
theorem DArr.drew {w : World} {b : Nat} {T : TypeId} {cap : Nat} {d : List Dy} (h : DArr w b T cap d) : DArr w.drew b T cap d := ⟨h.ex, h.fits⟩
theorem DArr.set {w : World} {b : Nat} {T : TypeId} {cap : Nat} {d : List Dy} (h : DArr w b T cap d) {j : Nat} (e : Dy) (hj : j < cap) : DArr (w.setCell ⟨b, j, none⟩ (.pointer (some ⟨e.kb, 0, none⟩))) b T cap (d.set j e) := by
  obtain ⟨c, h1, h2, h3⟩ := h.ex
  refine ⟨⟨_, h1.set j _, by simpa using h2, fun k x hx => ?_⟩, by have := h.fits; simpa using this⟩
  by_cases hk : k = j
  · subst hk
    have hlt : k < d.length := by have := get_lt hx; simpa using this
    rw [List.getElem?_set_self hlt] at hx
    cases hx
    rw [Array.getElem?_setIfInBounds_self_of_lt (by omega)]
  · rw [List.getElem?_set_ne (by omega)] at hx
    rw [Array.getElem?_setIfInBounds_ne (by omega)]
    exact h3 k x hx
theorem DArr.swap {w : World} {b : Nat} {T : TypeId} {cap : Nat} {d : List Dy} (h : DArr w b T cap d) {i j : Nat} {x y : Dy} (hi : d[i]? = some x) (hj : d[j]? = some y) :
    DArr ((w.setCell ⟨b, i, none⟩ (.pointer (some ⟨y.kb, 0, none⟩))).setCell ⟨b, j, none⟩ (.pointer (some ⟨x.kb, 0, none⟩))) b T cap (swapL d i j x y) := by
  have := get_lt hi; have := get_lt hj; have := h.fits
  exact (h.set y (by omega)).set x (by omega)

/-- every day's own block tells its date -/
def Dated (w : World) (d : List Dy) : Prop := ∀ e, e ∈ d → w.cell? ⟨e.kb, 0, none⟩ = some (.int .i64 e.date)

theorem Ent.orderly : Orderly Ent.ltB := ⟨fun _ _ h => Ent.ltB_asymm h, fun _ _ _ h k => Ent.ltB_neg_trans h k⟩
theorem Dy.orderly : Orderly Dy.ltB := by
  refine ⟨fun x y h => ?_, fun x y z h k => ?_⟩
  · simp only [Dy.ltB, decide_eq_true_eq, decide_eq_false_iff_not] at *; omega
  · simp only [Dy.ltB, decide_eq_false_iff_not] at *; omega

end Go.Proofs.Ytaieackeflmhgaa

namespace Go.Proofs.Ytaieackeflmhgaa
open Go.RowKit Go.Sort

theorem method_ent (a b c d r : Int) (w : World) : (method 329 174 (.agg #[.int .i64 a, .int .i64 b, .int .i64 c, .int .i64 d, .int .i64 r]) "horizon/horizon.before").run Try.prog w = .ok (137, .agg #[.int .i64 a, .int .i64 b, .int .i64 c, .int .i64 d, .int .i64 r]) w := by kernel_rfl

/-- entry.before, met in a world to which only new blocks have come -/
theorem before_grown (x y : Ent) (w : World) (v : Bool) (hv : x.ltB y = v) (p : Regrown) :
    Calls Try.prog 137 #[.agg #[.int .i64 x.it.t, .int .i64 x.it.f, .int .i64 x.it.s, .int .i64 x.it.l, .int .i64 x.r], .agg #[.int .i64 y.it.t, .int .i64 y.it.f, .int .i64 y.it.s, .int .i64 y.it.l, .int .i64 y.r]] (grow (redrawn w p.d) p.os) fun e w'' => e = .returned (.bool v) ∧ ∃ p : Regrown, w'' = grow (redrawn w p.d) p.os := by
  subst hv
  exact Calls.regrown_of (before_any x.it.t x.it.f x.it.s x.it.l x.r y.it.t y.it.f y.it.s y.it.l y.r _)

theorem below_of_regrown {w w' : World} (h : ∃ p : Regrown, w' = grow (redrawn w p.d) p.os) : Below w.heap.size w w' := by
  obtain ⟨⟨d, os⟩, h⟩ := h
  rw [h]; exact below_regrown w d os

set_option maxRecDepth 100000 in
set_option maxHeartbeats 4000000 in
theorem riseE_any (b n cap T i0 : Nat) (d : List Ent) (w : World) (hA : EArr w b T cap d) (hd : d.length = n) (hi : i0 < n) (hn : n ≤ 2932031007317) (hI : RiseInv Ent.ltB d i0) :
    Calls Try.prog 105 #[.slice (some ⟨b, 0, none⟩) n cap, .int .i64 i0] w fun e w' => e = .returned (.tuple #[]) ∧ ∃ d', EArr w' b T cap d' ∧ d'.Perm d ∧ HeapL Ent.ltB d' ∧ KeptF (· = b) w w' := by
  have hm := method_ent
  go_enter Try.func105, Try.ntmps105
  go_wp2
  go_loopw [1] (fun si wr => ∃ (i : Nat) (dk : List Ent), si = .int .i64 i ∧ i < n ∧ Hid (dk.length = n) ∧ EArr wr b T cap dk ∧ dk.Perm d ∧ RiseInv Ent.ltB dk i ∧ KeptF (· = b) w wr) (fun si _ => (intOf si).toNat)
  case atStart => exact ⟨i0, d, rfl, hi, hd, hA, List.Perm.refl _, hI, KeptF.refl _ _⟩
  case round =>
    obtain ⟨i, dk, rfl, hin, HL, hE, hP, hR, hK⟩ := hrel
    clear hA hI hd hi
    by_cases hz : i = 0
    · subst hz
      go_wp2
      go_end0
      exact ⟨rfl, dk, hE, hP, hR.done0, hK⟩
    · have hi0 : 0 < i := Nat.pos_of_ne_zero hz
      obtain ⟨j, hj⟩ : ∃ j, j = (i - 1) / 2 := ⟨_, rfl⟩
      have hjN : ((i : Int) - 1) / 2 = j := by omega
      have hji : j < i := by omega
      have hjn : j < n := by omega
      have Hj : Hid (j = (i - 1) / 2) := hj
      clear hj
      obtain ⟨x, hx⟩ := get_of_lt (d := dk) (k := i) (by have := HL.out; omega)
      obtain ⟨y, hy⟩ := get_of_lt (d := dk) (k := j) (by have := HL.out; omega)
      obtain ⟨c0, c1, c2, c3, c4⟩ := hE.cells hx
      obtain ⟨d0, d1, d2, d3, d4⟩ := hE.cells hy
      have Hx : Hid (dk[i]? = some x) := hx
      have Hy : Hid (dk[j]? = some y) := hy
      clear hx hy
      have k0 := cell_regrown c0
      have k1 := cell_regrown c1
      have k2 := cell_regrown c2
      have k3 := cell_regrown c3
      have k4 := cell_regrown c4
      have l0 := cell_regrown d0
      have l1 := cell_regrown d1
      have l2 := cell_regrown d2
      have l3 := cell_regrown d3
      have l4 := cell_regrown d4
      cases hv : x.ltB y with
      | false =>
        have Hv : Hid (x.ltB y = false) := hv
        have hcall := before_grown x y wr false hv
        clear hv
        go_wp2
        refine wp_region_quiet_below (by kernel_rfl) (by kernel_rfl) ?_
        repeat (quiet_step (exact hcall _))
        refine wpQuiet_nil ?_
        intro wq hw'
        have hbl := below_of_regrown hw'
        clear hw' k0 k1 k2 k3 k4 l0 l1 l2 l3 l4 c0 c1 c2 c3 c4 d0 d1 d2 d3 d4 hcall hm
        go_wp2
        exact bodyPost_ret (results_none rfl _ _ _) rfl ⟨rfl, dk, hE.keep (KeptF.of_below (F := fun _ => False) hbl) (fun h => h), hP, hR.done Hx.out (by rw [← Hj.out]; exact Hy.out) Hv.out, hK.trans (KeptF.of_below hbl)⟩
      | true =>
        have Hv : Hid (x.ltB y = true) := hv
        have hcall := before_grown x y wr true hv
        clear hv
        go_wp2
        refine wp_region_quiet_below (by kernel_rfl) (by kernel_rfl) ?_
        repeat (quiet_step (exact hcall _))
        refine wpQuiet_nil ?_
        intro wq hw'
        have hbl := below_of_regrown hw'
        have hEq : EArr wq b T cap dk := hE.keep (KeptF.of_below (F := fun _ => False) hbl) (fun h => h)
        clear hw' k0 k1 k2 k3 k4 l0 l1 l2 l3 l4 c0 c1 c2 c3 c4 d0 d1 d2 d3 d4 hcall hm
        obtain ⟨c0, c1, c2, c3, c4⟩ := hEq.cells Hx.out
        obtain ⟨d0, d1, d2, d3, d4⟩ := hEq.cells Hy.out
        have hz := hEq.frozen
        go_wp2
        go_region
        go_wp2
        clear c0 c1 c2 c3 c4 d0 d1 d2 d3 d4 hz
        go_roundw
        case rel =>
          refine ⟨j, swapL dk i j x y, by go_num, hjn, (swapL_length dk i j x y).trans HL.out, (hEq.swap Hx.out Hy.out).drew, (swapL_perm dk i j x y (by omega) Hx.out Hy.out).trans hP, hR.step Ent.orderly hi0 Hj.out Hx.out Hy.out Hv.out, ?_⟩
          exact ((((hK.trans (KeptF.of_below hbl))).setEnt (.inl rfl) i y).setEnt (.inl rfl) j x).drew
        case measure => simp [intOf]; omega

theorem method_day (a : Addr) (w : World) : (method 329 170 (.pointer (some a)) "horizon/horizon.before").run Try.prog w = .ok (136, .pointer (some a)) w := by kernel_rfl

theorem below_drewN (w : World) (n : Nat) : Below w.heap.size w (w.drewN n) := ⟨rfl, rfl, rfl, Nat.le_refl _, fun _ _ => rfl⟩

theorem dayBefore_grown (x y : Dy) (w : World) (v : Bool) (hv : x.ltB y = v) (hx : w.cell? ⟨x.kb, 0, none⟩ = some (.int .i64 x.date)) (hy : w.cell? ⟨y.kb, 0, none⟩ = some (.int .i64 y.date)) (p : Regrown) :
    Calls Try.prog 136 #[.pointer (some ⟨x.kb, 0, none⟩), .pointer (some ⟨y.kb, 0, none⟩)] (grow (redrawn w p.d) p.os) fun e w'' => e = .returned (.bool v) ∧ ∃ p : Regrown, w'' = grow (redrawn w p.d) p.os := by
  subst hv
  refine Calls.regrown_of ((dayBefore_any x.kb 0 y.kb 0 x.date y.date _ (cell_regrown hx _ _) (cell_regrown hy _ _)).mono ?_)
  rintro e w' ⟨he, n, hw⟩
  rw [hw]
  exact ⟨he, below_drewN _ n⟩

theorem Dated.keep {w w' : World} {b : Nat} {d d' : List Dy} (h : Dated w d) (hb : ∀ e ∈ d, e.kb ≠ b) (hP : d'.Perm d) (hK : KeptF (· = b) w w') : Dated w' d' := by
  intro e he
  have he' := hP.mem_iff.1 he
  rw [hK.cell (block_lt_of_cell (h e he')) (hb e he')]
  exact h e he'

set_option maxRecDepth 100000 in
set_option maxHeartbeats 4000000 in
theorem riseD_any (b n cap T i0 : Nat) (d : List Dy) (w : World) (hA : DArr w b T cap d) (hD : Dated w d) (hB : ∀ e ∈ d, e.kb ≠ b) (hd : d.length = n) (hi : i0 < n) (hn : n ≤ 2932031007317) (hI : RiseInv Dy.ltB d i0) :
    Calls Try.prog 115 #[.slice (some ⟨b, 0, none⟩) n cap, .int .i64 i0] w fun e w' => e = .returned (.tuple #[]) ∧ ∃ d', DArr w' b T cap d' ∧ d'.Perm d ∧ HeapL Dy.ltB d' ∧ KeptF (· = b) w w' := by
  have hm := method_day
  go_enter Try.func115, Try.ntmps115
  go_wp2
  go_loopw [1] (fun si wr => ∃ (i : Nat) (dk : List Dy), si = .int .i64 i ∧ i < n ∧ Hid (dk.length = n) ∧ DArr wr b T cap dk ∧ dk.Perm d ∧ RiseInv Dy.ltB dk i ∧ KeptF (· = b) w wr) (fun si _ => (intOf si).toNat)
  case atStart => exact ⟨i0, d, rfl, hi, hd, hA, List.Perm.refl _, hI, KeptF.refl _ _⟩
  case round =>
    obtain ⟨i, dk, rfl, hin, HL, hE, hP, hR, hK⟩ := hrel
    have hDk := hD.keep hB hP hK
    clear hA hI hd hi hD
    by_cases hz : i = 0
    · subst hz
      go_wp2
      go_end0
      exact ⟨rfl, dk, hE, hP, hR.done0, hK⟩
    · have hi0 : 0 < i := Nat.pos_of_ne_zero hz
      obtain ⟨j, hj⟩ : ∃ j, j = (i - 1) / 2 := ⟨_, rfl⟩
      have hjN : ((i : Int) - 1) / 2 = j := by omega
      have hji : j < i := by omega
      have hjn : j < n := by omega
      have Hj : Hid (j = (i - 1) / 2) := hj
      clear hj
      obtain ⟨x, hx⟩ := get_of_lt (d := dk) (k := i) (by have := HL.out; omega)
      obtain ⟨y, hy⟩ := get_of_lt (d := dk) (k := j) (by have := HL.out; omega)
      have c0 := hE.cells hx
      have d0 := hE.cells hy
      have c1 := hDk x (List.mem_of_getElem? hx)
      have d1 := hDk y (List.mem_of_getElem? hy)
      have Hx : Hid (dk[i]? = some x) := hx
      have Hy : Hid (dk[j]? = some y) := hy
      clear hx hy
      have k0 := cell_regrown c0
      have l0 := cell_regrown d0
      cases hv : x.ltB y with
      | false =>
        have Hv : Hid (x.ltB y = false) := hv
        have hcall := dayBefore_grown x y wr false hv c1 d1
        clear hv c1 d1
        go_wp2
        refine wp_region_quiet_below (by kernel_rfl) (by kernel_rfl) ?_
        repeat (quiet_step (exact hcall _))
        refine wpQuiet_nil ?_
        intro wq hw'
        have hbl := below_of_regrown hw'
        clear hw' k0 l0 c0 d0 hcall hm
        go_wp2
        exact bodyPost_ret (results_none rfl _ _ _) rfl ⟨rfl, dk, hE.keep (KeptF.of_below (F := fun _ => False) hbl) (fun h => h), hP, hR.done Hx.out (by rw [← Hj.out]; exact Hy.out) Hv.out, hK.trans (KeptF.of_below hbl)⟩
      | true =>
        have Hv : Hid (x.ltB y = true) := hv
        have hcall := dayBefore_grown x y wr true hv c1 d1
        clear hv c1 d1
        go_wp2
        refine wp_region_quiet_below (by kernel_rfl) (by kernel_rfl) ?_
        repeat (quiet_step (exact hcall _))
        refine wpQuiet_nil ?_
        intro wq hw'
        have hbl := below_of_regrown hw'
        have hEq : DArr wq b T cap dk := hE.keep (KeptF.of_below (F := fun _ => False) hbl) (fun h => h)
        clear hw' k0 l0 c0 d0 hcall hm
        have c0 := hEq.cells Hx.out
        have d0 := hEq.cells Hy.out
        have hz := hEq.frozen
        go_wp2
        go_region
        go_wp2
        clear c0 d0 hz
        go_roundw
        case rel =>
          refine ⟨j, swapL dk i j x y, by go_num, hjn, (swapL_length dk i j x y).trans HL.out, (hEq.swap Hx.out Hy.out).drew, (swapL_perm dk i j x y (by omega) Hx.out Hy.out).trans hP, hR.step Dy.orderly hi0 Hj.out Hx.out Hy.out Hv.out, ?_⟩
          exact ((((hK.trans (KeptF.of_below hbl))).setCell (p := ⟨b, i, none⟩) (.inl rfl) _).setCell (p := ⟨b, j, none⟩) (.inl rfl) _).drew
        case measure => simp [intOf]; omega

end Go.Proofs.Ytaieackeflmhgaa

