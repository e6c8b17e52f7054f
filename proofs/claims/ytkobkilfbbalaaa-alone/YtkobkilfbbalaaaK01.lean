/-
  Plain words: items, entries, and how they are ordered. Nothing of the program.
  The walks of the small functions: cmp.Compare, cmp.Or at three, Item.compare, entry.before, day.before.
  Plain lists as heaps: what one exchange upward or downward does. Nothing of the program.
  What a call does to memory: blocks that may turn, blocks that stay; rows of entries and of pointers in a block of the program's own.
  The walks of rise: at entries, at days.
  The walks of sink: at entries, at days.
  Rows of the program's own: a slice value that owns its block; append to it, as one step of a region.
-/
import Derived.Test.YtkobkilfbbalaaaProg
import Derived.WalkKit
import Derived.WalkSpells
import Derived.WalkLawsBesides
import Derived.StillTailTactics
import Derived.BigRegion
import Derived.BigQuiet
import Derived.Below
import Derived.Deep.Draws
import Derived.Deep.LoopGhost
import Derived.Lib.QuietBelow
import Derived.Deep.RegionLaw
import Derived.Laws.AppendOwn
namespace Go.Proofs.Ytkobkilfbbalaaa

def cmpI (a b : Int) : Int := if a < b then -1 else if b < a then 1 else 0
def or3 (x y z : Int) : Int := if x = 0 then (if y = 0 then z else y) else x

structure It where
  t : Int
  f : Int
  s : Int
  l : Int

structure Ent where
  it : It
  r : Int

def It.cmp (x y : It) : Int := or3 (cmpI x.t y.t) (cmpI x.f y.f) (cmpI x.s y.s)
def Ent.ltB (x y : Ent) : Bool := if x.it.cmp y.it = 0 then decide (x.r < y.r) else decide (x.it.cmp y.it < 0)

theorem or3_x {x y z : Int} (h : x ≠ 0) : or3 x y z = x := by simp [or3, h]
theorem or3_y {y z : Int} (h : y ≠ 0) : or3 0 y z = y := by simp [or3, h]
theorem or3_z {z : Int} : or3 0 0 z = z := by simp [or3]

/-- 'ahead': by time, From, Seq. -/
def It.lt (x y : It) : Prop := x.t < y.t ∨ (x.t = y.t ∧ (x.f < y.f ∨ (x.f = y.f ∧ x.s < y.s)))
def It.same (x y : It) : Prop := x.t = y.t ∧ x.f = y.f ∧ x.s = y.s

theorem cmpI_neg {a b : Int} : cmpI a b < 0 ↔ a < b := by unfold cmpI; split <;> (try split) <;> omega
theorem cmpI_zero {a b : Int} : cmpI a b = 0 ↔ a = b := by unfold cmpI; split <;> (try split) <;> omega

theorem It.cmp_neg (x y : It) : x.cmp y < 0 ↔ x.lt y := by
  have h1 := @cmpI_neg x.t y.t
  have z1 := @cmpI_zero x.t y.t
  have h2 := @cmpI_neg x.f y.f
  have z2 := @cmpI_zero x.f y.f
  have h3 := @cmpI_neg x.s y.s
  have z3 := @cmpI_zero x.s y.s
  unfold It.cmp It.lt or3
  generalize cmpI x.t y.t = a at *
  generalize cmpI x.f y.f = b at *
  generalize cmpI x.s y.s = c at *
  split
  · split <;> omega
  · omega

theorem It.cmp_zero (x y : It) : x.cmp y = 0 ↔ x.same y := by
  have z1 := @cmpI_zero x.t y.t
  have z2 := @cmpI_zero x.f y.f
  have z3 := @cmpI_zero x.s y.s
  unfold It.cmp It.same or3
  generalize cmpI x.t y.t = a at *
  generalize cmpI x.f y.f = b at *
  generalize cmpI x.s y.s = c at *
  split
  · split <;> omega
  · omega

/-- The whole order of entries: strict and total but for equal keys and ranks. -/
def Ent.lt (x y : Ent) : Prop := x.it.lt y.it ∨ (x.it.same y.it ∧ x.r < y.r)

theorem Ent.ltB_iff (x y : Ent) : x.ltB y = true ↔ x.lt y := by
  unfold Ent.ltB Ent.lt
  have h1 := It.cmp_neg x.it y.it
  have h2 := It.cmp_zero x.it y.it
  rw [← h1, ← h2]
  split
  · simp only [decide_eq_true_eq]; omega
  · simp only [decide_eq_true_eq]; omega

theorem Ent.lt_trans {x y z : Ent} (h : x.lt y) (k : y.lt z) : x.lt z := by
  unfold Ent.lt It.lt It.same at *; omega
theorem Ent.lt_irrefl {x : Ent} : ¬ x.lt x := by
  unfold Ent.lt It.lt It.same; omega
/-- not less is kept along. -/
theorem Ent.not_lt_trans {x y z : Ent} (h : ¬ y.lt x) (k : ¬ z.lt y) : ¬ z.lt x := by
  unfold Ent.lt It.lt It.same at *; omega

theorem Ent.ltB_asymm {x y : Ent} (h : x.ltB y = true) : y.ltB x = false := by
  rw [Bool.eq_false_iff]; intro k
  rw [Ent.ltB_iff] at h k
  exact Ent.lt_irrefl (Ent.lt_trans h k)
theorem Ent.ltB_neg_trans {x y z : Ent} (h : y.ltB x = false) (k : z.ltB y = false) : z.ltB x = false := by
  rw [Bool.eq_false_iff] at *; intro m
  rw [Ne, Ent.ltB_iff] at h k
  rw [Ent.ltB_iff] at m
  exact Ent.not_lt_trans h k m

end Go.Proofs.Ytkobkilfbbalaaa

namespace Go.Proofs.Ytkobkilfbbalaaa
open Go.RowKit

theorem ret_int {k : IntKind} {a b : Int} (h : a = b) : Ending.returned (.int k a) = .returned (.int k b) := by rw [h]
theorem ret_bool {a b : Bool} (h : a = b) : Ending.returned (.bool a) = .returned (.bool b) := by rw [h]

theorem still_tail' {P : Program} {id : Nat} {Q : Exit → Act → World → Prop} {a : Act} {w : World} {l : List Oper} (n : Nat) (hm : P.follows .mixedOrders = true) (hB : Region.lexTailB .any l.toArray n = true)
    (h : wpStill P l.toArray w.drew (fun a' => wpList P l.toArray Q (l.drop n) a' w.drew) (l.take n) a) : (Code.region id l.toArray true).wp P Q a w :=
  wp_region_still_tail n hm hB h

theorem bcell {W w1 : World} (hb : Below W.heap.size W w1) : (∀ b o, b < W.heap.size → w1.cell? ⟨b, o, none⟩ = W.cell? ⟨b, o, none⟩) ∧ (∀ b o, b < W.heap.size → w1.frozen? ⟨b, o, none⟩ = W.frozen? ⟨b, o, none⟩) :=
  ⟨fun b o h => hb.cell (p := ⟨b, o, none⟩) h, fun b o h => hb.frozen (p := ⟨b, o, none⟩) h⟩

set_option maxHeartbeats 400000 in
theorem isNaN_any (a : Int) (w : World) :
    Calls Try.prog 110 #[.int .i64 a] w fun e w' => e = .returned (.bool false) ∧ w' = w := by
  go_enter Try.func110, Try.ntmps110
  go_wp2
  go_ret
  exact ⟨by simp, rfl⟩

theorem cmpI_lt {a b : Int} (h : a < b) : cmpI a b = -1 := by unfold cmpI; rw [if_pos h]
theorem cmpI_gt {a b : Int} (h : b < a) : cmpI a b = 1 := by unfold cmpI; rw [if_neg (by omega), if_pos h]
theorem cmpI_eq {a b : Int} (h : ¬ a < b) (k : ¬ b < a) : cmpI a b = 0 := by unfold cmpI; rw [if_neg h, if_neg k]

set_option maxHeartbeats 400000 in
theorem compare_any (a b : Int) (w : World) :
    Calls Try.prog 109 #[.int .i64 a, .int .i64 b] w fun e w' => e = .returned (.int .i64 (cmpI a b)) ∧ w' = w := by
  by_cases h1 : a < b
  · have H := cmpI_lt h1
    go_enter Try.func109, Try.ntmps109
    go_wp2_with (go_at_call 110; refine (isNaN_any _ _).mono ?_; rintro e w' ⟨rfl, rfl⟩)
    go_ret
    exact ⟨ret_int H.symm, rfl⟩
  · by_cases h2 : b < a
    · have H := cmpI_gt h2
      go_enter Try.func109, Try.ntmps109
      go_wp2_with (go_at_call 110; refine (isNaN_any _ _).mono ?_; rintro e w' ⟨rfl, rfl⟩)
      go_ret
      exact ⟨ret_int H.symm, rfl⟩
    · have H := cmpI_eq h1 h2
      go_enter Try.func109, Try.ntmps109
      go_wp2_with (go_at_call 110; refine (isNaN_any _ _).mono ?_; rintro e w' ⟨rfl, rfl⟩)
      go_ret
      exact ⟨ret_int H.symm, rfl⟩

set_option maxHeartbeats 400000 in
theorem or_any (b : Nat) (x y z : Int) (w : World) (c0 : w.cell? ⟨b, 0, none⟩ = some (.int .i64 x)) (c1 : w.cell? ⟨b, 1, none⟩ = some (.int .i64 y)) (c2 : w.cell? ⟨b, 2, none⟩ = some (.int .i64 z)) :
    Calls Try.prog 108 #[.slice (some ⟨b, 0, none⟩) 3 3] w fun e w' => e = .returned (.int .i64 (or3 x y z)) ∧ w' = w := by
  go_enter Try.func108, Try.ntmps108
  go_wp2
  refine wp_loop_rounds 4 ?_
  by_cases hx : x = 0
  · subst hx
    rw [rounds_succ]
    go_wp2
    by_cases hy : y = 0
    · subst hy
      rw [rounds_succ]
      go_wp2
      by_cases hz : z = 0
      · subst hz
        rw [rounds_succ]
        go_wp2
        rw [rounds_succ]
        go_wp2
        go_ret
        exact ⟨ret_int or3_z.symm, rfl⟩
      · rw [rounds_succ]
        go_wp2
        go_ret
        exact ⟨ret_int or3_z.symm, rfl⟩
    · rw [rounds_succ]
      go_wp2
      go_ret
      exact ⟨ret_int (or3_y hy).symm, rfl⟩
  · rw [rounds_succ]
    go_wp2
    go_ret
    exact ⟨ret_int (or3_x hx).symm, rfl⟩

set_option maxRecDepth 100000 in
set_option maxHeartbeats 400000 in
theorem cmpr_any (a b c d a' b' c' d' : Int) (w : World) :
    Calls Try.prog 102 #[.agg #[.int .i64 a, .int .i64 b, .int .i64 c, .int .i64 d], .agg #[.int .i64 a', .int .i64 b', .int .i64 c', .int .i64 d']] w fun e w' => e = .returned (.int .i64 (It.cmp ⟨a, b, c, d⟩ ⟨a', b', c', d'⟩)) ∧ Below w.heap.size w w' := by
  have H : It.cmp ⟨a, b, c, d⟩ ⟨a', b', c', d'⟩ = or3 (cmpI a a') (cmpI b b') (cmpI c c') := rfl
  go_enter Try.func102, Try.ntmps102
  go_wp2
  refine still_tail' 15 (by kernel_rfl) (by kernel_rfl) ?_
  simp only [List.take_succ_cons, List.take_zero, List.drop_succ_cons, List.drop_zero]
  still_step
  still_step
  still_step
  still_step
  still_call (compare_any _ _ _)
  still_step
  still_step
  still_step
  still_step
  still_call (compare_any _ _ _)
  still_step
  still_step
  still_step
  still_step
  still_call (compare_any _ _ _)
  refine wpStill_nil ?_
  go_wp2_with fail
  refine (or_any _ (cmpI a a') (cmpI b b') (cmpI c c') _ (by go_simp) (by go_simp) (by go_simp)).mono ?_
  rintro e w' ⟨rfl, rfl⟩
  go_wp2
  go_ret
  exact ⟨ret_int H.symm, ((((Below.refl _ _).alloc (Nat.le_refl _) _).alloc (by simp) _).alloc (by simp; omega) _).drew⟩

theorem ltB_ne {x y : Ent} (h : x.it.cmp y.it ≠ 0) : x.ltB y = decide (x.it.cmp y.it < 0) := by unfold Ent.ltB; rw [if_neg h]
theorem ltB_eq {x y : Ent} (h : x.it.cmp y.it = 0) : x.ltB y = decide (x.r < y.r) := by unfold Ent.ltB; rw [if_pos h]

set_option maxRecDepth 100000 in
set_option maxHeartbeats 400000 in
theorem before_any (a b c d r a' b' c' d' r' : Int) (w : World) :
    Calls Try.prog 127 #[.agg #[.int .i64 a, .int .i64 b, .int .i64 c, .int .i64 d, .int .i64 r], .agg #[.int .i64 a', .int .i64 b', .int .i64 c', .int .i64 d', .int .i64 r']] w fun e w' => e = .returned (.bool (Ent.ltB ⟨⟨a, b, c, d⟩, r⟩ ⟨⟨a', b', c', d'⟩, r'⟩)) ∧ Below w.heap.size w w' := by
  have H1 := @ltB_ne ⟨⟨a, b, c, d⟩, r⟩ ⟨⟨a', b', c', d'⟩, r'⟩
  have H2 := @ltB_eq ⟨⟨a, b, c, d⟩, r⟩ ⟨⟨a', b', c', d'⟩, r'⟩
  obtain ⟨n, hn⟩ : ∃ n, It.cmp ⟨a, b, c, d⟩ ⟨a', b', c', d'⟩ = n := ⟨_, rfl⟩
  have C := cmpr_any a b c d a' b' c' d'
  simp only [hn] at H1 H2 C
  clear hn
  by_cases hz : n = 0
  · subst hz
    have H := H2 rfl
    clear H1 H2
    go_enter Try.func127, Try.ntmps127
    go_wp2_with (go_at_call 102; refine (C _).mono ?_; rintro e w1 ⟨rfl, hb⟩; obtain ⟨hc, hf⟩ := bcell hb)
    go_ret
    exact ⟨ret_bool H.symm, (((Below.refl _ _).alloc (Nat.le_refl _) _).alloc (by simp) _).trans (hb.mono (by simp; omega))⟩
  · have H := H1 hz
    have hz' : (n != 0) = true := by simpa using hz
    clear H1 H2
    go_enter Try.func127, Try.ntmps127
    go_wp2_with (go_at_call 102; refine (C _).mono ?_; rintro e w1 ⟨rfl, hb⟩; obtain ⟨hc, hf⟩ := bcell hb)
    go_ret
    exact ⟨ret_bool H.symm, (((Below.refl _ _).alloc (Nat.le_refl _) _).alloc (by simp) _).trans (hb.mono (by simp; omega))⟩

set_option maxRecDepth 100000 in
set_option maxHeartbeats 400000 in
theorem dayBefore_any (b o b' o' : Nat) (x y : Int) (w : World) (hx : w.cell? ⟨b, o, none⟩ = some (.int .i64 x)) (hy : w.cell? ⟨b', o', none⟩ = some (.int .i64 y)) :
    Calls Try.prog 126 #[.pointer (some ⟨b, o, none⟩), .pointer (some ⟨b', o', none⟩)] w fun e w' => e = .returned (.bool (decide (x < y))) ∧ ∃ n, w' = w.drewN n := by
  go_enter Try.func126, Try.ntmps126
  go_wp2
  go_quiet (fail)
  go_wp2
  go_ret
  exact ⟨rfl, _, rfl⟩

end Go.Proofs.Ytkobkilfbbalaaa

namespace Go.Proofs.Ytkobkilfbbalaaa

section
variable {α : Type}

/-- the list with the elements at i (it is x) and j (it is y) exchanged -/
def swapL (d : List α) (i j : Nat) (x y : α) : List α := (d.set i y).set j x

theorem swapL_length (d : List α) (i j : Nat) (x y : α) : (swapL d i j x y).length = d.length := by simp [swapL]

theorem swapL_get (d : List α) (i j : Nat) (x y : α) (hi : i < d.length) (hj : j < d.length) (k : Nat) :
    (swapL d i j x y)[k]? = if k = j then some x else if k = i then some y else d[k]? := by
  unfold swapL
  rw [List.getElem?_set]
  by_cases h1 : k = j
  · subst h1; simp [hj]
  · rw [if_neg (fun e => h1 e.symm), if_neg h1, List.getElem?_set]
    by_cases h2 : k = i
    · subst h2; simp [hi]
    · rw [if_neg (fun e => h2 e.symm), if_neg h2]

theorem get_lt {d : List α} {k : Nat} {x : α} (h : d[k]? = some x) : k < d.length := by
  rcases Nat.lt_or_ge k d.length with h' | h'
  · exact h'
  · rw [List.getElem?_eq_none h'] at h; cases h

theorem get_of_lt {d : List α} {k : Nat} (h : k < d.length) : ∃ x, d[k]? = some x := ⟨d[k], by simp [h]⟩

theorem set_perm_aux (y : α) : ∀ (d : List α) (j : Nat) (z : α), d[j]? = some z → List.Perm (z :: d.set j y) (y :: d)
  | [], j, z, h => by simp at h
  | a :: d, 0, z, h => by
    simp only [List.getElem?_cons_zero, Option.some.injEq] at h
    subst h
    simp only [List.set_cons_zero]
    exact List.Perm.swap _ _ _
  | a :: d, j + 1, z, h => by
    simp only [List.getElem?_cons_succ] at h
    simp only [List.set_cons_succ]
    exact ((List.Perm.swap _ _ _).trans ((set_perm_aux y d j z h).cons a)).trans (List.Perm.swap _ _ _)

theorem swapL_perm (d : List α) (i j : Nat) (x y : α) (hne : i ≠ j) (hi : d[i]? = some x) (hj : d[j]? = some y) : (swapL d i j x y).Perm d := by
  have h1 := set_perm_aux y d i x hi
  have hj' : (d.set i y)[j]? = some y := by rw [List.getElem?_set_ne hne]; exact hj
  have h2 := set_perm_aux x (d.set i y) j y hj'
  exact (List.Perm.cons_inv (h2.trans h1))

variable (lt : α → α → Bool)

def HeapL (d : List α) : Prop := ∀ k x y, 0 < k → d[k]? = some x → d[(k - 1) / 2]? = some y → lt x y = false
def RiseInv (d : List α) (i : Nat) : Prop :=
  (∀ k x y, 0 < k → k ≠ i → d[k]? = some x → d[(k - 1) / 2]? = some y → lt x y = false) ∧
  (∀ k x y, 0 < k → 0 < i → (k - 1) / 2 = i → d[k]? = some x → d[(i - 1) / 2]? = some y → lt x y = false)
def SinkInv (d : List α) (i : Nat) : Prop :=
  (∀ k x y, 0 < k → (k - 1) / 2 ≠ i → d[k]? = some x → d[(k - 1) / 2]? = some y → lt x y = false) ∧
  (∀ k x y, 0 < k → 0 < i → (k - 1) / 2 = i → d[k]? = some x → d[(i - 1) / 2]? = some y → lt x y = false)

structure Orderly : Prop where
  asymm : ∀ x y, lt x y = true → lt y x = false
  ntrans : ∀ x y z, lt y x = false → lt z y = false → lt z x = false

variable {lt}

theorem Orderly.irrefl (O : Orderly lt) (x : α) : lt x x = false := by
  cases h : lt x x with
  | false => rfl
  | true => exact h.symm.trans (O.asymm x x h)

theorem RiseInv.step (O : Orderly lt) {d : List α} {i j : Nat} {x y : α} (h : RiseInv lt d i) (hi : 0 < i) (hj : j = (i - 1) / 2) (hx : d[i]? = some x) (hy : d[j]? = some y) (hl : lt x y = true) :
    RiseInv lt (swapL d i j x y) j := by
  have li := get_lt hx
  have lj := get_lt hy
  have hji : j < i := by omega
  have hyx := O.asymm x y hl
  obtain ⟨h1, h2⟩ := h
  refine ⟨fun k a b hk hkj ha hb => ?_, fun k a b hk hj0 hkp ha hb => ?_⟩
  · rw [swapL_get d i j x y li lj] at ha hb
    rw [if_neg hkj] at ha
    by_cases hki : k = i
    · rw [if_pos hki] at ha
      rw [if_pos (by omega)] at hb
      cases ha; cases hb
      exact hyx
    · rw [if_neg hki] at ha
      by_cases hpj : (k - 1) / 2 = j
      · rw [if_pos hpj] at hb
        cases hb
        exact O.ntrans x y a hyx (h1 k a y hk hki ha (by rw [hpj]; exact hy))
      · rw [if_neg hpj] at hb
        by_cases hpi : (k - 1) / 2 = i
        · rw [if_pos hpi] at hb
          cases hb
          exact h2 k a y hk hi hpi ha (by rw [← hj]; exact hy)
        · rw [if_neg hpi] at hb
          exact h1 k a b hk hki ha hb
  · rw [swapL_get d i j x y li lj] at ha hb
    rw [if_neg (by omega), if_neg (by omega)] at hb
    rw [if_neg (by omega)] at ha
    have hyb : lt y b = false := h1 j y b hj0 (by omega) hy hb
    by_cases hki : k = i
    · rw [if_pos hki] at ha
      cases ha
      exact hyb
    · rw [if_neg hki] at ha
      exact O.ntrans b y a hyb (h1 k a y hk hki ha (by rw [hkp]; exact hy))

theorem RiseInv.done0 {d : List α} (h : RiseInv lt d 0) : HeapL lt d :=
  fun k x y hk hx hy => h.1 k x y hk (by omega) hx hy
theorem RiseInv.done {d : List α} {i : Nat} {x y : α} (h : RiseInv lt d i) (hx : d[i]? = some x) (hy : d[(i - 1) / 2]? = some y) (hl : lt x y = false) : HeapL lt d := by
  intro k a b hk ha hb
  by_cases hki : k = i
  · subst hki
    rw [hx] at ha; rw [hy] at hb
    cases ha; cases hb; exact hl
  · exact h.1 k a b hk hki ha hb

theorem RiseInv.push {d : List α} (h : HeapL lt d) (e : α) : RiseInv lt (d ++ [e]) d.length := by
  refine ⟨fun k x y hk hne hx hy => ?_, fun k x y hk h0 hp hx hy => ?_⟩
  · have hk' := get_lt hx
    rw [List.length_append, List.length_singleton] at hk'
    rw [List.getElem?_append_left (by omega)] at hx hy
    exact h k x y hk hx hy
  · have hk' := get_lt hx
    rw [List.length_append, List.length_singleton] at hk'
    omega

theorem SinkInv.step (O : Orderly lt) {d : List α} {i m : Nat} {x y : α} (h : SinkInv lt d i) (hm : 0 < m) (hmi : (m - 1) / 2 = i) (hx : d[i]? = some x) (hy : d[m]? = some y) (hl : lt y x = true)
    (hmin : ∀ k a, 0 < k → (k - 1) / 2 = i → d[k]? = some a → lt a y = false) : SinkInv lt (swapL d i m x y) m := by
  have li := get_lt hx
  have lm := get_lt hy
  have him : i < m := by omega
  have hxy := O.asymm y x hl
  obtain ⟨h1, h2⟩ := h
  refine ⟨fun k a b hk hkm ha hb => ?_, fun k a b hk hm0 hkp ha hb => ?_⟩
  · rw [swapL_get d i m x y li lm] at ha hb
    rw [if_neg hkm] at hb
    by_cases hk1 : k = m
    · rw [if_pos hk1] at ha
      rw [if_pos (by rw [hk1]; exact hmi)] at hb
      cases ha; cases hb
      exact hxy
    · rw [if_neg hk1] at ha
      by_cases hk2 : k = i
      · rw [if_pos hk2] at ha
        rw [if_neg (by omega)] at hb
        cases ha
        exact h2 m y b hm (by omega) hmi hy (by rw [← hk2]; exact hb)
      · rw [if_neg hk2] at ha
        by_cases hp : (k - 1) / 2 = i
        · rw [if_pos hp] at hb
          cases hb
          exact hmin k a hk hp ha
        · rw [if_neg hp] at hb
          exact h1 k a b hk hp ha hb
  · rw [swapL_get d i m x y li lm] at ha hb
    rw [if_neg (by omega), if_neg (by omega)] at ha
    rw [if_neg (by omega), if_pos (by omega)] at hb
    cases hb
    exact h1 k a y hk (by omega) ha (by rw [hkp]; exact hy)

theorem SinkInv.done {d : List α} {i : Nat} (h : SinkInv lt d i) (hmin : ∀ k a x, 0 < k → (k - 1) / 2 = i → d[k]? = some a → d[i]? = some x → lt a x = false) : HeapL lt d := by
  intro k a b hk ha hb
  by_cases hp : (k - 1) / 2 = i
  · exact hmin k a b hk hp ha (by rw [← hp]; exact hb)
  · exact h.1 k a b hk hp ha hb

/-- what pop leaves: the last one in front, the end cut -/
def popL (d : List α) (last : α) : List α := (d.set 0 last).take (d.length - 1)

theorem SinkInv.pop {d : List α} (h : HeapL lt d) (last : α) : SinkInv lt (popL d last) 0 := by
  refine ⟨fun k x y hk hp hx hy => ?_, fun k x y hk h0 => by omega⟩
  have lk := get_lt hx
  simp only [popL, List.length_take, List.length_set] at lk
  unfold popL at hx hy
  rw [List.getElem?_take_of_lt (by omega), List.getElem?_set_ne (by omega)] at hx hy
  exact h k x y hk hx hy

theorem popL_length (d : List α) (last : α) : (popL d last).length = d.length - 1 := by
  simp [popL]

theorem popL_perm {d : List α} {x last : α} (hx : d[0]? = some x) (hl : d[d.length - 1]? = some last) : (x :: popL d last).Perm d := by
  cases d with
  | nil => simp at hx
  | cons a r =>
    simp only [List.getElem?_cons_zero, Option.some.injEq] at hx
    subst hx
    simp only [popL, List.length_cons, Nat.add_sub_cancel, List.set_cons_zero] at *
    cases r with
    | nil => simp
    | cons b r =>
      simp only [List.length_cons, List.getElem?_cons_succ] at hl
      simp only [List.length_cons, List.take_succ_cons]
      have e : b :: r = (b :: r).take (r.length) ++ [last] := by
        have h1 : (b :: r) = (b :: r).take (r.length) ++ (b :: r).drop r.length := (List.take_append_drop _ _).symm
        have h2 : (b :: r).drop r.length = [last] := by
          have := List.drop_eq_getElem_cons (l := b :: r) (i := r.length) (by simp)
          rw [this]
          have hg : (b :: r)[r.length]? = some last := hl
          rw [List.getElem?_eq_getElem (by simp)] at hg
          simp only [Option.some.injEq] at hg
          rw [hg]
          simp
        rw [h2] at h1
        exact h1
      refine List.Perm.cons _ ?_
      refine List.Perm.trans ?_ (List.Perm.of_eq e.symm)
      exact (List.perm_append_singleton _ _).symm

theorem HeapL.least (O : Orderly lt) {d : List α} (h : HeapL lt d) {x : α} (h0 : d[0]? = some x) : ∀ (n k : Nat) (a : α), k ≤ n → d[k]? = some a → lt a x = false
  | 0, k, a, hk, ha => by
    have : k = 0 := by omega
    subst this
    rw [h0] at ha; cases ha
    exact O.irrefl _
  | n + 1, k, a, hk, ha => by
    by_cases hz : k = 0
    · subst hz
      rw [h0] at ha; cases ha
      exact O.irrefl _
    · have lk := get_lt ha
      obtain ⟨b, hb⟩ := get_of_lt (d := d) (k := (k - 1) / 2) (by omega)
      exact O.ntrans x b a (HeapL.least O h h0 n ((k - 1) / 2) b (by omega) hb) (h k a b (by omega) ha hb)

theorem HeapL.least_mem (O : Orderly lt) {d : List α} (h : HeapL lt d) {x : α} (h0 : d[0]? = some x) {a : α} (ha : a ∈ d) : lt a x = false := by
  obtain ⟨k, hk⟩ := List.getElem?_of_mem ha
  exact HeapL.least O h h0 k k a (Nat.le_refl _) hk

end
end Go.Proofs.Ytkobkilfbbalaaa

namespace Go.Proofs.Ytkobkilfbbalaaa
open Go.RowKit

/-- All blocks that were there, but for those of F, are as they were. -/
structure KeptF (F : Nat → Prop) (w w' : World) : Prop where
  os : w'.os = w.os
  tape : w'.tape = w.tape
  output : w'.output = w.output
  size : w.heap.size ≤ w'.heap.size
  block : ∀ k, k < w.heap.size → ¬ F k → w'.heap[k]? = w.heap[k]?

theorem KeptF.refl (F : Nat → Prop) (w : World) : KeptF F w w := ⟨rfl, rfl, rfl, Nat.le_refl _, fun _ _ _ => rfl⟩

/-- the second step may also turn what the first one made -/
theorem KeptF.trans' {F G : Nat → Prop} {a b c : World} (h : KeptF F a b) (k : KeptF G b c) (hG : ∀ i, i < a.heap.size → G i → F i) : KeptF F a c :=
  ⟨k.os.trans h.os, k.tape.trans h.tape, k.output.trans h.output, Nat.le_trans h.size k.size,
   fun i hi hF => (k.block i (Nat.lt_of_lt_of_le hi h.size) (fun g => hF (hG i hi g))).trans (h.block i hi hF)⟩

theorem KeptF.trans {F : Nat → Prop} {a b c : World} (h : KeptF F a b) (k : KeptF F b c) : KeptF F a c := h.trans' k (fun _ _ g => g)

theorem KeptF.weaken {F G : Nat → Prop} {a b : World} (h : KeptF F a b) (hF : ∀ i, i < a.heap.size → F i → G i) : KeptF G a b :=
  ⟨h.os, h.tape, h.output, h.size, fun i hi hG => h.block i hi (fun f => hG (hF i hi f))⟩

theorem KeptF.of_below {F : Nat → Prop} {w w' : World} (h : Below w.heap.size w w') : KeptF F w w' :=
  ⟨h.os, h.tape, h.output, h.size, fun i hi _ => h.block i hi⟩

theorem KeptF.below {F : Nat → Prop} {w w' : World} {B : Nat} (h : KeptF F w w') (hB : B ≤ w.heap.size) (hF : ∀ i, F i → B ≤ i) : Below B w w' :=
  ⟨h.os, h.tape, h.output, h.size, fun i hi => h.block i (by omega) (fun f => by have := hF i f; omega)⟩

theorem KeptF.drew {F : Nat → Prop} {a w : World} (h : KeptF F a w) : KeptF F a w.drew := ⟨h.os, h.tape, h.output, h.size, h.block⟩
theorem KeptF.drewN {F : Nat → Prop} {a w : World} (h : KeptF F a w) (n : Nat) : KeptF F a (w.drewN n) := ⟨h.os, h.tape, h.output, h.size, h.block⟩

theorem KeptF.setCell {F : Nat → Prop} {a w : World} (h : KeptF F a w) {p : Addr} (hp : F p.block ∨ a.heap.size ≤ p.block) (u : Value) : KeptF F a (w.setCell p u) :=
  ⟨h.os, h.tape, h.output, by have := h.size; simp [World.setCell]; exact this, fun k hk hF => by
    rw [Below.heap_setCell _ _ _ _ (by intro e; subst e; rcases hp with hp | hp; exact hF hp; omega)]; exact h.block k hk hF⟩

theorem KeptF.alloc {F : Nat → Prop} {a w : World} (h : KeptF F a w) (o : Obj) : KeptF F a (w.alloc o) :=
  ⟨h.os, h.tape, h.output, by have := h.size; simp; omega, fun k hk hF => by
    rw [Below.heap_alloc _ _ _ (by have := h.size; omega)]; exact h.block k hk hF⟩

theorem KeptF.cell {F : Nat → Prop} {w w' : World} (h : KeptF F w w') {p : Addr} (hp : p.block < w.heap.size) (hF : ¬ F p.block) : w'.cell? p = w.cell? p := World.cell?_of_block (w := w) (h.block p.block hp hF)
theorem KeptF.frozen {F : Nat → Prop} {w w' : World} (h : KeptF F w w') {p : Addr} (hp : p.block < w.heap.size) (hF : ¬ F p.block) : w'.frozen? p = w.frozen? p := World.frozen?_of_block (w := w) (h.block p.block hp hF)

/-- A block of cells of the program's own: never frozen. -/
def Blk (w : World) (b : Nat) (c : Array Value) (T : TypeId) : Prop := w.heap[b]? = some (.cells c T (0, 0))

theorem Blk.cell {w : World} {b : Nat} {c : Array Value} {T : TypeId} (h : Blk w b c T) (o : Nat) : w.cell? ⟨b, o, none⟩ = c[o]? := by
  have h' : w.heap[b]? = some (.cells c T (0, 0)) := h
  simp [World.cell?, h']
theorem Blk.frozen {w : World} {b : Nat} {c : Array Value} {T : TypeId} (h : Blk w b c T) (o : Nat) : w.frozen? ⟨b, o, none⟩ = false := by
  have h' : w.heap[b]? = some (.cells c T (0, 0)) := h
  simp [World.frozen?, h']
theorem Blk.lt {w : World} {b : Nat} {c : Array Value} {T : TypeId} (h : Blk w b c T) : b < w.heap.size := by
  have h' : w.heap[b]? = some (.cells c T (0, 0)) := h
  rcases Nat.lt_or_ge b w.heap.size with k | k
  · exact k
  · rw [Array.getElem?_eq_none k] at h'; cases h'
theorem Blk.drew {w : World} {b : Nat} {c : Array Value} {T : TypeId} (h : Blk w b c T) : Blk w.drew b c T := h
theorem Blk.keep {F : Nat → Prop} {w w' : World} {b : Nat} {c : Array Value} {T : TypeId} (h : Blk w b c T) (k : KeptF F w w') (hF : ¬ F b) : Blk w' b c T :=
  (k.block b h.lt hF).trans h
theorem Blk.set {w : World} {b : Nat} {c : Array Value} {T : TypeId} (h : Blk w b c T) (o : Nat) (v : Value) : Blk (w.setCell ⟨b, o, none⟩ v) b (c.setIfInBounds o v) T := by
  have h' : w.heap[b]? = some (.cells c T (0, 0)) := h
  show (w.heap.modify b _)[b]? = _
  simp [Array.getElem?_modify, h']
theorem Blk.set_other {w : World} {b : Nat} {c : Array Value} {T : TypeId} (h : Blk w b c T) {a : Addr} (hne : b ≠ a.block) (v : Value) : Blk (w.setCell a v) b c T :=
  (Below.heap_setCell w a v b hne).trans h
theorem Blk.alloc {w : World} {b : Nat} {c : Array Value} {T : TypeId} (h : Blk w b c T) (o : Obj) : Blk (w.alloc o) b c T :=
  (Below.heap_alloc w o b h.lt).trans h

/-- Cells from 5j on hold entry j, for every entry of the list. -/
def ERow (c : Array Value) (d : List Ent) : Prop := ∀ (j : Nat) (e : Ent), d[j]? = some e →
  c[j * 5]? = some (.int .i64 e.it.t) ∧ c[j * 5 + 1]? = some (.int .i64 e.it.f) ∧ c[j * 5 + 2]? = some (.int .i64 e.it.s) ∧ c[j * 5 + 3]? = some (.int .i64 e.it.l) ∧ c[j * 5 + 4]? = some (.int .i64 e.r)

/-- A block that holds a row of entries, with room for cap. -/
structure EArr (w : World) (b : Nat) (T : TypeId) (cap : Nat) (d : List Ent) : Prop where
  ex : ∃ c, Blk w b c T ∧ c.size = cap * 5 ∧ ERow c d
  fits : d.length ≤ cap

theorem EArr.lt {w : World} {b : Nat} {T : TypeId} {cap : Nat} {d : List Ent} (h : EArr w b T cap d) : b < w.heap.size := by
  obtain ⟨c, h1, _⟩ := h.ex; exact h1.lt
theorem EArr.frozen {w : World} {b : Nat} {T : TypeId} {cap : Nat} {d : List Ent} (h : EArr w b T cap d) (o : Nat) : w.frozen? ⟨b, o, none⟩ = false := by
  obtain ⟨c, h1, _⟩ := h.ex; exact h1.frozen o
theorem EArr.cells {w : World} {b : Nat} {T : TypeId} {cap : Nat} {d : List Ent} (h : EArr w b T cap d) {j : Nat} {e : Ent} (he : d[j]? = some e) :
    w.cell? ⟨b, j * 5, none⟩ = some (.int .i64 e.it.t) ∧ w.cell? ⟨b, j * 5 + 1, none⟩ = some (.int .i64 e.it.f) ∧ w.cell? ⟨b, j * 5 + 2, none⟩ = some (.int .i64 e.it.s) ∧ w.cell? ⟨b, j * 5 + 3, none⟩ = some (.int .i64 e.it.l) ∧ w.cell? ⟨b, j * 5 + 4, none⟩ = some (.int .i64 e.r) := by
  obtain ⟨c, h1, _, h2⟩ := h.ex
  rw [h1.cell, h1.cell, h1.cell, h1.cell, h1.cell]
  exact h2 j e he
theorem EArr.keep {F : Nat → Prop} {w w' : World} {b : Nat} {T : TypeId} {cap : Nat} {d : List Ent} (h : EArr w b T cap d) (k : KeptF F w w') (hF : ¬ F b) : EArr w' b T cap d := by
  obtain ⟨c, h1, h2⟩ := h.ex
  exact ⟨⟨c, h1.keep k hF, h2⟩, h.fits⟩
theorem EArr.drew {w : World} {b : Nat} {T : TypeId} {cap : Nat} {d : List Ent} (h : EArr w b T cap d) : EArr w.drew b T cap d := ⟨h.ex, h.fits⟩

/-- five cells are stored: entry e at place j -/
def setEnt (w : World) (b j : Nat) (e : Ent) : World :=
  ((((w.setCell ⟨b, j * 5, none⟩ (.int .i64 e.it.t)).setCell ⟨b, j * 5 + 1, none⟩ (.int .i64 e.it.f)).setCell ⟨b, j * 5 + 2, none⟩ (.int .i64 e.it.s)).setCell ⟨b, j * 5 + 3, none⟩ (.int .i64 e.it.l)).setCell ⟨b, j * 5 + 4, none⟩ (.int .i64 e.r)

def setEntC (c : Array Value) (j : Nat) (e : Ent) : Array Value :=
  ((((c.setIfInBounds (j * 5) (.int .i64 e.it.t)).setIfInBounds (j * 5 + 1) (.int .i64 e.it.f)).setIfInBounds (j * 5 + 2) (.int .i64 e.it.s)).setIfInBounds (j * 5 + 3) (.int .i64 e.it.l)).setIfInBounds (j * 5 + 4) (.int .i64 e.r)

theorem Blk.setEnt {w : World} {b : Nat} {c : Array Value} {T : TypeId} (h : Blk w b c T) (j : Nat) (e : Ent) : Blk (setEnt w b j e) b (setEntC c j e) T :=
  ((((h.set _ _).set _ _).set _ _).set _ _).set _ _

theorem setEntC_size (c : Array Value) (j : Nat) (e : Ent) : (setEntC c j e).size = c.size := by simp [setEntC]

theorem setEntC_other (c : Array Value) (j : Nat) (e : Ent) (o : Nat) (h : o < j * 5 ∨ j * 5 + 5 ≤ o) : (setEntC c j e)[o]? = c[o]? := by
  unfold setEntC
  rw [Array.getElem?_setIfInBounds_ne (by omega), Array.getElem?_setIfInBounds_ne (by omega), Array.getElem?_setIfInBounds_ne (by omega), Array.getElem?_setIfInBounds_ne (by omega), Array.getElem?_setIfInBounds_ne (by omega)]

theorem setEntC_same (c : Array Value) (j : Nat) (e : Ent) (h : j * 5 + 5 ≤ c.size) :
    (setEntC c j e)[j * 5]? = some (.int .i64 e.it.t) ∧ (setEntC c j e)[j * 5 + 1]? = some (.int .i64 e.it.f) ∧ (setEntC c j e)[j * 5 + 2]? = some (.int .i64 e.it.s) ∧ (setEntC c j e)[j * 5 + 3]? = some (.int .i64 e.it.l) ∧ (setEntC c j e)[j * 5 + 4]? = some (.int .i64 e.r) := by
  unfold setEntC
  refine ⟨?_, ?_, ?_, ?_, ?_⟩
  · rw [Array.getElem?_setIfInBounds_ne (by omega), Array.getElem?_setIfInBounds_ne (by omega), Array.getElem?_setIfInBounds_ne (by omega), Array.getElem?_setIfInBounds_ne (by omega), Array.getElem?_setIfInBounds_self_of_lt (by omega)]
  · rw [Array.getElem?_setIfInBounds_ne (by omega), Array.getElem?_setIfInBounds_ne (by omega), Array.getElem?_setIfInBounds_ne (by omega), Array.getElem?_setIfInBounds_self_of_lt (by simp; omega)]
  · rw [Array.getElem?_setIfInBounds_ne (by omega), Array.getElem?_setIfInBounds_ne (by omega), Array.getElem?_setIfInBounds_self_of_lt (by simp; omega)]
  · rw [Array.getElem?_setIfInBounds_ne (by omega), Array.getElem?_setIfInBounds_self_of_lt (by simp; omega)]
  · rw [Array.getElem?_setIfInBounds_self_of_lt (by simp; omega)]

theorem ERow.set {c : Array Value} {d : List Ent} (h : ERow c d) {j : Nat} (e : Ent) (hj : j * 5 + 5 ≤ c.size) : ERow (setEntC c j e) (d.set j e) := by
  intro k x hx
  by_cases hk : k = j
  · subst hk
    have hlt : k < d.length := by have := get_lt hx; simpa using this
    rw [List.getElem?_set_self hlt] at hx
    cases hx
    exact setEntC_same c k e hj
  · rw [List.getElem?_set_ne (by omega)] at hx
    have := h k x hx
    rw [setEntC_other _ _ _ _ (by omega), setEntC_other _ _ _ _ (by omega), setEntC_other _ _ _ _ (by omega), setEntC_other _ _ _ _ (by omega), setEntC_other _ _ _ _ (by omega)]
    exact this

theorem EArr.set {w : World} {b : Nat} {T : TypeId} {cap : Nat} {d : List Ent} (h : EArr w b T cap d) {j : Nat} (e : Ent) (hj : j < cap) : EArr (setEnt w b j e) b T cap (d.set j e) := by
  obtain ⟨c, h1, h2, h3⟩ := h.ex
  exact ⟨⟨_, h1.setEnt j e, by rw [setEntC_size]; exact h2, h3.set e (by omega)⟩, by have := h.fits; simpa using this⟩

theorem KeptF.setEnt {F : Nat → Prop} {a w : World} (h : KeptF F a w) {b : Nat} (hp : F b ∨ a.heap.size ≤ b) (j : Nat) (e : Ent) : KeptF F a (setEnt w b j e) :=
  ((((h.setCell (p := ⟨b, j * 5, none⟩) hp _).setCell (p := ⟨b, j * 5 + 1, none⟩) hp _).setCell (p := ⟨b, j * 5 + 2, none⟩) hp _).setCell (p := ⟨b, j * 5 + 3, none⟩) hp _).setCell (p := ⟨b, j * 5 + 4, none⟩) hp _

theorem EArr.swap {w : World} {b : Nat} {T : TypeId} {cap : Nat} {d : List Ent} (h : EArr w b T cap d) {i j : Nat} {x y : Ent} (hi : d[i]? = some x) (hj : d[j]? = some y) :
    EArr (Go.Proofs.Ytkobkilfbbalaaa.setEnt (Go.Proofs.Ytkobkilfbbalaaa.setEnt w b i y) b j x) b T cap (swapL d i j x y) := by
  have := get_lt hi; have := get_lt hj; have := h.fits
  exact (h.set y (by omega)).set x (by omega)

/-- A day: its block and its date. -/
structure Dy where
  kb : Nat
  date : Int
def Dy.ltB (x y : Dy) : Bool := decide (x.date < y.date)
def DRow (c : Array Value) (d : List Dy) : Prop := ∀ (j : Nat) (e : Dy), d[j]? = some e → c[j]? = some (Value.pointer (some ⟨e.kb, 0, none⟩))

structure DArr (w : World) (b : Nat) (T : TypeId) (cap : Nat) (d : List Dy) : Prop where
  ex : ∃ c, Blk w b c T ∧ c.size = cap ∧ DRow c d
  fits : d.length ≤ cap

theorem DArr.lt {w : World} {b : Nat} {T : TypeId} {cap : Nat} {d : List Dy} (h : DArr w b T cap d) : b < w.heap.size := by
  obtain ⟨c, h1, _⟩ := h.ex; exact h1.lt
theorem DArr.frozen {w : World} {b : Nat} {T : TypeId} {cap : Nat} {d : List Dy} (h : DArr w b T cap d) (o : Nat) : w.frozen? ⟨b, o, none⟩ = false := by
  obtain ⟨c, h1, _⟩ := h.ex; exact h1.frozen o
theorem DArr.cells {w : World} {b : Nat} {T : TypeId} {cap : Nat} {d : List Dy} (h : DArr w b T cap d) {j : Nat} {e : Dy} (he : d[j]? = some e) :
    w.cell? ⟨b, j, none⟩ = some (.pointer (some ⟨e.kb, 0, none⟩)) := by
  obtain ⟨c, h1, _, h2⟩ := h.ex
  rw [h1.cell]
  exact h2 j e he
theorem DArr.keep {F : Nat → Prop} {w w' : World} {b : Nat} {T : TypeId} {cap : Nat} {d : List Dy} (h : DArr w b T cap d) (k : KeptF F w w') (hF : ¬ F b) : DArr w' b T cap d := by
  obtain ⟨c, h1, h2⟩ := h.ex
  exact ⟨⟨c, h1.keep k hF, h2⟩, h.fits⟩
theorem DArr.drew {w : World} {b : Nat} {T : TypeId} {cap : Nat} {d : List Dy} (h : DArr w b T cap d) : DArr w.drew b T cap d := ⟨h.ex, h.fits⟩
theorem DArr.set {w : World} {b : Nat} {T : TypeId} {cap : Nat} {d : List Dy} (h : DArr w b T cap d) {j : Nat} (e : Dy) (hj : j < cap) : DArr (w.setCell ⟨b, j, none⟩ (.pointer (some ⟨e.kb, 0, none⟩))) b T cap (d.set j e) := by
  obtain ⟨c, h1, h2, h3⟩ := h.ex
  refine ⟨⟨_, h1.set j _, by simpa using h2, fun k x hx => ?_⟩, by have := h.fits; simpa using this⟩
  by_cases hk : k = j
  · subst hk
    have hlt : k < d.length := by have := get_lt hx; simpa using this
    rw [List.getElem?_set_self hlt] at hx
    cases hx
    rw [Array.getElem?_setIfInBounds_self_of_lt (by omega)]
  · rw [List.getElem?_set_ne (by omega)] at hx
    rw [Array.getElem?_setIfInBounds_ne (by omega)]
    exact h3 k x hx
theorem DArr.swap {w : World} {b : Nat} {T : TypeId} {cap : Nat} {d : List Dy} (h : DArr w b T cap d) {i j : Nat} {x y : Dy} (hi : d[i]? = some x) (hj : d[j]? = some y) :
    DArr ((w.setCell ⟨b, i, none⟩ (.pointer (some ⟨y.kb, 0, none⟩))).setCell ⟨b, j, none⟩ (.pointer (some ⟨x.kb, 0, none⟩))) b T cap (swapL d i j x y) := by
  have := get_lt hi; have := get_lt hj; have := h.fits
  exact (h.set y (by omega)).set x (by omega)

/-- every day's own block tells its date -/
def Dated (w : World) (d : List Dy) : Prop := ∀ e, e ∈ d → w.cell? ⟨e.kb, 0, none⟩ = some (.int .i64 e.date)

theorem Ent.orderly : Orderly Ent.ltB := ⟨fun _ _ h => Ent.ltB_asymm h, fun _ _ _ h k => Ent.ltB_neg_trans h k⟩
theorem Dy.orderly : Orderly Dy.ltB := by
  refine ⟨fun x y h => ?_, fun x y z h k => ?_⟩
  · simp only [Dy.ltB, decide_eq_true_eq, decide_eq_false_iff_not] at *; omega
  · simp only [Dy.ltB, decide_eq_false_iff_not] at *; omega

end Go.Proofs.Ytkobkilfbbalaaa

namespace Go.Proofs.Ytkobkilfbbalaaa
open Go.RowKit Go.Sort

theorem method_ent (a b c d r : Int) (w : World) : (method 319 156 (.agg #[.int .i64 a, .int .i64 b, .int .i64 c, .int .i64 d, .int .i64 r]) "horizon/horizon.before").run Try.prog w = .ok (127, .agg #[.int .i64 a, .int .i64 b, .int .i64 c, .int .i64 d, .int .i64 r]) w := by kernel_rfl

/-- entry.before, met in a world to which only new blocks have come -/
theorem before_grown (x y : Ent) (w : World) (v : Bool) (hv : x.ltB y = v) (p : Regrown) :
    Calls Try.prog 127 #[.agg #[.int .i64 x.it.t, .int .i64 x.it.f, .int .i64 x.it.s, .int .i64 x.it.l, .int .i64 x.r], .agg #[.int .i64 y.it.t, .int .i64 y.it.f, .int .i64 y.it.s, .int .i64 y.it.l, .int .i64 y.r]] (grow (redrawn w p.d) p.os) fun e w'' => e = .returned (.bool v) ∧ ∃ p : Regrown, w'' = grow (redrawn w p.d) p.os := by
  subst hv
  exact Calls.regrown_of (before_any x.it.t x.it.f x.it.s x.it.l x.r y.it.t y.it.f y.it.s y.it.l y.r _)

theorem below_of_regrown {w w' : World} (h : ∃ p : Regrown, w' = grow (redrawn w p.d) p.os) : Below w.heap.size w w' := by
  obtain ⟨⟨d, os⟩, h⟩ := h
  rw [h]; exact below_regrown w d os

set_option maxRecDepth 100000 in
set_option maxHeartbeats 4000000 in
theorem riseE_any (b n cap T i0 : Nat) (d : List Ent) (w : World) (hA : EArr w b T cap d) (hd : d.length = n) (hi : i0 < n) (hn : n ≤ 2932031007317) (hI : RiseInv Ent.ltB d i0) :
    Calls Try.prog 86 #[.slice (some ⟨b, 0, none⟩) n cap, .int .i64 i0] w fun e w' => e = .returned (.tuple #[]) ∧ ∃ d', EArr w' b T cap d' ∧ d'.Perm d ∧ HeapL Ent.ltB d' ∧ KeptF (· = b) w w' := by
  have hm := method_ent
  go_enter Try.func86, Try.ntmps86
  go_wp2
  go_loopw [1] (fun si wr => ∃ (i : Nat) (dk : List Ent), si = .int .i64 i ∧ i < n ∧ Hid (dk.length = n) ∧ EArr wr b T cap dk ∧ dk.Perm d ∧ RiseInv Ent.ltB dk i ∧ KeptF (· = b) w wr) (fun si _ => (intOf si).toNat)
  case atStart => exact ⟨i0, d, rfl, hi, hd, hA, List.Perm.refl _, hI, KeptF.refl _ _⟩
  case round =>
    obtain ⟨i, dk, rfl, hin, HL, hE, hP, hR, hK⟩ := hrel
    clear hA hI hd hi
    by_cases hz : i = 0
    · subst hz
      go_wp2
      go_end0
      exact ⟨rfl, dk, hE, hP, hR.done0, hK⟩
    · have hi0 : 0 < i := Nat.pos_of_ne_zero hz
      obtain ⟨j, hj⟩ : ∃ j, j = (i - 1) / 2 := ⟨_, rfl⟩
      have hjN : ((i : Int) - 1) / 2 = j := by omega
      have hji : j < i := by omega
      have hjn : j < n := by omega
      have Hj : Hid (j = (i - 1) / 2) := hj
      clear hj
      obtain ⟨x, hx⟩ := get_of_lt (d := dk) (k := i) (by have := HL.out; omega)
      obtain ⟨y, hy⟩ := get_of_lt (d := dk) (k := j) (by have := HL.out; omega)
      obtain ⟨c0, c1, c2, c3, c4⟩ := hE.cells hx
      obtain ⟨d0, d1, d2, d3, d4⟩ := hE.cells hy
      have Hx : Hid (dk[i]? = some x) := hx
      have Hy : Hid (dk[j]? = some y) := hy
      clear hx hy
      have k0 := cell_regrown c0
      have k1 := cell_regrown c1
      have k2 := cell_regrown c2
      have k3 := cell_regrown c3
      have k4 := cell_regrown c4
      have l0 := cell_regrown d0
      have l1 := cell_regrown d1
      have l2 := cell_regrown d2
      have l3 := cell_regrown d3
      have l4 := cell_regrown d4
      cases hv : x.ltB y with
      | false =>
        have Hv : Hid (x.ltB y = false) := hv
        have hcall := before_grown x y wr false hv
        clear hv
        go_wp2
        refine wp_region_quiet_below (by kernel_rfl) (by kernel_rfl) ?_
        repeat (quiet_step (exact hcall _))
        refine wpQuiet_nil ?_
        intro wq hw'
        have hbl := below_of_regrown hw'
        clear hw' k0 k1 k2 k3 k4 l0 l1 l2 l3 l4 c0 c1 c2 c3 c4 d0 d1 d2 d3 d4 hcall hm
        go_wp2
        exact bodyPost_ret (results_none rfl _ _ _) rfl ⟨rfl, dk, hE.keep (KeptF.of_below (F := fun _ => False) hbl) (fun h => h), hP, hR.done Hx.out (by rw [← Hj.out]; exact Hy.out) Hv.out, hK.trans (KeptF.of_below hbl)⟩
      | true =>
        have Hv : Hid (x.ltB y = true) := hv
        have hcall := before_grown x y wr true hv
        clear hv
        go_wp2
        refine wp_region_quiet_below (by kernel_rfl) (by kernel_rfl) ?_
        repeat (quiet_step (exact hcall _))
        refine wpQuiet_nil ?_
        intro wq hw'
        have hbl := below_of_regrown hw'
        have hEq : EArr wq b T cap dk := hE.keep (KeptF.of_below (F := fun _ => False) hbl) (fun h => h)
        clear hw' k0 k1 k2 k3 k4 l0 l1 l2 l3 l4 c0 c1 c2 c3 c4 d0 d1 d2 d3 d4 hcall hm
        obtain ⟨c0, c1, c2, c3, c4⟩ := hEq.cells Hx.out
        obtain ⟨d0, d1, d2, d3, d4⟩ := hEq.cells Hy.out
        have hz := hEq.frozen
        go_wp2
        go_region
        go_wp2
        clear c0 c1 c2 c3 c4 d0 d1 d2 d3 d4 hz
        go_roundw
        case rel =>
          refine ⟨j, swapL dk i j x y, by go_num, hjn, (swapL_length dk i j x y).trans HL.out, (hEq.swap Hx.out Hy.out).drew, (swapL_perm dk i j x y (by omega) Hx.out Hy.out).trans hP, hR.step Ent.orderly hi0 Hj.out Hx.out Hy.out Hv.out, ?_⟩
          exact ((((hK.trans (KeptF.of_below hbl))).setEnt (.inl rfl) i y).setEnt (.inl rfl) j x).drew
        case measure => simp [intOf]; omega

theorem method_day (a : Addr) (w : World) : (method 319 152 (.pointer (some a)) "horizon/horizon.before").run Try.prog w = .ok (126, .pointer (some a)) w := by kernel_rfl

theorem below_drewN (w : World) (n : Nat) : Below w.heap.size w (w.drewN n) := ⟨rfl, rfl, rfl, Nat.le_refl _, fun _ _ => rfl⟩

theorem dayBefore_grown (x y : Dy) (w : World) (v : Bool) (hv : x.ltB y = v) (hx : w.cell? ⟨x.kb, 0, none⟩ = some (.int .i64 x.date)) (hy : w.cell? ⟨y.kb, 0, none⟩ = some (.int .i64 y.date)) (p : Regrown) :
    Calls Try.prog 126 #[.pointer (some ⟨x.kb, 0, none⟩), .pointer (some ⟨y.kb, 0, none⟩)] (grow (redrawn w p.d) p.os) fun e w'' => e = .returned (.bool v) ∧ ∃ p : Regrown, w'' = grow (redrawn w p.d) p.os := by
  subst hv
  refine Calls.regrown_of ((dayBefore_any x.kb 0 y.kb 0 x.date y.date _ (cell_regrown hx _ _) (cell_regrown hy _ _)).mono ?_)
  rintro e w' ⟨he, n, hw⟩
  rw [hw]
  exact ⟨he, below_drewN _ n⟩

theorem Dated.keep {w w' : World} {b : Nat} {d d' : List Dy} (h : Dated w d) (hb : ∀ e ∈ d, e.kb ≠ b) (hP : d'.Perm d) (hK : KeptF (· = b) w w') : Dated w' d' := by
  intro e he
  have he' := hP.mem_iff.1 he
  rw [hK.cell (block_lt_of_cell (h e he')) (hb e he')]
  exact h e he'

set_option maxRecDepth 100000 in
set_option maxHeartbeats 4000000 in
theorem riseD_any (b n cap T i0 : Nat) (d : List Dy) (w : World) (hA : DArr w b T cap d) (hD : Dated w d) (hB : ∀ e ∈ d, e.kb ≠ b) (hd : d.length = n) (hi : i0 < n) (hn : n ≤ 2932031007317) (hI : RiseInv Dy.ltB d i0) :
    Calls Try.prog 103 #[.slice (some ⟨b, 0, none⟩) n cap, .int .i64 i0] w fun e w' => e = .returned (.tuple #[]) ∧ ∃ d', DArr w' b T cap d' ∧ d'.Perm d ∧ HeapL Dy.ltB d' ∧ KeptF (· = b) w w' := by
  have hm := method_day
  go_enter Try.func103, Try.ntmps103
  go_wp2
  go_loopw [1] (fun si wr => ∃ (i : Nat) (dk : List Dy), si = .int .i64 i ∧ i < n ∧ Hid (dk.length = n) ∧ DArr wr b T cap dk ∧ dk.Perm d ∧ RiseInv Dy.ltB dk i ∧ KeptF (· = b) w wr) (fun si _ => (intOf si).toNat)
  case atStart => exact ⟨i0, d, rfl, hi, hd, hA, List.Perm.refl _, hI, KeptF.refl _ _⟩
  case round =>
    obtain ⟨i, dk, rfl, hin, HL, hE, hP, hR, hK⟩ := hrel
    have hDk := hD.keep hB hP hK
    clear hA hI hd hi hD
    by_cases hz : i = 0
    · subst hz
      go_wp2
      go_end0
      exact ⟨rfl, dk, hE, hP, hR.done0, hK⟩
    · have hi0 : 0 < i := Nat.pos_of_ne_zero hz
      obtain ⟨j, hj⟩ : ∃ j, j = (i - 1) / 2 := ⟨_, rfl⟩
      have hjN : ((i : Int) - 1) / 2 = j := by omega
      have hji : j < i := by omega
      have hjn : j < n := by omega
      have Hj : Hid (j = (i - 1) / 2) := hj
      clear hj
      obtain ⟨x, hx⟩ := get_of_lt (d := dk) (k := i) (by have := HL.out; omega)
      obtain ⟨y, hy⟩ := get_of_lt (d := dk) (k := j) (by have := HL.out; omega)
      have c0 := hE.cells hx
      have d0 := hE.cells hy
      have c1 := hDk x (List.mem_of_getElem? hx)
      have d1 := hDk y (List.mem_of_getElem? hy)
      have Hx : Hid (dk[i]? = some x) := hx
      have Hy : Hid (dk[j]? = some y) := hy
      clear hx hy
      have k0 := cell_regrown c0
      have l0 := cell_regrown d0
      cases hv : x.ltB y with
      | false =>
        have Hv : Hid (x.ltB y = false) := hv
        have hcall := dayBefore_grown x y wr false hv c1 d1
        clear hv c1 d1
        go_wp2
        refine wp_region_quiet_below (by kernel_rfl) (by kernel_rfl) ?_
        repeat (quiet_step (exact hcall _))
        refine wpQuiet_nil ?_
        intro wq hw'
        have hbl := below_of_regrown hw'
        clear hw' k0 l0 c0 d0 hcall hm
        go_wp2
        exact bodyPost_ret (results_none rfl _ _ _) rfl ⟨rfl, dk, hE.keep (KeptF.of_below (F := fun _ => False) hbl) (fun h => h), hP, hR.done Hx.out (by rw [← Hj.out]; exact Hy.out) Hv.out, hK.trans (KeptF.of_below hbl)⟩
      | true =>
        have Hv : Hid (x.ltB y = true) := hv
        have hcall := dayBefore_grown x y wr true hv c1 d1
        clear hv c1 d1
        go_wp2
        refine wp_region_quiet_below (by kernel_rfl) (by kernel_rfl) ?_
        repeat (quiet_step (exact hcall _))
        refine wpQuiet_nil ?_
        intro wq hw'
        have hbl := below_of_regrown hw'
        have hEq : DArr wq b T cap dk := hE.keep (KeptF.of_below (F := fun _ => False) hbl) (fun h => h)
        clear hw' k0 l0 c0 d0 hcall hm
        have c0 := hEq.cells Hx.out
        have d0 := hEq.cells Hy.out
        have hz := hEq.frozen
        go_wp2
        go_region
        go_wp2
        clear c0 d0 hz
        go_roundw
        case rel =>
          refine ⟨j, swapL dk i j x y, by go_num, hjn, (swapL_length dk i j x y).trans HL.out, (hEq.swap Hx.out Hy.out).drew, (swapL_perm dk i j x y (by omega) Hx.out Hy.out).trans hP, hR.step Dy.orderly hi0 Hj.out Hx.out Hy.out Hv.out, ?_⟩
          exact ((((hK.trans (KeptF.of_below hbl))).setCell (p := ⟨b, i, none⟩) (.inl rfl) _).setCell (p := ⟨b, j, none⟩) (.inl rfl) _).drew
        case measure => simp [intOf]; omega

end Go.Proofs.Ytkobkilfbbalaaa

namespace Go.Proofs.Ytkobkilfbbalaaa
open Go.RowKit Go.Sort

/-- what the inner loop of sink has found: m is the least of i and those children that were looked at (below bl) -/
structure Found {α : Type} (lt : α → α → Bool) (d : List α) (n i m bl : Nat) : Prop where
  lo : 2 * i + 1 ≤ bl
  hi : bl ≤ 2 * i + 3
  at_ : m = i ∨ (2 * i + 1 ≤ m ∧ m < bl ∧ m < n)
  least : ∀ (k : Nat) (a x : α), (k = i ∨ (2 * i + 1 ≤ k ∧ k < bl)) → d[k]? = some a → d[m]? = some x → lt a x = false
  less : ∀ (a x : α), m ≠ i → d[m]? = some a → d[i]? = some x → lt a x = true

theorem Found.start {α : Type} {lt : α → α → Bool} (O : Orderly lt) (d : List α) (n i : Nat) : Found lt d n i i (2 * i + 1) :=
  ⟨by omega, by omega, .inl rfl, fun k a x hk ha hx => by
    rcases hk with hk | hk
    · subst hk; rw [ha] at hx; cases hx; exact O.irrefl _
    · omega, fun a x h => absurd rfl h⟩

/-- the element at bl is not less -/
theorem Found.stay {α : Type} {lt : α → α → Bool} {d : List α} {n i m bl : Nat} {x y : α} (h : Found lt d n i m bl) (hb : bl ≤ 2 * i + 2) (hx : d[bl]? = some x) (hy : d[m]? = some y) (hl : lt x y = false) :
    Found lt d n i m (bl + 1) := by
  refine ⟨by have := h.lo; omega, by omega, by rcases h.at_ with h' | h'; exact .inl h'; exact .inr ⟨h'.1, by omega, h'.2.2⟩, fun k a z hk ha hz => ?_, h.less⟩
  by_cases hkb : k = bl
  · subst hkb
    rw [hx] at ha; rw [hy] at hz
    cases ha; cases hz; exact hl
  · exact h.least k a z (by omega) ha hz

/-- the element at bl is less -/
theorem Found.turn {α : Type} {lt : α → α → Bool} (O : Orderly lt) {d : List α} {n i m bl : Nat} {x y : α} (h : Found lt d n i m bl) (hb : bl ≤ 2 * i + 2) (hbn : bl < n) (hx : d[bl]? = some x) (hy : d[m]? = some y) (hl : lt x y = true) :
    Found lt d n i bl (bl + 1) := by
  refine ⟨by have := h.lo; omega, by omega, .inr ⟨h.lo, by omega, hbn⟩, fun k a z hk ha hz => ?_, fun a z hne ha hz => ?_⟩
  · rw [hx] at hz; cases hz
    by_cases hkb : k = bl
    · subst hkb; rw [hx] at ha; cases ha; exact O.irrefl _
    · exact O.ntrans x y a (O.asymm x y hl) (h.least k a y (by omega) ha hy)
  · rw [hx] at ha; cases ha
    -- x < y, y is not more than d[i]
    have h1 := h.least i z y (.inl rfl) hz hy
    cases h2 : lt x z with
    | true => rfl
    | false =>
      have := O.ntrans y z x h1 h2
      rw [hl] at this; cases this

theorem Found.doneEq {α : Type} {lt : α → α → Bool} {d : List α} {n i bl : Nat} (h : Found lt d n i i bl) (hn : d.length = n) (hb : ¬ (bl ≤ 2 * i + 2 ∧ bl < n)) (hS : SinkInv lt d i) : HeapL lt d := by
  refine hS.done (fun k a x hk hp ha hx => h.least k a x ?_ ha hx)
  have := get_lt ha
  have := h.lo
  have := h.hi
  omega

theorem Found.minChild {α : Type} {lt : α → α → Bool} {d : List α} {n i m bl : Nat} {y : α} (h : Found lt d n i m bl) (hn : d.length = n) (hb : ¬ (bl ≤ 2 * i + 2 ∧ bl < n)) (hy : d[m]? = some y) :
    ∀ k a, 0 < k → (k - 1) / 2 = i → d[k]? = some a → lt a y = false := by
  intro k a hk hp ha
  have := get_lt ha
  have := h.lo
  have := h.hi
  exact h.least k a y (by omega) ha hy

set_option maxRecDepth 100000 in
set_option maxHeartbeats 8000000 in
theorem sinkE_any (b n cap T : Nat) (d : List Ent) (w : World) (hA : EArr w b T cap d) (hd : d.length = n) (hn : n ≤ 2932031007317) (hI : SinkInv Ent.ltB d 0) :
    Calls Try.prog 87 #[.slice (some ⟨b, 0, none⟩) n cap, .int .i64 0] w fun e w' => e = .returned (.tuple #[]) ∧ ∃ d', EArr w' b T cap d' ∧ d'.Perm d ∧ HeapL Ent.ltB d' ∧ KeptF (· = b) w w' := by
  have hm := method_ent
  go_enter Try.func87, Try.ntmps87
  go_wp2
  go_loopw [1] (fun si wr => ∃ (i : Nat) (dk : List Ent), si = .int .i64 i ∧ i ≤ n ∧ (i < n ∨ n = 0) ∧ Hid (dk.length = n) ∧ EArr wr b T cap dk ∧ dk.Perm d ∧ SinkInv Ent.ltB dk i ∧ KeptF (· = b) w wr) (fun si _ => n - (intOf si).toNat)
  case atStart => exact ⟨0, d, rfl, by omega, by omega, hd, hA, List.Perm.refl _, hI, KeptF.refl _ _⟩
  case round =>
    obtain ⟨i, dk, rfl, hin, hin', HL, hE, hP, hS, hK⟩ := hrel
    obtain ⟨w1, hw1⟩ : ∃ w1, w1 = wr := ⟨_, rfl⟩
    subst hw1
    clear hA hI hd
    go_wp2
    go_loopw [4, 5] (fun sl sb w2 => ∃ (m bl : Nat), sl = .int .i64 m ∧ sb = .int .i64 bl ∧ m ≤ 2 * i + 2 ∧ 2 * i + 1 ≤ bl ∧ bl ≤ 2 * i + 3 ∧ Found Ent.ltB dk n i m bl ∧ Below w1.heap.size w1 w2) (fun _ sb _ => 2 * i + 3 - (intOf sb).toNat)
    case atStart => exact ⟨i, 2 * i + 1, rfl, by go_num, by omega, by omega, by omega, Found.start Ent.orderly dk n i, Below.refl _ _⟩
    case round =>
      obtain ⟨m, bl, rfl, rfl, hm2, hbl, hbh, hF, hB2⟩ := hrel
      obtain ⟨w2, hw2⟩ : ∃ w2, w2 = wr := ⟨_, rfl⟩
      subst hw2
      have hE2 : EArr w2 b T cap dk := hE.keep (KeptF.of_below (F := fun _ => False) hB2) (fun h => h)
      by_cases c1 : bl ≤ 2 * i + 2
      · by_cases c2 : bl < n
        · have hmn : m < n := by rcases hF.at_ with h | h <;> omega
          obtain ⟨x, hx⟩ := get_of_lt (d := dk) (k := bl) (by have := HL.out; omega)
          obtain ⟨y, hy⟩ := get_of_lt (d := dk) (k := m) (by have := HL.out; omega)
          obtain ⟨c0, c1', c2', c3, c4⟩ := hE2.cells hx
          obtain ⟨d0, d1, d2, d3, d4⟩ := hE2.cells hy
          have Hx : Hid (dk[bl]? = some x) := hx
          have Hy : Hid (dk[m]? = some y) := hy
          clear hx hy
          have k0 := cell_regrown c0
          have k1 := cell_regrown c1'
          have k2 := cell_regrown c2'
          have k3 := cell_regrown c3
          have k4 := cell_regrown c4
          have l0 := cell_regrown d0
          have l1 := cell_regrown d1
          have l2 := cell_regrown d2
          have l3 := cell_regrown d3
          have l4 := cell_regrown d4
          cases hv : x.ltB y with
          | false =>
            have Hv : Hid (x.ltB y = false) := hv
            have hcall := before_grown x y w2 false hv
            clear hv
            go_wp2
            refine wp_region_quiet_below (by kernel_rfl) (by kernel_rfl) ?_
            repeat (quiet_step (exact hcall _))
            refine wpQuiet_nil ?_
            intro wq hw'
            have hbl := below_of_regrown hw'
            clear hw' k0 k1 k2 k3 k4 l0 l1 l2 l3 l4 c0 c1' c2' c3 c4 d0 d1 d2 d3 d4 hcall hm
            go_wp2
            go_roundw
            case rel => exact ⟨m, bl + 1, rfl, by go_num, hm2, by omega, by omega, hF.stay c1 Hx.out Hy.out Hv.out, hB2.trans (hbl.mono hB2.size)⟩
            case measure => simp [intOf]; omega
          | true =>
            have Hv : Hid (x.ltB y = true) := hv
            have hcall := before_grown x y w2 true hv
            clear hv
            go_wp2
            refine wp_region_quiet_below (by kernel_rfl) (by kernel_rfl) ?_
            repeat (quiet_step (exact hcall _))
            refine wpQuiet_nil ?_
            intro wq hw'
            have hbl := below_of_regrown hw'
            clear hw' k0 k1 k2 k3 k4 l0 l1 l2 l3 l4 c0 c1' c2' c3 c4 d0 d1 d2 d3 d4 hcall hm
            go_wp2
            go_roundw
            case rel => exact ⟨bl, bl + 1, rfl, by go_num, by omega, by omega, by omega, hF.turn Ent.orderly c1 c2 Hx.out Hy.out Hv.out, hB2.trans (hbl.mono hB2.size)⟩
            case measure => simp [intOf]; omega
        · have hout : ¬ (bl ≤ 2 * i + 2 ∧ bl < n) := fun h => c2 h.2
          by_cases hmi : m = i
          · subst hmi
            go_wp2
            exact bodyPost_ret (results_none rfl _ _ _) rfl ⟨rfl, dk, hE2, hP, hF.doneEq HL.out hout hS, hK.trans (KeptF.of_below hB2)⟩
          · have hmi' : ((m : Int) == (i : Int)) = false := beq_eq_false_iff_ne.2 (by omega)
            have hat : 2 * i + 1 ≤ m ∧ m < bl ∧ m < n := by rcases hF.at_ with h | h; exact absurd h hmi; exact h
            have hmn : m < n := hat.2.2
            have him : i < m := by omega
            have hin2 : i < n := by omega
            obtain ⟨x, hx⟩ := get_of_lt (d := dk) (k := i) (by have := HL.out; omega)
            obtain ⟨y, hy⟩ := get_of_lt (d := dk) (k := m) (by have := HL.out; omega)
            obtain ⟨c0, c1', c2', c3, c4⟩ := hE2.cells hx
            obtain ⟨d0, d1, d2, d3, d4⟩ := hE2.cells hy
            have Hx : Hid (dk[i]? = some x) := hx
            have Hy : Hid (dk[m]? = some y) := hy
            clear hx hy hm
            have hz := hE2.frozen
            go_wp2
            go_region
            go_wp2
            clear c0 c1' c2' c3 c4 d0 d1 d2 d3 d4 hz
            go_roundw
            case rel =>
              refine ⟨m, swapL dk i m x y, by go_num, by omega, .inl hmn, (swapL_length dk i m x y).trans HL.out, (hE2.swap Hx.out Hy.out).drew, (swapL_perm dk i m x y (by omega) Hx.out Hy.out).trans hP, hS.step Ent.orderly (by omega) (by omega) Hx.out Hy.out (hF.less y x hmi Hy.out Hx.out) (hF.minChild HL.out hout Hy.out), ?_⟩
              exact ((((hK.trans (KeptF.of_below hB2))).setEnt (.inl rfl) i y).setEnt (.inl rfl) m x).drew
            case measure => simp [intOf]; omega
      · have hout : ¬ (bl ≤ 2 * i + 2 ∧ bl < n) := fun h => c1 h.1
        have c1d : decide ((bl : Int) ≤ 2 * (i : Int) + 2) = false := decide_eq_false (by omega)
        by_cases hmi : m = i
        · subst hmi
          go_wp2
          exact bodyPost_ret (results_none rfl _ _ _) rfl ⟨rfl, dk, hE2, hP, hF.doneEq HL.out hout hS, hK.trans (KeptF.of_below hB2)⟩
        · have hmi' : ((m : Int) == (i : Int)) = false := beq_eq_false_iff_ne.2 (by omega)
          have hat : 2 * i + 1 ≤ m ∧ m < bl ∧ m < n := by rcases hF.at_ with h | h; exact absurd h hmi; exact h
          have hmn : m < n := hat.2.2
          have him : i < m := by omega
          have hin2 : i < n := by omega
          obtain ⟨x, hx⟩ := get_of_lt (d := dk) (k := i) (by have := HL.out; omega)
          obtain ⟨y, hy⟩ := get_of_lt (d := dk) (k := m) (by have := HL.out; omega)
          obtain ⟨c0, c1', c2', c3, c4⟩ := hE2.cells hx
          obtain ⟨d0, d1, d2, d3, d4⟩ := hE2.cells hy
          have Hx : Hid (dk[i]? = some x) := hx
          have Hy : Hid (dk[m]? = some y) := hy
          clear hx hy hm
          have hz := hE2.frozen
          go_wp2
          go_region
          go_wp2
          clear c0 c1' c2' c3 c4 d0 d1 d2 d3 d4 hz
          go_roundw
          case rel =>
            refine ⟨m, swapL dk i m x y, by go_num, by omega, .inl hmn, (swapL_length dk i m x y).trans HL.out, (hE2.swap Hx.out Hy.out).drew, (swapL_perm dk i m x y (by omega) Hx.out Hy.out).trans hP, hS.step Ent.orderly (by omega) (by omega) Hx.out Hy.out (hF.less y x hmi Hy.out Hx.out) (hF.minChild HL.out hout Hy.out), ?_⟩
            exact ((((hK.trans (KeptF.of_below hB2))).setEnt (.inl rfl) i y).setEnt (.inl rfl) m x).drew
          case measure => simp [intOf]; omega

set_option maxRecDepth 100000 in
set_option maxHeartbeats 8000000 in
theorem sinkD_any (b n cap T : Nat) (d : List Dy) (w : World) (hA : DArr w b T cap d) (hD : Dated w d) (hB : ∀ e ∈ d, e.kb ≠ b) (hd : d.length = n) (hn : n ≤ 2932031007317) (hI : SinkInv Dy.ltB d 0) :
    Calls Try.prog 88 #[.slice (some ⟨b, 0, none⟩) n cap, .int .i64 0] w fun e w' => e = .returned (.tuple #[]) ∧ ∃ d', DArr w' b T cap d' ∧ d'.Perm d ∧ HeapL Dy.ltB d' ∧ KeptF (· = b) w w' := by
  have hm := method_day
  go_enter Try.func88, Try.ntmps88
  go_wp2
  go_loopw [1] (fun si wr => ∃ (i : Nat) (dk : List Dy), si = .int .i64 i ∧ i ≤ n ∧ (i < n ∨ n = 0) ∧ Hid (dk.length = n) ∧ DArr wr b T cap dk ∧ dk.Perm d ∧ SinkInv Dy.ltB dk i ∧ KeptF (· = b) w wr) (fun si _ => n - (intOf si).toNat)
  case atStart => exact ⟨0, d, rfl, by omega, by omega, hd, hA, List.Perm.refl _, hI, KeptF.refl _ _⟩
  case round =>
    obtain ⟨i, dk, rfl, hin, hin', HL, hE, hP, hS, hK⟩ := hrel
    obtain ⟨w1, hw1⟩ : ∃ w1, w1 = wr := ⟨_, rfl⟩
    subst hw1
    have hDk := hD.keep hB hP hK
    clear hA hI hd hD hB
    go_wp2
    go_loopw [4, 5] (fun sl sb w2 => ∃ (m bl : Nat), sl = .int .i64 m ∧ sb = .int .i64 bl ∧ m ≤ 2 * i + 2 ∧ 2 * i + 1 ≤ bl ∧ bl ≤ 2 * i + 3 ∧ Found Dy.ltB dk n i m bl ∧ Below w1.heap.size w1 w2) (fun _ sb _ => 2 * i + 3 - (intOf sb).toNat)
    case atStart => exact ⟨i, 2 * i + 1, rfl, by go_num, by omega, by omega, by omega, Found.start Dy.orderly dk n i, Below.refl _ _⟩
    case round =>
      obtain ⟨m, bl, rfl, rfl, hm2, hbl, hbh, hF, hB2⟩ := hrel
      obtain ⟨w2, hw2⟩ : ∃ w2, w2 = wr := ⟨_, rfl⟩
      subst hw2
      have hE2 : DArr w2 b T cap dk := hE.keep (KeptF.of_below (F := fun _ => False) hB2) (fun h => h)
      by_cases c1 : bl ≤ 2 * i + 2
      · by_cases c2 : bl < n
        · have hmn : m < n := by rcases hF.at_ with h | h <;> omega
          obtain ⟨x, hx⟩ := get_of_lt (d := dk) (k := bl) (by have := HL.out; omega)
          obtain ⟨y, hy⟩ := get_of_lt (d := dk) (k := m) (by have := HL.out; omega)
          have c0 := hE2.cells hx
          have d0 := hE2.cells hy
          have Hx : Hid (dk[bl]? = some x) := hx
          have Hy : Hid (dk[m]? = some y) := hy
          clear hx hy
          have k0 := cell_regrown c0
          have l0 := cell_regrown d0
          have c1' : w2.cell? ⟨x.kb, 0, none⟩ = some (.int .i64 x.date) := by rw [hB2.cell (block_lt_of_cell (hDk x (List.mem_of_getElem? Hx.out)))]; exact hDk x (List.mem_of_getElem? Hx.out)
          have d1 : w2.cell? ⟨y.kb, 0, none⟩ = some (.int .i64 y.date) := by rw [hB2.cell (block_lt_of_cell (hDk y (List.mem_of_getElem? Hy.out)))]; exact hDk y (List.mem_of_getElem? Hy.out)
          cases hv : x.ltB y with
          | false =>
            have Hv : Hid (x.ltB y = false) := hv
            have hcall := dayBefore_grown x y w2 false hv c1' d1
            clear hv
            go_wp2
            refine wp_region_quiet_below (by kernel_rfl) (by kernel_rfl) ?_
            repeat (quiet_step (exact hcall _))
            refine wpQuiet_nil ?_
            intro wq hw'
            have hbl := below_of_regrown hw'
            clear hw' k0 l0 c0 c1' d0 d1 hcall hm
            go_wp2
            go_roundw
            case rel => exact ⟨m, bl + 1, rfl, by go_num, hm2, by omega, by omega, hF.stay c1 Hx.out Hy.out Hv.out, hB2.trans (hbl.mono hB2.size)⟩
            case measure => simp [intOf]; omega
          | true =>
            have Hv : Hid (x.ltB y = true) := hv
            have hcall := dayBefore_grown x y w2 true hv c1' d1
            clear hv
            go_wp2
            refine wp_region_quiet_below (by kernel_rfl) (by kernel_rfl) ?_
            repeat (quiet_step (exact hcall _))
            refine wpQuiet_nil ?_
            intro wq hw'
            have hbl := below_of_regrown hw'
            clear hw' k0 l0 c0 c1' d0 d1 hcall hm
            go_wp2
            go_roundw
            case rel => exact ⟨bl, bl + 1, rfl, by go_num, by omega, by omega, by omega, hF.turn Dy.orderly c1 c2 Hx.out Hy.out Hv.out, hB2.trans (hbl.mono hB2.size)⟩
            case measure => simp [intOf]; omega
        · have hout : ¬ (bl ≤ 2 * i + 2 ∧ bl < n) := fun h => c2 h.2
          by_cases hmi : m = i
          · subst hmi
            go_wp2
            exact bodyPost_ret (results_none rfl _ _ _) rfl ⟨rfl, dk, hE2, hP, hF.doneEq HL.out hout hS, hK.trans (KeptF.of_below hB2)⟩
          · have hmi' : ((m : Int) == (i : Int)) = false := beq_eq_false_iff_ne.2 (by omega)
            have hat : 2 * i + 1 ≤ m ∧ m < bl ∧ m < n := by rcases hF.at_ with h | h; exact absurd h hmi; exact h
            have hmn : m < n := hat.2.2
            have him : i < m := by omega
            have hin2 : i < n := by omega
            obtain ⟨x, hx⟩ := get_of_lt (d := dk) (k := i) (by have := HL.out; omega)
            obtain ⟨y, hy⟩ := get_of_lt (d := dk) (k := m) (by have := HL.out; omega)
            have c0 := hE2.cells hx
            have d0 := hE2.cells hy
            have Hx : Hid (dk[i]? = some x) := hx
            have Hy : Hid (dk[m]? = some y) := hy
            clear hx hy hm
            have hz := hE2.frozen
            go_wp2
            go_region
            go_wp2
            clear c0 d0 hz
            go_roundw
            case rel =>
              refine ⟨m, swapL dk i m x y, by go_num, by omega, .inl hmn, (swapL_length dk i m x y).trans HL.out, (hE2.swap Hx.out Hy.out).drew, (swapL_perm dk i m x y (by omega) Hx.out Hy.out).trans hP, hS.step Dy.orderly (by omega) (by omega) Hx.out Hy.out (hF.less y x hmi Hy.out Hx.out) (hF.minChild HL.out hout Hy.out), ?_⟩
              exact ((((hK.trans (KeptF.of_below hB2))).setCell (p := ⟨b, i, none⟩) (.inl rfl) _).setCell (p := ⟨b, m, none⟩) (.inl rfl) _).drew
            case measure => simp [intOf]; omega
      · have hout : ¬ (bl ≤ 2 * i + 2 ∧ bl < n) := fun h => c1 h.1
        have c1d : decide ((bl : Int) ≤ 2 * (i : Int) + 2) = false := decide_eq_false (by omega)
        by_cases hmi : m = i
        · subst hmi
          go_wp2
          exact bodyPost_ret (results_none rfl _ _ _) rfl ⟨rfl, dk, hE2, hP, hF.doneEq HL.out hout hS, hK.trans (KeptF.of_below hB2)⟩
        · have hmi' : ((m : Int) == (i : Int)) = false := beq_eq_false_iff_ne.2 (by omega)
          have hat : 2 * i + 1 ≤ m ∧ m < bl ∧ m < n := by rcases hF.at_ with h | h; exact absurd h hmi; exact h
          have hmn : m < n := hat.2.2
          have him : i < m := by omega
          have hin2 : i < n := by omega
          obtain ⟨x, hx⟩ := get_of_lt (d := dk) (k := i) (by have := HL.out; omega)
          obtain ⟨y, hy⟩ := get_of_lt (d := dk) (k := m) (by have := HL.out; omega)
          have c0 := hE2.cells hx
          have d0 := hE2.cells hy
          have Hx : Hid (dk[i]? = some x) := hx
          have Hy : Hid (dk[m]? = some y) := hy
          clear hx hy hm
          have hz := hE2.frozen
          go_wp2
          go_region
          go_wp2
          clear c0 d0 hz
          go_roundw
          case rel =>
            refine ⟨m, swapL dk i m x y, by go_num, by omega, .inl hmn, (swapL_length dk i m x y).trans HL.out, (hE2.swap Hx.out Hy.out).drew, (swapL_perm dk i m x y (by omega) Hx.out Hy.out).trans hP, hS.step Dy.orderly (by omega) (by omega) Hx.out Hy.out (hF.less y x hmi Hy.out Hx.out) (hF.minChild HL.out hout Hy.out), ?_⟩
            exact ((((hK.trans (KeptF.of_below hB2))).setCell (p := ⟨b, i, none⟩) (.inl rfl) _).setCell (p := ⟨b, m, none⟩) (.inl rfl) _).drew
          case measure => simp [intOf]; omega


end Go.Proofs.Ytkobkilfbbalaaa

namespace Go.Proofs.Ytkobkilfbbalaaa
open Go.RowKit

theorem World.ownsRow_mono {w : World} {B B' : Nat} {e : TypeId} {size : Nat} {v : Value} {n : Nat} {xs : List Value} (h : w.ownsRow B e size v n xs) (hB : B' ≤ B) : w.ownsRow B' e size v n xs := by
  obtain ⟨h1, h2⟩ := h
  refine ⟨h1, ?_⟩
  rcases h2 with h2 | ⟨g, cap, cur, hv, hg, r⟩
  · exact .inl h2
  · exact .inr ⟨g, cap, cur, hv, by omega, r⟩

theorem World.ownsRow_ge {w : World} {B : Nat} {e : TypeId} {size : Nat} {v : Value} {n : Nat} {xs : List Value} (h : w.ownsRow B e size v n xs) (g : Nat) (hg : v.ownBlock = some g) : B ≤ g := (h.lt g hg).1

/-- append to a row of one's own: where the new value's block lies is said, too -/
theorem run_append_ownX {P : Program} (w : World) (base : Nat) (t ty e : TypeId) (i : TypeInfo) (z : Value) (size bytes : Nat) (ht : P.underlying t = some (.slice e)) (hi : P.info? e = some i) (hz : i.zero = some z)
    (hsize : i.size = size) (hby : i.bytes = bytes) (hzs : z.cells.size = size) (hsz : 0 < size)
    (v : Value) (n : Nat) (xs : List Value) (hown : w.ownsRow base e size v n xs)
    (a : Addr) (m c : Nat) (news : List Value) (hl : news.length = m * size) (hnews : ∀ j u, news[j]? = some u → w.cell? (a.add j) = some u) (h1 : ∀ u ∈ news, u.oneCell' = true)
    (h63 : n + m ≤ maxLen) (hbytes : (n + m) * bytes ≤ 140737488355328) (hbase : base ≤ w.heap.size) :
    ∃ v' w', (Builtin.append_ #[t, t] ty #[v, .slice (some a) m c]).run P w = .ok v' w' ∧ w'.ownsRow base e size v' (n + m) (xs ++ news) ∧ w.grownBy w' v.ownBlock ∧
      (∀ g, v'.ownBlock = some g → v.ownBlock = some g ∨ w.heap.size ≤ g) := by
  rcases hown.2 with ⟨hv, hn⟩ | ⟨g, cap, cur, hv, hbg, hg, hnc, hcm, hcs, htake⟩
  · subst hv; subst hn
    have hx : xs = [] := List.eq_nil_of_length_eq_zero (by simpa using hown.1)
    subst hx
    obtain ⟨v', w', r, r1, r2, _⟩ := run_append_own (P := P) w w.heap.size t ty e i z size bytes ht hi hz hsize hby hzs hsz (.slice none 0 0) 0 [] (World.ownsRow_nil w _ e size) a m c news hl hnews h1 h63 hbytes (Nat.le_refl _)
    exact ⟨v', w', r, World.ownsRow_mono r1 hbase, r2, fun g h => .inr (World.ownsRow_ge r1 g h)⟩
  · by_cases hroom : n + m ≤ cap
    · obtain ⟨v', w', r, r1, r2, _⟩ := run_append_own (P := P) w base t ty e i z size bytes ht hi hz hsize hby hzs hsz v n xs hown a m c news hl hnews h1 h63 hbytes hbase
      subst hv
      have hfit : n * i.size + news.length ≤ cur.size := by rw [hl, hcs, hsize, ← Nat.add_mul]; exact Nat.mul_le_mul_right _ hroom
      have hr := run_append_room (P := P) w t ty e i ht hi g n cap cur hg a m c news (by rw [hsize]; exact hl) hnews h1 hroom hfit
      have he := r.symm.trans hr
      simp only [Result.ok.injEq] at he
      refine ⟨v', w', r, r1, r2, fun k hk => .inl ?_⟩
      rw [he.1] at hk
      exact hk
    · subst hv
      obtain ⟨v', w', r, r1, r2⟩ := run_append_arg_grows (P := P) w t ty e i z size bytes ht hi hz hsize hby hzs hsz ⟨g, 0, none⟩ n cap xs hown.1 (hown.cells (g := g) rfl) a m c news hl hnews (by omega) h63 hbytes
      exact ⟨v', w', r, World.ownsRow_mono r1 hbase, ⟨r2.os, r2.tape, r2.output, r2.size, fun k hk _ => r2.block k hk (by simp)⟩, fun k hk => .inr (World.ownsRow_ge r1 k hk)⟩

theorem wpList_append_ownX {P : Program} {w : World} {ops : Array Oper} {rest : List Oper} {o : Oper} {a : Act} {Q : Exit → Act → World → Prop} (hgd : o.guard = none) (s x : Operand) (t : TypeId)
    (ho : o.op = .call { callee := .builtin .append, args := #[s, x], argTypes := #[t, t] })
    (base : Nat) (e : TypeId) (i : TypeInfo) (z : Value) (size bytes : Nat) (ht : P.underlying t = some (.slice e)) (hi : P.info? e = some i) (hz : i.zero = some z)
    (hsize : i.size = size) (hby : i.bytes = bytes) (hzs : z.cells.size = size) (hsz : 0 < size)
    (v : Value) (n : Nat) (xs : List Value) (hs : a.eval s = v) (hown : w.ownsRow base e size v n xs)
    (ad : Addr) (m c : Nat) (news : List Value) (hx : a.eval x = .slice (some ad) m c) (hl : news.length = m * size) (hnews : ∀ j u, news[j]? = some u → w.cell? (ad.add j) = some u) (h1 : ∀ u ∈ news, u.oneCell' = true)
    (h63 : n + m ≤ maxLen) (hbytes : (n + m) * bytes ≤ 140737488355328) (hbase : base ≤ w.heap.size)
    (h : ∀ v' w', w'.ownsRow base e size v' (n + m) (xs ++ news) → w.grownBy w' v.ownBlock → (∀ g, v'.ownBlock = some g → v.ownBlock = some g ∨ w.heap.size ≤ g) → wpList P ops Q rest (a.put o.dst v') w') : wpList P ops Q (o :: rest) a w :=
  wpList_plain hgd fun _ hK => by
    obtain ⟨v', w', hr, r1, r2, r3⟩ := run_append_ownX (P := P) w base t o.type e i z size bytes ht hi hz hsize hby hzs hsz v n xs hown ad m c news hl hnews h1 h63 hbytes hbase
    unfold Oper.wp execOp
    simp only [ho, resolve, invoke, builtin, Sem.run_bind, Sem.run_pure, Result.andThen_ok, List.map_toArray, List.map_cons, List.map_nil, hs, hx, hr]
    exact hK _ _ (h v' w' r1 r2 r3)

theorem step_append_own {P : Program} {ops : Array Oper} {o : Oper} {a : Act} {w : World} {K : Act → World → Prop} {Q : Exit → Act → World → Prop} {E : Prop}
    (hg : o.guard = none) (s x : Operand) (t : TypeId) (hop : o.op = Op.call { callee := Callee.builtin Builtin.append, args := #[s, x], argTypes := #[t, t] })
    (base : Nat) (e : TypeId) (i : TypeInfo) (z : Value) (size bytes : Nat) (h1 : P.underlying t = some (.slice e)) (h2 : P.info? e = some i) (h3 : i.zero = some z) (h4 : i.size = size) (h5 : i.bytes = bytes) (h6 : z.cells.size = size) (h7 : 0 < size)
    (v : Value) (n : Nat) (xs : List Value) (hs : a.eval s = v) (hown : w.ownsRow base e size v n xs)
    (ad : Addr) (m c : Nat) (news : List Value) (hx : a.eval x = .slice (some ad) m c) (hn : news.length = m * size) (hc : ∀ j u, news[j]? = some u → w.cell? (ad.add j) = some u) (h1c : ∀ u ∈ news, u.oneCell' = true)
    (b1 : n + m ≤ maxLen) (b2 : (n + m) * bytes ≤ 140737488355328) (hbase : base ≤ w.heap.size)
    (hK : ∀ v' w', w'.ownsRow base e size v' (n + m) (xs ++ news) → w.grownBy w' v.ownBlock → (∀ g, v'.ownBlock = some g → v.ownBlock = some g ∨ w.heap.size ≤ g) → K (a.put o.dst v') w') :
    if Region.wanted o (yielded ops a.tmps) = true then Oper.wp P o a w K Q else E := by
  have hw : Region.wanted o (yielded ops a.tmps) = true := by simp [Region.wanted, hg]
  rw [if_pos hw]
  obtain ⟨v', w', hrun, r1, r2, r3⟩ := run_append_ownX (P := P) w base t o.type e i z size bytes h1 h2 h3 h4 h5 h6 h7 v n xs hown ad m c news hn hc h1c b1 b2 hbase
  unfold Oper.wp
  simp [execOp, hop, resolve, invoke, builtin, hs, hx, hrun, Result.andThen]
  exact hK v' w' r1 r2 r3

theorem ownsRow_keep {F : Nat → Prop} {w w' : World} {B : Nat} {e : TypeId} {size : Nat} {v : Value} {n : Nat} {xs : List Value} (h : w.ownsRow B e size v n xs) (k : KeptF F w w') (hF : ∀ g, v.ownBlock = some g → ¬ F g) : w'.ownsRow B e size v n xs := by
  obtain ⟨h1, h2⟩ := h
  refine ⟨h1, ?_⟩
  rcases h2 with h2 | ⟨g, cap, cur, hv, hg, hh, r⟩
  · exact .inl h2
  · refine .inr ⟨g, cap, cur, hv, hg, ?_, r⟩
    have : g < w.heap.size := Blk.lt hh
    rw [k.block g this (hF g (by rw [hv]; rfl))]
    exact hh

def entC (e : Ent) : List Value := [.int .i64 e.it.t, .int .i64 e.it.f, .int .i64 e.it.s, .int .i64 e.it.l, .int .i64 e.r]
def entsC : List Ent → List Value
  | [] => []
  | e :: d => entC e ++ entsC d

theorem entsC_length : ∀ d : List Ent, (entsC d).length = d.length * 5
  | [] => rfl
  | e :: d => by simp only [entsC, List.length_append, entsC_length d, List.length_cons]; simp only [entC, List.length_cons, List.length_nil]; omega

theorem entsC_append : ∀ (d d' : List Ent), entsC (d ++ d') = entsC d ++ entsC d'
  | [], d' => rfl
  | e :: d, d' => by simp only [List.cons_append, entsC, entsC_append d d', List.append_assoc]

theorem entsC_get : ∀ (d : List Ent) (j : Nat) (e : Ent) (k : Nat), d[j]? = some e → k < 5 → (entsC d)[j * 5 + k]? = (entC e)[k]?
  | [], j, e, k, h, _ => by simp at h
  | a :: d, 0, e, k, h, hk => by
    simp only [List.getElem?_cons_zero, Option.some.injEq] at h
    subst h
    simp only [entsC, Nat.zero_mul, Nat.zero_add]
    rw [List.getElem?_append_left (by simp [entC]; omega)]
  | a :: d, j + 1, e, k, h, hk => by
    simp only [List.getElem?_cons_succ] at h
    simp only [entsC]
    rw [List.getElem?_append_right (by simp [entC]; omega)]
    have : (j + 1) * 5 + k - (entC a).length = j * 5 + k := by simp [entC]; omega
    rw [this]
    exact entsC_get d j e k h hk

theorem ERow.of_take {c : Array Value} {d : List Ent} (h : c.toList.take (d.length * 5) = entsC d) : ERow c d := by
  intro j e he
  have hj := get_lt he
  have key : ∀ k, k < 5 → c[j * 5 + k]? = (entC e)[k]? := by
    intro k hk
    rw [← entsC_get d j e k he hk, ← h, List.getElem?_take_of_lt (by omega)]
    simp
  exact ⟨key 0 (by omega), key 1 (by omega), key 2 (by omega), key 3 (by omega), key 4 (by omega)⟩

theorem ERow.take {c : Array Value} {d : List Ent} (h : ERow c d) (hs : d.length * 5 ≤ c.size) : c.toList.take (d.length * 5) = entsC d := by
  apply List.ext_getElem?
  intro o
  by_cases ho : o < d.length * 5
  · rw [List.getElem?_take_of_lt ho]
    obtain ⟨e, he⟩ := get_of_lt (d := d) (k := o / 5) (by omega)
    have hk : o % 5 < 5 := Nat.mod_lt _ (by omega)
    have ho' : o = o / 5 * 5 + o % 5 := by omega
    rw [ho', entsC_get d (o / 5) e (o % 5) he hk]
    obtain ⟨h0, h1, h2, h3, h4⟩ := h (o / 5) e he
    have : o % 5 = 0 ∨ o % 5 = 1 ∨ o % 5 = 2 ∨ o % 5 = 3 ∨ o % 5 = 4 := by omega
    rcases this with hr | hr | hr | hr | hr <;> rw [hr]
    · simpa [entC] using h0
    · simpa [entC] using h1
    · simpa [entC] using h2
    · simpa [entC] using h3
    · simpa [entC] using h4
  · rw [List.getElem?_eq_none (by simp; omega), List.getElem?_eq_none (by rw [entsC_length]; omega)]

/-- A slice value that owns its row of entries, its block from B on. -/
def ESl (w : World) (B : Nat) (v : Value) (d : List Ent) : Prop := w.ownsRow B 156 5 v d.length (entsC d)

theorem ESl.nil (w : World) (B : Nat) : ESl w B (.slice none 0 0) [] := World.ownsRow_nil w B _ _

theorem ESl.cases {w : World} {B : Nat} {v : Value} {d : List Ent} (h : ESl w B v d) :
    (v = .slice none 0 0 ∧ d = []) ∨ ∃ g cap, v = .slice (some ⟨g, 0, none⟩) d.length cap ∧ B ≤ g ∧ cap ≤ maxLen ∧ EArr w g 156 cap d := by
  obtain ⟨h1, h2⟩ := h
  rcases h2 with ⟨h2, h3⟩ | ⟨g, cap, cur, hv, hB, hg, hn, hm, hs, ht⟩
  · exact .inl ⟨h2, List.eq_nil_of_length_eq_zero h3⟩
  · exact .inr ⟨g, cap, hv, hB, hm, ⟨⟨cur, hg, hs, ERow.of_take ht⟩, hn⟩⟩

theorem ESl.mk {w : World} {B g cap : Nat} {d : List Ent} (hB : B ≤ g) (hm : cap ≤ maxLen) (h : EArr w g 156 cap d) : ESl w B (.slice (some ⟨g, 0, none⟩) d.length cap) d := by
  obtain ⟨c, h1, h2, h3⟩ := h.ex
  exact ⟨entsC_length d, .inr ⟨g, cap, c, rfl, hB, h1, h.fits, hm, h2, h3.take (by have := h.fits; omega)⟩⟩

def dayC (d : List Dy) : List Value := d.map fun e => .pointer (some ⟨e.kb, 0, none⟩)
def DSl (w : World) (B : Nat) (v : Value) (d : List Dy) : Prop := w.ownsRow B 152 1 v d.length (dayC d)

theorem DSl.nil (w : World) (B : Nat) : DSl w B (.slice none 0 0) [] := World.ownsRow_nil w B _ _

theorem DSl.cases {w : World} {B : Nat} {v : Value} {d : List Dy} (h : DSl w B v d) :
    (v = .slice none 0 0 ∧ d = []) ∨ ∃ g cap, v = .slice (some ⟨g, 0, none⟩) d.length cap ∧ B ≤ g ∧ cap ≤ maxLen ∧ DArr w g 152 cap d := by
  obtain ⟨h1, h2⟩ := h
  rcases h2 with ⟨h2, h3⟩ | ⟨g, cap, cur, hv, hB, hg, hn, hm, hs, ht⟩
  · exact .inl ⟨h2, List.eq_nil_of_length_eq_zero h3⟩
  · refine .inr ⟨g, cap, hv, hB, hm, ⟨⟨cur, hg, by simpa using hs, fun j e he => ?_⟩, hn⟩⟩
    have hj := get_lt he
    have h3 : (dayC d)[j]? = some (.pointer (some ⟨e.kb, 0, none⟩)) := by simp [dayC, he]
    rw [← ht, List.getElem?_take_of_lt (by omega)] at h3
    simpa using h3

theorem DSl.mk {w : World} {B g cap : Nat} {d : List Dy} (hB : B ≤ g) (hm : cap ≤ maxLen) (h : DArr w g 152 cap d) : DSl w B (.slice (some ⟨g, 0, none⟩) d.length cap) d := by
  obtain ⟨c, h1, h2, h3⟩ := h.ex
  refine ⟨by simp [dayC], .inr ⟨g, cap, c, rfl, hB, h1, h.fits, hm, by omega, ?_⟩⟩
  apply List.ext_getElem?
  intro o
  by_cases ho : o < d.length
  · rw [List.getElem?_take_of_lt (by omega)]
    obtain ⟨e, he⟩ := get_of_lt ho
    have := h3 o e he
    simp [dayC, he]
    simpa using this
  · rw [List.getElem?_eq_none (by simp; omega), List.getElem?_eq_none (by simp [dayC]; omega)]

theorem KeptF.of_grown {F : Nat → Prop} {w w' : World} {row : Option Nat} (h : w.grownBy w' row) (hr : ∀ k, row = some k → k < w.heap.size → F k) : KeptF F w w' :=
  ⟨h.os, h.tape, h.output, h.size, fun k hk hF => h.block k hk (fun e => hF (hr k e.symm hk))⟩

end Go.Proofs.Ytkobkilfbbalaaa

