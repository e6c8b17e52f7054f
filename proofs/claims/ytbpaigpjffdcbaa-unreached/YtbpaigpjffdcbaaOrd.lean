/-
  Plain words: items, entries, and how they are ordered. Nothing of the program.
-/
namespace Go.Proofs.Ytbpaigpjffdcbaa

def cmpI (a b : Int) : Int := if a < b then -1 else if b < a then 1 else 0
def or3 (x y z : Int) : Int := if x = 0 then (if y = 0 then z else y) else x

structure It where
  t : Int
  f : Int
  s : Int
  l : Int

structure Ent where
  it : It
  r : Int

def It.cmp (x y : It) : Int := or3 (cmpI x.t y.t) (cmpI x.f y.f) (cmpI x.s y.s)
def Ent.ltB (x y : Ent) : Bool := if x.it.cmp y.it = 0 then decide (x.r < y.r) else decide (x.it.cmp y.it < 0)

theorem or3_x {x y z : Int} (h : x ≠ 0) : or3 x y z = x := by simp [or3, h]
theorem or3_y {y z : Int} (h : y ≠ 0) : or3 0 y z = y := by simp [or3, h]
theorem or3_z {z : Int} : or3 0 0 z = z := by simp [or3]

/-- 'ahead': by time, From, Seq. -/
def It.lt (x y : It) : Prop := x.t < y.t ∨ (x.t = y.t ∧ (x.f < y.f ∨ (x.f = y.f ∧ x.s < y.s)))
def It.same (x y : It) : Prop := x.t = y.t ∧ x.f = y.f ∧ x.s = y.s

theorem cmpI_neg {a b : Int} : cmpI a b < 0 ↔ a < b := by unfold cmpI; split <;> (try split) <;> omega
theorem cmpI_zero {a b : Int} : cmpI a b = 0 ↔ a = b := by unfold cmpI; split <;> (try split) <;> omega

theorem It.cmp_neg (x y : It) : x.cmp y < 0 ↔ x.lt y := by
  have h1 := @cmpI_neg x.t y.t
  have z1 := @cmpI_zero x.t y.t
  have h2 := @cmpI_neg x.f y.f
  have z2 := @cmpI_zero x.f y.f
  have h3 := @cmpI_neg x.s y.s
  have z3 := @cmpI_zero x.s y.s
  unfold It.cmp It.lt or3
  generalize cmpI x.t y.t = a at *
  generalize cmpI x.f y.f = b at *
  generalize cmpI x.s y.s = c at *
  split
  · split <;> omega
  · omega

theorem It.cmp_zero (x y : It) : x.cmp y = 0 ↔ x.same y := by
  have z1 := @cmpI_zero x.t y.t
  have z2 := @cmpI_zero x.f y.f
  have z3 := @cmpI_zero x.s y.s
  unfold It.cmp It.same or3
  generalize cmpI x.t y.t = a at *
  generalize cmpI x.f y.f = b at *
  generalize cmpI x.s y.s = c at *
  split
  · split <;> omega
  · omega

/-- The whole order of entries: strict and total but for equal keys and ranks. -/
def Ent.lt (x y : Ent) : Prop := x.it.lt y.it ∨ (x.it.same y.it ∧ x.r < y.r)

theorem Ent.ltB_iff (x y : Ent) : x.ltB y = true ↔ x.lt y := by
  unfold Ent.ltB Ent.lt
  have h1 := It.cmp_neg x.it y.it
  have h2 := It.cmp_zero x.it y.it
  rw [← h1, ← h2]
  split
  · simp only [decide_eq_true_eq]; omega
  · simp only [decide_eq_true_eq]; omega

theorem Ent.lt_trans {x y z : Ent} (h : x.lt y) (k : y.lt z) : x.lt z := by
  unfold Ent.lt It.lt It.same at *; omega
theorem Ent.lt_irrefl {x : Ent} : ¬ x.lt x := by
  unfold Ent.lt It.lt It.same; omega
/-- not less is kept along. -/
theorem Ent.not_lt_trans {x y z : Ent} (h : ¬ y.lt x) (k : ¬ z.lt y) : ¬ z.lt x := by
  unfold Ent.lt It.lt It.same at *; omega

theorem Ent.ltB_asymm {x y : Ent} (h : x.ltB y = true) : y.ltB x = false := by
  rw [Bool.eq_false_iff]; intro k
  rw [Ent.ltB_iff] at h k
  exact Ent.lt_irrefl (Ent.lt_trans h k)
theorem Ent.ltB_neg_trans {x y z : Ent} (h : y.ltB x = false) (k : z.ltB y = false) : z.ltB x = false := by
  rw [Bool.eq_false_iff] at *; intro m
  rw [Ne, Ent.ltB_iff] at h k
  rw [Ent.ltB_iff] at m
  exact Ent.not_lt_trans h k m

end Go.Proofs.Ytbpaigpjffdcbaa
