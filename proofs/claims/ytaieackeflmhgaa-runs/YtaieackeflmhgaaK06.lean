/-
  The reference's lists of items: Ahead, Least, Without; item and same of the statements.
-/
import Derived.Test.YtaieackeflmhgaaK03
namespace Go.Proofs.Ytaieackeflmhgaa
open Go.RowKit Go.Sort Go.Maps

def itC (x : It) : List Value := [.int .i64 x.t, .int .i64 x.f, .int .i64 x.s, .int .i64 x.l]
def itsC : List It → List Value
  | [] => []
  | x :: l => itC x ++ itsC l

theorem itsC_length : ∀ l : List It, (itsC l).length = l.length * 4
  | [] => rfl
  | x :: l => by simp only [itsC, List.length_append, itsC_length l, List.length_cons]; simp only [itC, List.length_cons, List.length_nil]; omega
theorem itsC_append : ∀ (l l' : List It), itsC (l ++ l') = itsC l ++ itsC l'
  | [], l' => rfl
  | x :: l, l' => by simp only [List.cons_append, itsC, itsC_append l l', List.append_assoc]
theorem itsC_get : ∀ (l : List It) (j : Nat) (x : It) (k : Nat), l[j]? = some x → k < 4 → (itsC l)[j * 4 + k]? = (itC x)[k]?
  | [], j, x, k, h, _ => by simp at h
  | a :: l, 0, x, k, h, hk => by
    simp only [List.getElem?_cons_zero, Option.some.injEq] at h
    subst h
    simp only [itsC, Nat.zero_mul, Nat.zero_add]
    rw [List.getElem?_append_left (by simp [itC]; omega)]
  | a :: l, j + 1, x, k, h, hk => by
    simp only [List.getElem?_cons_succ] at h
    simp only [itsC]
    rw [List.getElem?_append_right (by simp [itC]; omega)]
    have : (j + 1) * 4 + k - (itC a).length = j * 4 + k := by simp [itC]; omega
    rw [this]
    exact itsC_get l j x k h hk
theorem itsC_one : ∀ (l : List It), ∀ u ∈ itsC l, u.oneCell' = true
  | [], u, h => by simp [itsC] at h
  | x :: l, u, h => by
    simp only [itsC, List.mem_append] at h
    rcases h with h | h
    · simp only [itC, List.mem_cons, List.not_mem_nil, or_false] at h
      rcases h with rfl | rfl | rfl | rfl <;> rfl
    · exact itsC_one l u h
theorem itsC_take (l : List It) (n : Nat) : itsC (l.take n) = (itsC l).take (n * 4) := by
  induction l generalizing n with
  | nil => simp [itsC]
  | cons a l ih =>
    cases n with
    | zero => simp [itsC]
    | succ n =>
      simp only [List.take_succ_cons, itsC, ih]
      rw [List.take_append]
      have h1 : (itC a).length = 4 := rfl
      rw [h1, show (n + 1) * 4 - 4 = n * 4 by omega, List.take_of_length_le (l := itC a) (by rw [h1]; omega)]
theorem itsC_drop (l : List It) (n : Nat) : itsC (l.drop n) = (itsC l).drop (n * 4) := by
  induction l generalizing n with
  | nil => simp [itsC]
  | cons a l ih =>
    cases n with
    | zero => simp [itsC]
    | succ n =>
      simp only [List.drop_succ_cons, itsC, ih]
      rw [List.drop_append]
      have h1 : (itC a).length = 4 := rfl
      rw [h1, show (n + 1) * 4 - 4 = n * 4 by omega, List.drop_of_length_le (l := itC a) (by rw [h1]; omega), List.nil_append]

def ISl (w : World) (B : Nat) (v : Value) (l : List It) : Prop := w.ownsRow B 47 4 v l.length (itsC l)

theorem ISl.nil (w : World) (B : Nat) : ISl w B (.slice none 0 0) [] := World.ownsRow_nil w B _ _
theorem ISl.keep {F : Nat → Prop} {w w' : World} {B : Nat} {v : Value} {l : List It} (h : ISl w B v l) (k : KeptF F w w') (hF : ∀ g, v.ownBlock = some g → ¬ F g) : ISl w' B v l := ownsRow_keep h k hF
theorem ISl.form {w : World} {B : Nat} {v : Value} {l : List It} (h : ISl w B v l) : (v = .slice none 0 0 ∧ l = []) ∨ ∃ g cap, v = .slice (some ⟨g, 0, none⟩) l.length cap ∧ l.length ≤ cap := by
  rcases h.2 with ⟨h1, h2⟩ | ⟨g, cap, cur, h1, _, _, h3, _⟩
  · exact .inl ⟨h1, List.eq_nil_of_length_eq_zero h2⟩
  · exact .inr ⟨g, cap, h1, h3⟩
theorem ISl.cells {w : World} {B g cap : Nat} {l : List It} (h : ISl w B (.slice (some ⟨g, 0, none⟩) l.length cap) l) {j : Nat} {x : It} (hx : l[j]? = some x) :
    w.cell? ⟨g, j * 4, none⟩ = some (.int .i64 x.t) ∧ w.cell? ⟨g, j * 4 + 1, none⟩ = some (.int .i64 x.f) ∧ w.cell? ⟨g, j * 4 + 2, none⟩ = some (.int .i64 x.s) ∧ w.cell? ⟨g, j * 4 + 3, none⟩ = some (.int .i64 x.l) := by
  have hj := get_lt hx
  have key : ∀ k, k < 4 → w.cell? ⟨g, j * 4 + k, none⟩ = (itC x)[k]? := by
    intro k hk
    rw [World.ownsRow.cellAt h (j * 4 + k) (by omega), itsC_get l j x k hx hk]
  exact ⟨key 0 (by omega), key 1 (by omega), key 2 (by omega), key 3 (by omega)⟩
theorem ISl.lt {w : World} {B : Nat} {v : Value} {l : List It} (h : ISl w B v l) {g : Nat} (hg : v.ownBlock = some g) : B ≤ g ∧ g < w.heap.size := World.ownsRow.lt h g hg

def It.aheadB (x y : It) : Bool := if x.t = y.t then (if x.f = y.f then decide (x.s < y.s) else decide (x.f < y.f)) else decide (x.t < y.t)
theorem It.aheadB_iff (x y : It) : x.aheadB y = true ↔ x.lt y := by
  unfold It.aheadB It.lt
  split
  · split <;> simp only [decide_eq_true_eq] <;> omega
  · simp only [decide_eq_true_eq]; omega

set_option maxRecDepth 100000 in
set_option maxHeartbeats 1000000 in
theorem ahead_any (a b c d a' b' c' d' : Int) (w : World) :
    Calls Try.prog 79 #[.agg #[.int .i64 a, .int .i64 b, .int .i64 c, .int .i64 d], .agg #[.int .i64 a', .int .i64 b', .int .i64 c', .int .i64 d']] w fun e w' => e = .returned (.bool (It.aheadB ⟨a, b, c, d⟩ ⟨a', b', c', d'⟩)) ∧ Below w.heap.size w w' := by
  by_cases h1 : a = a'
  · by_cases h2 : b = b'
    · have H : It.aheadB ⟨a, b, c, d⟩ ⟨a', b', c', d'⟩ = decide (c < c') := by simp [It.aheadB, h1, h2]
      have n1 : (a != a') = false := by simp [h1]
      have n2 : (b != b') = false := by simp [h2]
      clear h1 h2
      go_enter Try.func79, Try.ntmps79
      go_wp2
      go_ret
      exact ⟨ret_bool H.symm, ((Below.refl _ _).alloc (Nat.le_refl _) _).alloc (by simp) _⟩
    · have H : It.aheadB ⟨a, b, c, d⟩ ⟨a', b', c', d'⟩ = decide (b < b') := by simp [It.aheadB, h1, h2]
      have n1 : (a != a') = false := by simp [h1]
      have n2 : (b != b') = true := by simp [h2]
      clear h1 h2
      go_enter Try.func79, Try.ntmps79
      go_wp2
      go_ret
      exact ⟨ret_bool H.symm, ((Below.refl _ _).alloc (Nat.le_refl _) _).alloc (by simp) _⟩
  · have H : It.aheadB ⟨a, b, c, d⟩ ⟨a', b', c', d'⟩ = decide (a < a') := by simp [It.aheadB, h1]
    have n1 : (a != a') = true := by simp [h1]
    clear h1
    go_enter Try.func79, Try.ntmps79
    go_wp2
    go_ret
    exact ⟨ret_bool H.symm, ((Below.refl _ _).alloc (Nat.le_refl _) _).alloc (by simp) _⟩

/-- kk is the number of the first least item among the first i; -1 if there is none -/
def LeastUpto (l : List It) (i : Nat) (kk : Int) : Prop :=
  (i = 0 ∧ kk = -1) ∨ ∃ (j : Nat) (x : It), kk = j ∧ j < i ∧ l[j]? = some x ∧ (∀ (m : Nat) (y : It), m < i → l[m]? = some y → ¬ y.lt x) ∧ (∀ (m : Nat) (y : It), m < j → l[m]? = some y → x.lt y)

theorem LeastUpto.turn {l : List It} {i j : Nat} {x y : It} (h : LeastUpto l i j) (hy : l[j]? = some y) (hx : l[i]? = some x) (hl : x.lt y) : LeastUpto l (i + 1) i := by
  rcases h with ⟨_, h⟩ | ⟨j', z, hj, hji, hz, h1, h2⟩
  · omega
  · have : j' = j := by omega
    subst this
    rw [hy] at hz; cases hz
    refine .inr ⟨i, x, rfl, by omega, hx, fun m u hm hu => ?_, fun m u hm hu => ?_⟩
    · by_cases hmi : m = i
      · subst hmi; rw [hx] at hu; cases hu
        unfold It.lt; omega
      · have := h1 m u (by omega) hu
        unfold It.lt at *; omega
    · have := h1 m u hm hu
      unfold It.lt at *; omega
theorem LeastUpto.stay {l : List It} {i j : Nat} {x y : It} (h : LeastUpto l i j) (hy : l[j]? = some y) (hx : l[i]? = some x) (hl : ¬ x.lt y) : LeastUpto l (i + 1) j := by
  rcases h with ⟨_, h⟩ | ⟨j', z, hj, hji, hz, h1, h2⟩
  · omega
  · have : j' = j := by omega
    subst this
    rw [hy] at hz; cases hz
    refine .inr ⟨j', y, rfl, by omega, hy, fun m u hm hu => ?_, h2⟩
    by_cases hmi : m = i
    · subst hmi; rw [hx] at hu; cases hu; exact hl
    · exact h1 m u (by omega) hu
theorem LeastUpto.first {l : List It} {x : It} (hx : l[0]? = some x) : LeastUpto l 1 0 :=
  .inr ⟨0, x, rfl, by omega, hx, fun m u hm hu => by
    have : m = 0 := by omega
    subst this; rw [hx] at hu; cases hu
    unfold It.lt; omega, fun m u hm => by omega⟩

theorem ahead_grown (x y : It) (w : World) (v : Bool) (hv : x.aheadB y = v) (p : Regrown) :
    Calls Try.prog 79 #[.agg #[.int .i64 x.t, .int .i64 x.f, .int .i64 x.s, .int .i64 x.l], .agg #[.int .i64 y.t, .int .i64 y.f, .int .i64 y.s, .int .i64 y.l]] (grow (redrawn w p.d) p.os) fun e w'' => e = .returned (.bool v) ∧ ∃ p : Regrown, w'' = grow (redrawn w p.d) p.os := by
  subst hv
  exact Calls.regrown_of (ahead_any x.t x.f x.s x.l y.t y.f y.s y.l _)

set_option maxRecDepth 100000 in
set_option maxHeartbeats 4000000 in
theorem refLeast_any (w : World) (B : Nat) (v : Value) (l : List It) (h : ISl w B v l) (hn : l.length ≤ 2932031007317) :
    Calls Try.prog 46 #[v] w fun e w' => ∃ kk : Int, e = .returned (.int .i64 kk) ∧ LeastUpto l l.length kk ∧ Below w.heap.size w w' := by
  rcases h.form with ⟨rfl, rfl⟩ | ⟨g, cap, rfl, hcap⟩
  · go_enter Try.func46, Try.ntmps46
    go_wp2
    refine wp_loop_rounds 1 ?_
    rw [rounds_succ]
    go_wp2
    go_ret
    exact ⟨-1, rfl, .inl ⟨rfl, rfl⟩, Below.refl _ _⟩
  · obtain ⟨n, hln⟩ : ∃ n, n = l.length := ⟨_, rfl⟩
    have Hn : Hid (n = l.length) := hln
    rw [← hln] at hn hcap
    rw [← hln]
    have hW : Hid (ISl w B (.slice (some ⟨g, 0, none⟩) l.length cap) l) := h
    clear h hln
    go_enter Try.func46, Try.ntmps46
    go_wp2
    go_loopw [3, 4] (fun sk si wr => ∃ (i : Nat) (kk : Int), si = .int .i64 i ∧ sk = .int .i64 kk ∧ i ≤ n ∧ LeastUpto l i kk ∧ Below w.heap.size w wr) (fun _ si _ => n - (intOf si).toNat)
    case atStart => exact ⟨0, -1, rfl, rfl, by omega, .inl ⟨rfl, rfl⟩, Below.refl _ _⟩
    case round =>
      obtain ⟨i, kk, rfl, rfl, hin, hL, hB⟩ := hrel
      have hI : Hid (ISl wr B (.slice (some ⟨g, 0, none⟩) l.length cap) l) := hW.out.keep (KeptF.of_below (F := fun _ => False) hB) (fun _ _ e => e)
      by_cases hlt : i < n
      · obtain ⟨x, hx⟩ := get_of_lt (d := l) (k := i) (by have := Hn.out; omega)
        have Hx : Hid (l[i]? = some x) := hx
        obtain ⟨c0, c1, c2, c3⟩ := hI.out.cells hx
        have k0 := cell_regrown c0
        have k1 := cell_regrown c1
        have k2 := cell_regrown c2
        have k3 := cell_regrown c3
        clear hx
        rcases hL with ⟨hi0, rfl⟩ | ⟨j, y, rfl, hji, hy, h1, h2⟩
        · subst hi0
          go_wp2
          go_quiet (fail)
          have hbl := below_drewN wr nq
          clear c0 c1 c2 c3 k0 k1 k2 k3
          go_wp2
          go_roundw
          case rel => exact ⟨1, 0, by go_num, rfl, by omega, LeastUpto.first Hx.out, hB.trans (hbl.mono hB.size)⟩
          case measure => simp [intOf]; omega
        · have hL : LeastUpto l i j := .inr ⟨j, y, rfl, hji, hy, h1, h2⟩
          have Hy : Hid (l[j]? = some y) := hy
          obtain ⟨d0, d1, d2, d3⟩ := hI.out.cells hy
          have l0 := cell_regrown d0
          have l1 := cell_regrown d1
          have l2 := cell_regrown d2
          have l3 := cell_regrown d3
          have hjn : j < n := by omega
          have hj0 : decide ((j : Int) < 0) = false := decide_eq_false (by omega)
          clear hy h1 h2
          cases hv : x.aheadB y with
          | false =>
            have Hv : Hid (¬ x.lt y) := fun h => by rw [(It.aheadB_iff x y).2 h] at hv; cases hv
            have hcall := ahead_grown x y wr false hv
            clear hv
            go_wp2
            refine wp_region_quiet_below (by kernel_rfl) (by kernel_rfl) ?_
            repeat (go_big_quiet_step (exact hcall _))
            refine wpQuiet_nil ?_
            intro wq hw'
            have hbl := below_of_regrown hw'
            clear hw' c0 c1 c2 c3 k0 k1 k2 k3 d0 d1 d2 d3 l0 l1 l2 l3 hcall
            go_wp2
            go_roundw
            case rel => exact ⟨i + 1, j, by go_num, rfl, by omega, hL.stay Hy.out Hx.out Hv.out, hB.trans (hbl.mono hB.size)⟩
            case measure => simp [intOf]; omega
          | true =>
            have Hv : Hid (x.lt y) := (It.aheadB_iff x y).1 hv
            have hcall := ahead_grown x y wr true hv
            clear hv
            go_wp2
            refine wp_region_quiet_below (by kernel_rfl) (by kernel_rfl) ?_
            repeat (go_big_quiet_step (exact hcall _))
            refine wpQuiet_nil ?_
            intro wq hw'
            have hbl := below_of_regrown hw'
            clear hw' c0 c1 c2 c3 k0 k1 k2 k3 d0 d1 d2 d3 l0 l1 l2 l3 hcall
            go_wp2
            go_roundw
            case rel => exact ⟨i + 1, i, by go_num, rfl, by omega, hL.turn Hy.out Hx.out Hv.out, hB.trans (hbl.mono hB.size)⟩
            case measure => simp [intOf]; omega
      · have hie : i = n := by omega
        subst hie
        go_wp2
        go_ret
        exact ⟨kk, rfl, hL, hB⟩

end Go.Proofs.Ytaieackeflmhgaa

