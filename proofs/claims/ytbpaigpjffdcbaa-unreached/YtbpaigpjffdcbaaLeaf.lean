/-
  The walks of the small functions: cmp.Compare, cmp.Or at three, Item.compare, entry.before, day.before.
-/
import Derived.Test.YtbpaigpjffdcbaaProg
import Derived.Test.YtbpaigpjffdcbaaOrd
import Derived.WalkKit
import Derived.WalkSpells
import Derived.WalkLawsBesides
import Derived.StillTailTactics
import Derived.BigRegion
import Derived.BigQuiet
namespace Go.Proofs.Ytbpaigpjffdcbaa
open Go.RowKit

theorem ret_int {k : IntKind} {a b : Int} (h : a = b) : Ending.returned (.int k a) = .returned (.int k b) := by rw [h]
theorem ret_bool {a b : Bool} (h : a = b) : Ending.returned (.bool a) = .returned (.bool b) := by rw [h]

theorem still_tail' {P : Program} {id : Nat} {Q : Exit → Act → World → Prop} {a : Act} {w : World} {l : List Oper} (n : Nat) (hm : P.follows .mixedOrders = true) (hB : Region.lexTailB .any l.toArray n = true)
    (h : wpStill P l.toArray w.drew (fun a' => wpList P l.toArray Q (l.drop n) a' w.drew) (l.take n) a) : (Code.region id l.toArray true).wp P Q a w :=
  wp_region_still_tail n hm hB h

theorem bcell {W w1 : World} (hb : Below W.heap.size W w1) : (∀ b o, b < W.heap.size → w1.cell? ⟨b, o, none⟩ = W.cell? ⟨b, o, none⟩) ∧ (∀ b o, b < W.heap.size → w1.frozen? ⟨b, o, none⟩ = W.frozen? ⟨b, o, none⟩) :=
  ⟨fun b o h => hb.cell (p := ⟨b, o, none⟩) h, fun b o h => hb.frozen (p := ⟨b, o, none⟩) h⟩

set_option maxHeartbeats 400000 in
theorem isNaN_any (a : Int) (w : World) :
    Calls Try.prog 92 #[.int .i64 a] w fun e w' => e = .returned (.bool false) ∧ w' = w := by
  go_enter Try.func92, Try.ntmps92
  go_wp2
  go_ret
  exact ⟨by simp, rfl⟩

theorem cmpI_lt {a b : Int} (h : a < b) : cmpI a b = -1 := by unfold cmpI; rw [if_pos h]
theorem cmpI_gt {a b : Int} (h : b < a) : cmpI a b = 1 := by unfold cmpI; rw [if_neg (by omega), if_pos h]
theorem cmpI_eq {a b : Int} (h : ¬ a < b) (k : ¬ b < a) : cmpI a b = 0 := by unfold cmpI; rw [if_neg h, if_neg k]

set_option maxHeartbeats 400000 in
theorem compare_any (a b : Int) (w : World) :
    Calls Try.prog 91 #[.int .i64 a, .int .i64 b] w fun e w' => e = .returned (.int .i64 (cmpI a b)) ∧ w' = w := by
  by_cases h1 : a < b
  · have H := cmpI_lt h1
    go_enter Try.func91, Try.ntmps91
    go_wp2_with (go_at_call 92; refine (isNaN_any _ _).mono ?_; rintro e w' ⟨rfl, rfl⟩)
    go_ret
    exact ⟨ret_int H.symm, rfl⟩
  · by_cases h2 : b < a
    · have H := cmpI_gt h2
      go_enter Try.func91, Try.ntmps91
      go_wp2_with (go_at_call 92; refine (isNaN_any _ _).mono ?_; rintro e w' ⟨rfl, rfl⟩)
      go_ret
      exact ⟨ret_int H.symm, rfl⟩
    · have H := cmpI_eq h1 h2
      go_enter Try.func91, Try.ntmps91
      go_wp2_with (go_at_call 92; refine (isNaN_any _ _).mono ?_; rintro e w' ⟨rfl, rfl⟩)
      go_ret
      exact ⟨ret_int H.symm, rfl⟩

set_option maxHeartbeats 400000 in
theorem or_any (b : Nat) (x y z : Int) (w : World) (c0 : w.cell? ⟨b, 0, none⟩ = some (.int .i64 x)) (c1 : w.cell? ⟨b, 1, none⟩ = some (.int .i64 y)) (c2 : w.cell? ⟨b, 2, none⟩ = some (.int .i64 z)) :
    Calls Try.prog 90 #[.slice (some ⟨b, 0, none⟩) 3 3] w fun e w' => e = .returned (.int .i64 (or3 x y z)) ∧ w' = w := by
  go_enter Try.func90, Try.ntmps90
  go_wp2
  refine wp_loop_rounds 4 ?_
  by_cases hx : x = 0
  · subst hx
    rw [rounds_succ]
    go_wp2
    by_cases hy : y = 0
    · subst hy
      rw [rounds_succ]
      go_wp2
      by_cases hz : z = 0
      · subst hz
        rw [rounds_succ]
        go_wp2
        rw [rounds_succ]
        go_wp2
        go_ret
        exact ⟨ret_int or3_z.symm, rfl⟩
      · rw [rounds_succ]
        go_wp2
        go_ret
        exact ⟨ret_int or3_z.symm, rfl⟩
    · rw [rounds_succ]
      go_wp2
      go_ret
      exact ⟨ret_int (or3_y hy).symm, rfl⟩
  · rw [rounds_succ]
    go_wp2
    go_ret
    exact ⟨ret_int (or3_x hx).symm, rfl⟩

set_option maxRecDepth 100000 in
set_option maxHeartbeats 400000 in
theorem cmpr_any (a b c d a' b' c' d' : Int) (w : World) :
    Calls Try.prog 88 #[.agg #[.int .i64 a, .int .i64 b, .int .i64 c, .int .i64 d], .agg #[.int .i64 a', .int .i64 b', .int .i64 c', .int .i64 d']] w fun e w' => e = .returned (.int .i64 (It.cmp ⟨a, b, c, d⟩ ⟨a', b', c', d'⟩)) ∧ Below w.heap.size w w' := by
  have H : It.cmp ⟨a, b, c, d⟩ ⟨a', b', c', d'⟩ = or3 (cmpI a a') (cmpI b b') (cmpI c c') := rfl
  go_enter Try.func88, Try.ntmps88
  go_wp2
  refine still_tail' 15 (by kernel_rfl) (by kernel_rfl) ?_
  simp only [List.take_succ_cons, List.take_zero, List.drop_succ_cons, List.drop_zero]
  still_step
  still_step
  still_step
  still_step
  still_call (compare_any _ _ _)
  still_step
  still_step
  still_step
  still_step
  still_call (compare_any _ _ _)
  still_step
  still_step
  still_step
  still_step
  still_call (compare_any _ _ _)
  refine wpStill_nil ?_
  go_wp2_with fail
  refine (or_any _ (cmpI a a') (cmpI b b') (cmpI c c') _ (by go_simp) (by go_simp) (by go_simp)).mono ?_
  rintro e w' ⟨rfl, rfl⟩
  go_wp2
  go_ret
  exact ⟨ret_int H.symm, ((((Below.refl _ _).alloc (Nat.le_refl _) _).alloc (by simp) _).alloc (by simp; omega) _).drew⟩

theorem ltB_ne {x y : Ent} (h : x.it.cmp y.it ≠ 0) : x.ltB y = decide (x.it.cmp y.it < 0) := by unfold Ent.ltB; rw [if_neg h]
theorem ltB_eq {x y : Ent} (h : x.it.cmp y.it = 0) : x.ltB y = decide (x.r < y.r) := by unfold Ent.ltB; rw [if_pos h]

set_option maxRecDepth 100000 in
set_option maxHeartbeats 400000 in
theorem before_any (a b c d r a' b' c' d' r' : Int) (w : World) :
    Calls Try.prog 110 #[.agg #[.int .i64 a, .int .i64 b, .int .i64 c, .int .i64 d, .int .i64 r], .agg #[.int .i64 a', .int .i64 b', .int .i64 c', .int .i64 d', .int .i64 r']] w fun e w' => e = .returned (.bool (Ent.ltB ⟨⟨a, b, c, d⟩, r⟩ ⟨⟨a', b', c', d'⟩, r'⟩)) ∧ Below w.heap.size w w' := by
  have H1 := @ltB_ne ⟨⟨a, b, c, d⟩, r⟩ ⟨⟨a', b', c', d'⟩, r'⟩
  have H2 := @ltB_eq ⟨⟨a, b, c, d⟩, r⟩ ⟨⟨a', b', c', d'⟩, r'⟩
  obtain ⟨n, hn⟩ : ∃ n, It.cmp ⟨a, b, c, d⟩ ⟨a', b', c', d'⟩ = n := ⟨_, rfl⟩
  have C := cmpr_any a b c d a' b' c' d'
  simp only [hn] at H1 H2 C
  clear hn
  by_cases hz : n = 0
  · subst hz
    have H := H2 rfl
    clear H1 H2
    go_enter Try.func110, Try.ntmps110
    go_wp2_with (go_at_call 88; refine (C _).mono ?_; rintro e w1 ⟨rfl, hb⟩; obtain ⟨hc, hf⟩ := bcell hb)
    go_ret
    exact ⟨ret_bool H.symm, (((Below.refl _ _).alloc (Nat.le_refl _) _).alloc (by simp) _).trans (hb.mono (by simp; omega))⟩
  · have H := H1 hz
    have hz' : (n != 0) = true := by simpa using hz
    clear H1 H2
    go_enter Try.func110, Try.ntmps110
    go_wp2_with (go_at_call 88; refine (C _).mono ?_; rintro e w1 ⟨rfl, hb⟩; obtain ⟨hc, hf⟩ := bcell hb)
    go_ret
    exact ⟨ret_bool H.symm, (((Below.refl _ _).alloc (Nat.le_refl _) _).alloc (by simp) _).trans (hb.mono (by simp; omega))⟩

set_option maxRecDepth 100000 in
set_option maxHeartbeats 400000 in
theorem dayBefore_any (b o b' o' : Nat) (x y : Int) (w : World) (hx : w.cell? ⟨b, o, none⟩ = some (.int .i64 x)) (hy : w.cell? ⟨b', o', none⟩ = some (.int .i64 y)) :
    Calls Try.prog 109 #[.pointer (some ⟨b, o, none⟩), .pointer (some ⟨b', o', none⟩)] w fun e w' => e = .returned (.bool (decide (x < y))) ∧ ∃ n, w' = w.drewN n := by
  go_enter Try.func109, Try.ntmps109
  go_wp2
  go_quiet (fail)
  go_wp2
  go_ret
  exact ⟨rfl, _, rfl⟩

end Go.Proofs.Ytbpaigpjffdcbaa
