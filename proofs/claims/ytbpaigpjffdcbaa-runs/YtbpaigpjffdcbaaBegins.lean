/-
  The law's own: one, begins.
-/
import Derived.Test.YtbpaigpjffdcbaaTold
namespace Go.Proofs.Ytbpaigpjffdcbaa
open Go.RowKit Go.Sort Go.Maps

theorem Own.rowsB {α : Type} {E : Enc α} {w : World} {B : Nat} {v : Value} {l : List α} (h : Own E w B v l) : RowsAt E.sz E.enc w w.heap.size v l := by
  rcases h.form with ⟨h1, h2⟩ | ⟨g, cap, h1, h2⟩
  · subst h1 h2; exact ⟨none, 0, rfl, Nat.le_refl _, fun e => absurd rfl e⟩
  · subst h1; exact (h.rowsIn cap h2).at

set_option maxRecDepth 100000 in
set_option maxHeartbeats 2000000 in
theorem one_any (x : Dn) (w : World) : Calls Try.prog 49 #[.agg #[.int .i64 x.it.t, .int .i64 x.it.f, .int .i64 x.it.s, .int .i64 x.it.l, .int .i64 x.st], .agg #[.int .i64 x.it.t, .int .i64 x.it.f, .int .i64 x.it.s, .int .i64 x.it.l, .int .i64 x.st]] w fun e w' => e = .returned (.bool true) ∧ Below w.heap.size w w' := by
  have hB0 : Below w.heap.size w ((w.alloc (.cells #[.int .i64 x.it.t, .int .i64 x.it.f, .int .i64 x.it.s, .int .i64 x.it.l, .int .i64 x.st] 69)).alloc (.cells #[.int .i64 x.it.t, .int .i64 x.it.f, .int .i64 x.it.s, .int .i64 x.it.l, .int .i64 x.st] 129)) := ((Below.refl _ _).alloc (Nat.le_refl _) _).alloc (by simp) _
  go_enter Try.func49, Try.ntmps49
  go_wp2
  go_ret
  exact ⟨rfl, hB0⟩

set_option maxRecDepth 100000 in
set_option maxHeartbeats 4000000 in
theorem begins_any (w : World) (B : Nat) (va vb : Value) (l : List Dn) (ha : RowsAt 5 dnC w B va l) (hb : RowsAt 5 dnC w B vb l) (hB : B ≤ w.heap.size) (hl : l.length ≤ 5000) :
    Calls Try.prog 21 #[va, vb] w fun e w' => e = .returned (.bool true) ∧ Below w.heap.size w w' := by
  obtain ⟨aoa, capa, rfl, hcapa⟩ := RowsAt.form ha
  obtain ⟨aob, capb, rfl, hcapb⟩ := RowsAt.form hb
  go_enter Try.func21, Try.ntmps21
  go_wp2
  go_loopw [5] (fun s5 wr => ∃ i : Nat, s5 = .int .i64 i ∧ i ≤ l.length ∧ Below w.heap.size w wr) (fun s5 _ => l.length - (intOf s5).toNat)
  case atStart => exact ⟨0, rfl, Nat.zero_le _, Below.refl _ _⟩
  case round =>
    obtain ⟨i, rfl, hi, hbw⟩ := hrel
    by_cases hlt : i < l.length
    · obtain ⟨x, hx⟩ := get_of_lt hlt
      obtain ⟨ba, oa, haa, hbaB, hca⟩ := RowsAt.at_ (ha.keep (hbw.mono hB)) hx
      obtain ⟨bb, ob, hab, hbbB, hcb⟩ := RowsAt.at_ (hb.keep (hbw.mono hB)) hx
      subst haa hab
      have a0 := cell_regrown (hca 0 (.int .i64 x.it.t) rfl)
      have a1 := cell_regrown (hca 1 (.int .i64 x.it.f) rfl)
      have a2 := cell_regrown (hca 2 (.int .i64 x.it.s) rfl)
      have a3 := cell_regrown (hca 3 (.int .i64 x.it.l) rfl)
      have a4 := cell_regrown (hca 4 (.int .i64 x.st) rfl)
      have c0 := cell_regrown (hcb 0 (.int .i64 x.it.t) rfl)
      have c1 := cell_regrown (hcb 1 (.int .i64 x.it.f) rfl)
      have c2 := cell_regrown (hcb 2 (.int .i64 x.it.s) rfl)
      have c3 := cell_regrown (hcb 3 (.int .i64 x.it.l) rfl)
      have c4 := cell_regrown (hcb 4 (.int .i64 x.st) rfl)
      simp only [Nat.add_zero] at a0 c0
      have hone : ∀ q : Regrown, Calls Try.prog 49 #[.agg #[.int .i64 x.it.t, .int .i64 x.it.f, .int .i64 x.it.s, .int .i64 x.it.l, .int .i64 x.st], .agg #[.int .i64 x.it.t, .int .i64 x.it.f, .int .i64 x.it.s, .int .i64 x.it.l, .int .i64 x.st]] (grow (redrawn wr q.d) q.os) fun e' w'' => e' = .returned (.bool true) ∧ ∃ q : Regrown, w'' = grow (redrawn wr q.d) q.os := fun q => Calls.regrown_of (one_any x _)
      have hil : (i : Int) < l.length := by omega
      clear hca hcb hx
      go_upto_region 6 with fail
      refine wp_region_quiet_below (by kernel_rfl) (by kernel_rfl) ?_
      repeat (quiet_step (exact hone _))
      refine wpQuiet_nil ?_
      intro wq hw'
      have hbq := below_of_regrown hw'
      clear hw' a0 a1 a2 a3 a4 c0 c1 c2 c3 c4 hone
      go_wp2
      go_roundw
      case rel => exact ⟨i + 1, by go_num, hlt, hbw.trans (hbq.mono hbw.size)⟩
      case measure => simp [intOf]; omega
    · go_wp2
      go_ret
      exact ⟨rfl, hbw⟩

end Go.Proofs.Ytbpaigpjffdcbaa
