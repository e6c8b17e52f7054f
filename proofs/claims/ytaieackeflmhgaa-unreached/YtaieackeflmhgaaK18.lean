/-
  The law's own: alike.
-/
import Derived.Test.YtaieackeflmhgaaK17
namespace Go.Proofs.Ytaieackeflmhgaa
open Go.RowKit Go.Sort Go.Maps

set_option maxRecDepth 100000 in
set_option maxHeartbeats 4000000 in
theorem alike_any (w : World) (B : Nat) (va vb : Value) (l : List Dn) (ha : RowsAt 5 dnC w B va l) (hb : RowsAt 5 dnC w B vb l) (hB : B ≤ w.heap.size) (hl : l.length ≤ 5000) :
    Calls Try.prog 24 #[va, vb] w fun e w' => e = .returned (.bool true) ∧ Below w.heap.size w w' := by
  obtain ⟨aoa, capa, rfl, hcapa⟩ := RowsAt.form ha
  obtain ⟨aob, capb, rfl, hcapb⟩ := RowsAt.form hb
  go_enter Try.func24, Try.ntmps24
  go_wp2
  go_loopw [5] (fun s5 wr => ∃ i : Nat, s5 = .int .i64 i ∧ i ≤ l.length ∧ Below w.heap.size w wr) (fun s5 _ => l.length - (intOf s5).toNat)
  case atStart => exact ⟨0, rfl, Nat.zero_le _, Below.refl _ _⟩
  case round =>
    obtain ⟨i, rfl, hi, hbw⟩ := hrel
    by_cases hlt : i < l.length
    · obtain ⟨x, hx⟩ := get_of_lt hlt
      obtain ⟨ba, oa, haa, hbaB, hca⟩ := RowsAt.at_ (ha.keep (hbw.mono hB)) hx
      obtain ⟨bb, ob, hab, hbbB, hcb⟩ := RowsAt.at_ (hb.keep (hbw.mono hB)) hx
      subst haa hab
      have a0 := cell_regrown (hca 0 (.int .i64 x.it.t) rfl)
      have a1 := cell_regrown (hca 1 (.int .i64 x.it.f) rfl)
      have a2 := cell_regrown (hca 2 (.int .i64 x.it.s) rfl)
      have a3 := cell_regrown (hca 3 (.int .i64 x.it.l) rfl)
      have a4 := cell_regrown (hca 4 (.int .i64 x.st) rfl)
      have c0 := cell_regrown (hcb 0 (.int .i64 x.it.t) rfl)
      have c1 := cell_regrown (hcb 1 (.int .i64 x.it.f) rfl)
      have c2 := cell_regrown (hcb 2 (.int .i64 x.it.s) rfl)
      have c3 := cell_regrown (hcb 3 (.int .i64 x.it.l) rfl)
      have c4 := cell_regrown (hcb 4 (.int .i64 x.st) rfl)
      simp only [Nat.add_zero] at a0 c0
      have hil : (i : Int) < l.length := by omega
      clear hca hcb hx
      go_upto_region 6 with fail
      refine wp_region_quiet_below (by kernel_rfl) (by kernel_rfl) ?_
      repeat (quiet_step (fail))
      refine wpQuiet_nil ?_
      intro wq hw'
      have hbq := below_of_regrown hw'
      clear hw' a0 a1 a2 a3 a4 c0 c1 c2 c3 c4
      go_wp2
      go_roundw
      case rel => exact ⟨i + 1, by go_num, hlt, hbw.trans (hbq.mono hbw.size)⟩
      case measure => simp [intOf]; omega
    · go_wp2
      go_ret
      exact ⟨rfl, hbw⟩

end Go.Proofs.Ytaieackeflmhgaa

