/-
  The law's own: one, begins.
  The law Runs: true, whatever the model.
-/
import Derived.Test.YtaieackeflmhgaaK17
import Derived.Test.YtaieackeflmhgaaK16
namespace Go.Proofs.Ytaieackeflmhgaa
open Go.RowKit Go.Sort Go.Maps

theorem Own.rowsB {α : Type} {E : Enc α} {w : World} {B : Nat} {v : Value} {l : List α} (h : Own E w B v l) : RowsAt E.sz E.enc w w.heap.size v l := by
  rcases h.form with ⟨h1, h2⟩ | ⟨g, cap, h1, h2⟩
  · subst h1 h2; exact ⟨none, 0, rfl, Nat.le_refl _, fun e => absurd rfl e⟩
  · subst h1; exact (h.rowsIn cap h2).at

set_option maxRecDepth 100000 in
set_option maxHeartbeats 2000000 in
theorem one_any (x : Dn) (w : World) : Calls Try.prog 54 #[.agg #[.int .i64 x.it.t, .int .i64 x.it.f, .int .i64 x.it.s, .int .i64 x.it.l, .int .i64 x.st], .agg #[.int .i64 x.it.t, .int .i64 x.it.f, .int .i64 x.it.s, .int .i64 x.it.l, .int .i64 x.st]] w fun e w' => e = .returned (.bool true) ∧ Below w.heap.size w w' := by
  have hB0 : Below w.heap.size w ((w.alloc (.cells #[.int .i64 x.it.t, .int .i64 x.it.f, .int .i64 x.it.s, .int .i64 x.it.l, .int .i64 x.st] 69)).alloc (.cells #[.int .i64 x.it.t, .int .i64 x.it.f, .int .i64 x.it.s, .int .i64 x.it.l, .int .i64 x.st] 136)) := ((Below.refl _ _).alloc (Nat.le_refl _) _).alloc (by simp) _
  go_enter Try.func54, Try.ntmps54
  go_wp2
  go_ret
  exact ⟨rfl, hB0⟩

set_option maxRecDepth 100000 in
set_option maxHeartbeats 4000000 in
theorem begins_any (w : World) (B : Nat) (va vb : Value) (l : List Dn) (ha : RowsAt 5 dnC w B va l) (hb : RowsAt 5 dnC w B vb l) (hB : B ≤ w.heap.size) (hl : l.length ≤ 5000) :
    Calls Try.prog 23 #[va, vb] w fun e w' => e = .returned (.bool true) ∧ Below w.heap.size w w' := by
  obtain ⟨aoa, capa, rfl, hcapa⟩ := RowsAt.form ha
  obtain ⟨aob, capb, rfl, hcapb⟩ := RowsAt.form hb
  go_enter Try.func23, Try.ntmps23
  go_wp2
  go_loopw [5] (fun s5 wr => ∃ i : Nat, s5 = .int .i64 i ∧ i ≤ l.length ∧ Below w.heap.size w wr) (fun s5 _ => l.length - (intOf s5).toNat)
  case atStart => exact ⟨0, rfl, Nat.zero_le _, Below.refl _ _⟩
  case round =>
    obtain ⟨i, rfl, hi, hbw⟩ := hrel
    by_cases hlt : i < l.length
    · obtain ⟨x, hx⟩ := get_of_lt hlt
      obtain ⟨ba, oa, haa, hbaB, hca⟩ := RowsAt.at_ (ha.keep (hbw.mono hB)) hx
      obtain ⟨bb, ob, hab, hbbB, hcb⟩ := RowsAt.at_ (hb.keep (hbw.mono hB)) hx
      subst haa hab
      have a0 := cell_regrown (hca 0 (.int .i64 x.it.t) rfl)
      have a1 := cell_regrown (hca 1 (.int .i64 x.it.f) rfl)
      have a2 := cell_regrown (hca 2 (.int .i64 x.it.s) rfl)
      have a3 := cell_regrown (hca 3 (.int .i64 x.it.l) rfl)
      have a4 := cell_regrown (hca 4 (.int .i64 x.st) rfl)
      have c0 := cell_regrown (hcb 0 (.int .i64 x.it.t) rfl)
      have c1 := cell_regrown (hcb 1 (.int .i64 x.it.f) rfl)
      have c2 := cell_regrown (hcb 2 (.int .i64 x.it.s) rfl)
      have c3 := cell_regrown (hcb 3 (.int .i64 x.it.l) rfl)
      have c4 := cell_regrown (hcb 4 (.int .i64 x.st) rfl)
      simp only [Nat.add_zero] at a0 c0
      have hone : ∀ q : Regrown, Calls Try.prog 54 #[.agg #[.int .i64 x.it.t, .int .i64 x.it.f, .int .i64 x.it.s, .int .i64 x.it.l, .int .i64 x.st], .agg #[.int .i64 x.it.t, .int .i64 x.it.f, .int .i64 x.it.s, .int .i64 x.it.l, .int .i64 x.st]] (grow (redrawn wr q.d) q.os) fun e' w'' => e' = .returned (.bool true) ∧ ∃ q : Regrown, w'' = grow (redrawn wr q.d) q.os := fun q => Calls.regrown_of (one_any x _)
      have hil : (i : Int) < l.length := by omega
      clear hca hcb hx
      go_upto_region 6 with fail
      refine wp_region_quiet_below (by kernel_rfl) (by kernel_rfl) ?_
      repeat (quiet_step (exact hone _))
      refine wpQuiet_nil ?_
      intro wq hw'
      have hbq := below_of_regrown hw'
      clear hw' a0 a1 a2 a3 a4 c0 c1 c2 c3 c4 hone
      go_wp2
      go_roundw
      case rel => exact ⟨i + 1, by go_num, hlt, hbw.trans (hbq.mono hbw.size)⟩
      case measure => simp [intOf]; omega
    · go_wp2
      go_ret
      exact ⟨rfl, hbw⟩

end Go.Proofs.Ytaieackeflmhgaa

namespace Go.Proofs.Ytaieackeflmhgaa
open Go.RowKit Go.Sort Go.Maps

theorem toArray_get {L : List Value} {i : Nat} {v : Value} (h : L[i]? = some v) : L.toArray[i]? = some v := by simpa using h

set_option maxRecDepth 100000 in
set_option maxHeartbeats 8000000 in
theorem runs_any (w : World) (m : Mdl) (lv rv sv : Value) (R : List RuleV) (en : Int) (h : ModelAt w w.heap.size lv rv sv m R)
    (b1 : m.links.length * 24 ≤ 140737488351232) (b2 : m.rules.length * 56 ≤ 140737488351232) (b3 : m.starts.length * 24 ≤ 140737488351232) (b4 : ∀ r ∈ m.rules, r.es.length * 24 ≤ 140737488351232) :
    Calls Try.prog 5 #[.agg #[.int .i64 m.procs, .int .i64 m.states, .int .i64 m.loads, lv, rv, sv], .int .i64 en] w fun e w' => e = .returned (.bool true) ∧ Below w.heap.size w w' := by
  have hne : ∀ r ∈ m.rules, r.es.length ≤ 5864062014634 := fun r hr => by have := b4 r hr; omega
  obtain ⟨W0, hW0⟩ : ∃ W0, W0 = w.alloc (.cells #[.int .i64 m.procs, .int .i64 m.states, .int .i64 m.loads, lv, rv, sv] 26) := ⟨_, rfl⟩
  have HW0 : Hid (W0 = w.alloc (.cells #[.int .i64 m.procs, .int .i64 m.states, .int .i64 m.loads, lv, rv, sv] 26)) := hW0
  have hB0 : Below w.heap.size w W0 := by rw [hW0]; exact (Below.refl _ _).alloc (Nat.le_refl _) _
  have hmb : Blk W0 w.heap.size #[.int .i64 m.procs, .int .i64 m.states, .int .i64 m.loads, lv, rv, sv] 26 := by rw [hW0]; exact heap_alloc_new w _
  have k0 := Gr.cells (v := .int .i64 m.procs) (hmb.cell 0)
  have k1 := Gr.cells (v := .int .i64 m.states) (hmb.cell 1)
  have k2 := Gr.cells (v := .int .i64 m.loads) (hmb.cell 2)
  have k3 := Gr.cells (v := lv) (hmb.cell 3)
  have k4 := Gr.cells (v := rv) (hmb.cell 4)
  have k5 := Gr.cells (v := sv) (hmb.cell 5)
  have hg0 := Gr.refl W0
  have hlm := hmb.lt
  have hmade := made_any m lv rv sv R w.heap.size W0 (h.keep hB0) hB0.size b1 b2 b3 b4
  clear hW0
  go_enter Try.func5, Try.ntmps5
  go_upto_region 1 with fail
  rw [← HW0.out]
  clear HW0
  go_wp2_with fail
  refine hmade.mono ?_
  rintro e1 w1 ⟨lv', rv', sv', R', rfl, hM', g1⟩
  clear hmade
  obtain ⟨a1, c1, hf1, _⟩ := RowsAt.form hM'.links
  obtain ⟨a2, c2, hf2, _⟩ := RowsAt.form hM'.rules.1
  obtain ⟨a3, c3, hf3, _⟩ := RowsAt.form hM'.starts
  subst hf1 hf2 hf3
  have hg1 : Gr W0 (w1.alloc (.cells #[.int .i64 m.procs, .int .i64 m.states, .int .i64 m.loads, (.slice a1 m.links.length c1), (.slice a2 R'.length c2), (.slice a3 m.starts.length c3)] 31)) := Gr.alloc (W0 := W0) g1 _
  have hbA : Below w1.heap.size w1 (w1.alloc (.cells #[.int .i64 m.procs, .int .i64 m.states, .int .i64 m.loads, (.slice a1 m.links.length c1), (.slice a2 R'.length c2), (.slice a3 m.starts.length c3)] 31)) := (Below.refl _ _).alloc (Nat.le_refl _) _
  have hck := run_any m (.slice a1 m.links.length c1) (.slice a2 R'.length c2) (.slice a3 m.starts.length c3) R' w1.heap.size en (w1.alloc (.cells #[.int .i64 m.procs, .int .i64 m.states, .int .i64 m.loads, (.slice a1 m.links.length c1), (.slice a2 R'.length c2), (.slice a3 m.starts.length c3)] 31)) (hM'.keep hbA) hbA.size hne
  go_wp2_with fail
  refine hck.mono ?_
  rintro e2 w2 ⟨g2, hcase⟩
  clear hck
  have hg2 : Gr W0 w2 := Gr.trans hg1 g2
  have hbw2 : Below w.heap.size w w2 := Gr.below hg2 hB0
  have hrf := refCheck_any m lv rv sv R w.heap.size en w2 (h.keep hbw2) hbw2.size hne
  rcases hcase with ⟨ha, rfl⟩ | ⟨ha, sb, lb, k, L, rfl, hRun⟩
  · have h1 := answer_ne ha
    clear ha
    generalize answer m en = a at *
    go_wp2_with fail
    refine hrf.mono ?_
    rintro e3 w3 ⟨pv, rfl, g3, -⟩
    clear hrf
    have hbw3 : Below w.heap.size w w3 := hbw2.trans (g3.mono hbw2.size)
    have hnum := num_any a.1 w3
    have n1 := eql_nil (P := Try.prog) Try.underlying55
    have n2 := eql_nil (P := Try.prog) Try.underlying56
    go_wp2_with (go_at_call 18; refine hnum.mono ?_; rintro e4 w4 ⟨rfl, rfl⟩)
    go_ret
    exact ⟨rfl, hbw3⟩
  · have Ha : Hid (answer m en = (0, 0)) := ha
    rw [ha] at hrf
    obtain ⟨hv, hFew⟩ := answer_zero ha
    obtain ⟨hRt, hen0, hen⟩ := right_of_valid hv
    clear ha hv
    go_wp2_with fail
    refine hrf.mono ?_
    rintro e3 w3 ⟨pv, rfl, g3, hC⟩
    clear hrf
    obtain ⟨B', cb, k', wv, sb', qb, db, kb, D, C, rfl, hB', hk', hnx, hC⟩ := hC trivial
    have hbw3 : Below w.heap.size w w3 := hbw2.trans (g3.mono hbw2.size)
    have hRun3 := hRun.keep g3
    rw [atK_end hnx hRun.stop] at hC
    have hI := atK_inv hRt hen k
    have hg3 : Gr W0 w3 := Gr.trans hg2 g3
    have hall : (atK m en k).all ≤ 300 := by rw [← atK_end hnx hRun.stop]; exact Nat.le_trans (atK_all m en k') hk'
    have hp1 := hRt.lim.p1
    have hp2 := hRt.lim.p2
    obtain ⟨n, hn⟩ : ∃ n : Nat, m.procs = (n : Int) := ⟨m.procs.toNat, by omega⟩
    have hnp : np m = n := by unfold np; omega
    have Hnp : Hid (np m = n) := hnp
    have hn6 : n ≤ 6 := by omega
    have p0 : w3.cell? ⟨w.heap.size, 0, none⟩ = some (.int .i64 (n : Int)) := by rw [← hn]; exact (g3.cell (p := ⟨w.heap.size, 0, none⟩) (Nat.lt_of_lt_of_le hlm hg2.size)).trans (k0 _ hg2)
    rw [hnp]
    have hnum := num_any 0 w3
    clear k0 k1 k2 k3 k4 k5 hn hnp
    go_wp2_with (go_at_call 18; refine hnum.mono ?_; rintro e4 w4 ⟨rfl, hw4⟩; rw [hw4]; clear hw4)
    clear hnum
    go_loopw [13] (fun s13 wr => ∃ i : Nat, s13 = .int .i64 i ∧ i ≤ n ∧ Below w3.heap.size w3 wr) (fun s13 _ => n - (intOf s13).toNat)
    case atStart => exact ⟨0, rfl, Nat.zero_le _, Below.refl _ _⟩
    case round =>
      obtain ⟨i, rfl, hi, hbr⟩ := hrel
      have hlm3 : w.heap.size < w3.heap.size := Nat.lt_of_lt_of_le hlm hg3.size
      have p0r : wr.cell? ⟨w.heap.size, 0, none⟩ = some (.int .i64 (n : Int)) := (hbr.cell (p := ⟨w.heap.size, 0, none⟩) hlm3).trans p0
      have hlmr : w.heap.size < wr.heap.size := Nat.lt_of_lt_of_le hlm3 hbr.size
      by_cases hlt : i < n
      · have hRr := hRun3.keep hbr
        have hCr := hC.grow (kept_of_below' hbr)
        obtain ⟨v, hvL⟩ := get_of_lt (d := L) (k := i) (by rw [hRr.len, Hnp.out]; exact hlt)
        obtain ⟨l, hl⟩ := get_of_lt (d := (atK m en k).done) (k := i) (by rw [hI.ld, Hnp.out]; exact hlt)
        obtain ⟨u, hu⟩ := get_of_lt (d := D) (k := i) (by rw [hCr.dl, Hnp.out]; exact hlt)
        obtain ⟨s, hs⟩ := get_of_lt (d := (atK m en k).states) (k := i) (by rw [hI.ls, Hnp.out]; exact hlt)
        have hrv := hRr.rows i v l hvL hl
        have hru : RowsAt 5 dnC wr wr.heap.size u l := (hCr.dns i u l hu hl).rowsB
        have hll := hI.dl i l hl
        have hbeg : ∀ q : Regrown, Calls Try.prog 23 #[v, u] (grow (redrawn wr q.d) q.os) fun e' w'' => e' = .returned (.bool true) ∧ ∃ q : Regrown, w'' = grow (redrawn wr q.d) q.os := fun q => by
          have hb2 := below_regrown wr q.d q.os
          exact Calls.regrown_of (begins_any _ wr.heap.size v u l (hrv.keep hb2) (hru.keep hb2) hb2.size (by omega))
        obtain ⟨ao, cap, hvf, _⟩ := RowsAt.form hrv
        obtain ⟨ao', cap', huf, _⟩ := RowsAt.form hru
        subst hvf huf
        have dl0 := hRr.ls.lt
        have dl1 := hRr.st.lt
        have dl2 := hCr.blk.lt
        have dl3 := hCr.dn.lt
        have dl4 := hCr.st.lt
        have cl := cell_regrown (v := .slice ao l.length cap) ((hRr.ls.cell i).trans (toArray_get hvL))
        have cc := cell_regrown (v := .slice (some ⟨db, 0, none⟩) n n) ((hCr.blk.cell 9).trans (by rw [Hnp.out]; rfl))
        have cd := cell_regrown (v := .slice ao' l.length cap') ((hCr.dn.cell i).trans (toArray_get hu))
        have hil : (i : Int) < n := by omega
        go_upto_region 13 with fail
        refine wp_region_quiet_below (by kernel_rfl) (by kernel_rfl) ?_
        repeat (quiet_step (exact hbeg _))
        refine wpQuiet_nil ?_
        intro wq hw'
        have hbq := below_of_regrown hw'
        have hRq := hRr.keep hbq
        have hCq := hCr.grow (kept_of_below' hbq)
        have el := cell_regrown (v := .slice ao l.length cap) ((hRq.ls.cell i).trans (toArray_get hvL))
        have ec := cell_regrown (v := .slice (some ⟨db, 0, none⟩) n n) ((hCq.blk.cell 9).trans (by rw [Hnp.out]; rfl))
        have ed := cell_regrown (v := .slice ao' l.length cap') ((hCq.dn.cell i).trans (toArray_get hu))
        have es := cell_regrown (v := .int .i64 s) ((hRq.st.cell i).trans (ints_get hs))
        have et := cell_regrown (v := .slice (some ⟨sb', 0, none⟩) n n) ((hCq.blk.cell 7).trans (by rw [Hnp.out]; rfl))
        have ev := cell_regrown (v := .int .i64 s) ((hCq.st.cell i).trans (ints_get hs))
        have fl0 := hRq.ls.lt
        have fl1 := hRq.st.lt
        have fl2 := hCq.blk.lt
        have fl3 := hCq.dn.lt
        have fl4 := hCq.st.lt
        clear hw' cl cc cd hbeg hl hu hs hvL
        go_upto_region 14 with fail
        refine wp_region_quiet_below (by kernel_rfl) (by kernel_rfl) ?_
        repeat (first | quiet_step (fail) | go_big_quiet_step (fail))
        refine wpQuiet_nil ?_
        intro wz hw'
        have hbz := below_of_regrown hw'
        clear hw' el ec ed es et ev
        go_wp2
        go_roundw
        case rel => exact ⟨i + 1, by go_num, hlt, hbr.trans ((hbq.trans (hbz.mono hbq.size)).mono hbr.size)⟩
        case measure => simp [intOf]; omega
      · go_wp2
        go_ret
        exact ⟨rfl, hbw3.trans (hbr.mono hbw3.size)⟩

end Go.Proofs.Ytaieackeflmhgaa

