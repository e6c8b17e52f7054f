/-
  The program: Check answers as the document asks.
-/
import Derived.Test.YtbpaigpjffdcbaaCnt
import Derived.Test.YtbpaigpjffdcbaaRefF
namespace Go.Proofs.Ytbpaigpjffdcbaa
open Go.RowKit Go.Sort Go.Maps

theorem answer_err {m : Mdl} {en f j : Int} (h : valid m en = (f, j)) (hf : f ≠ 0) : answer m en = (f, j) := by
  rw [answer, if_neg, h]
  intro e
  rw [h] at e
  cases e
  exact hf rfl

set_option maxRecDepth 100000 in
set_option maxHeartbeats 4000000 in
theorem check_any (m : Mdl) (lv rv sv : Value) (R : List RuleV) (B : Nat) (en : Int) (w : World) (h : ModelAt w B lv rv sv m R) (hB : B ≤ w.heap.size) (hne : ∀ r ∈ m.rules, r.es.length ≤ 5864062014634) :
    Calls Try.prog 14 #[.agg #[.int .i64 m.procs, .int .i64 m.states, .int .i64 m.loads, lv, rv, sv], .int .i64 en] w fun e w' => e = .returned (.tuple #[.int .i64 (answer m en).1, .int .i64 (answer m en).2]) ∧ Below w.heap.size w w' := by
  obtain ⟨W0, hW0⟩ : ∃ W0, W0 = w.alloc (.cells #[.int .i64 m.procs, .int .i64 m.states, .int .i64 m.loads, lv, rv, sv] 31) := ⟨_, rfl⟩
  have HW0 : Hid (W0 = w.alloc (.cells #[.int .i64 m.procs, .int .i64 m.states, .int .i64 m.loads, lv, rv, sv] 31)) := hW0
  have hB0 : Below w.heap.size w W0 := by rw [hW0]; exact (Below.refl _ _).alloc (Nat.le_refl _) _
  have hmb : Blk W0 w.heap.size #[.int .i64 m.procs, .int .i64 m.states, .int .i64 m.loads, lv, rv, sv] 31 := by rw [hW0]; exact heap_alloc_new w _
  have k0 := Gr.cells (v := .int .i64 m.procs) (hmb.cell 0)
  have k1 := Gr.cells (v := .int .i64 m.states) (hmb.cell 1)
  have k2 := Gr.cells (v := .int .i64 m.loads) (hmb.cell 2)
  have k3 := Gr.cells (v := lv) (hmb.cell 3)
  have k4 := Gr.cells (v := rv) (hmb.cell 4)
  have k5 := Gr.cells (v := sv) (hmb.cell 5)
  have hBW : B ≤ W0.heap.size := Nat.le_trans hB hB0.size
  have hM0 := h.keep (hB0.mono hB)
  have hg0 := Gr.refl W0
  have hl : ∃ ao cap, lv = .slice ao m.links.length cap := by obtain ⟨a, b, c, _⟩ := RowsAt.form h.links; exact ⟨a, b, c⟩
  have hr : ∃ ao cap, rv = .slice ao m.rules.length cap := by obtain ⟨a, b, c, _⟩ := RowsAt.form h.rules.1; rw [h.rlen] at c; exact ⟨a, b, c⟩
  have hs : ∃ ao cap, sv = .slice ao m.starts.length cap := by obtain ⟨a, b, c, _⟩ := RowsAt.form h.starts; exact ⟨a, b, c⟩
  clear hW0
  have hf := fits_any m lv rv sv hl hr hs W0
  clear hl hr hs
  go_enter Try.func14, Try.ntmps14
  go_upto_region 1 with fail
  rw [← HW0.out]
  clear HW0
  go_wp2_with fail
  refine hf.mono ?_
  rintro e1 w1 ⟨rfl, g1⟩
  clear hf
  have hg1 : Gr W0 w1 := g1
  cases el : limB m with
  | false =>
    have HA : Hid (answer m en = (1, 0)) := answer_err (valid_range el) (by decide)
    clear el
    go_wp2
    go_ret2
    exact ⟨ret_two HA.out.symm, Gr.below hg1 hB0⟩
  | true =>
    have lim := lim_of_limB el
    have HL : Hid (limB m = true) := el
    clear el
    have hlk := fwLink_any m lim lv rv sv R B w1 (hM0.keep (hg1.mono hBW)) (Nat.le_trans hBW hg1.size)
    obtain ⟨a, ha⟩ : ∃ a, firstIx (linkBad m) m.links = a := ⟨_, rfl⟩
    rw [ha] at hlk
    have Ha : Hid (firstIx (linkBad m) m.links = a) := ha
    clear ha
    go_wp2_with fail
    refine hlk.mono ?_
    rintro e2 w2 ⟨rfl, g2⟩
    clear hlk
    have hg2 : Gr W0 w2 := Gr.trans hg1 g2
    by_cases h0 : 0 ≤ a
    · have HA : Hid (answer m en = (2, a)) := answer_err (valid_link HL.out Ha.out h0) (by decide)
      go_wp2
      go_ret2
      exact ⟨ret_two HA.out.symm, Gr.below hg2 hB0⟩
    · have H1 : Hid (firstIx (linkBad m) m.links = -1) := (firstIx_neg (by rw [Ha.out]; exact h0)).1
      have hrl := firstWrongRule_any m lim lv rv sv R B w2 (hM0.keep (hg2.mono hBW)) (Nat.le_trans hBW hg2.size) hne
      go_wp2_with fail
      refine hrl.mono ?_
      rintro e3 w3 ⟨b, rfl, hfb, g3⟩
      clear hrl
      have hg3 : Gr W0 w3 := Gr.trans hg2 g3
      have Hb : Hid (wrongRule m = b) := (wrongRule_of hfb).symm
      have hbn : 0 ≤ b ∨ b = -1 := by
        rcases hfb with ⟨e, _⟩ | ⟨i, e, _⟩ <;> omega
      clear hfb
      by_cases h0 : 0 ≤ b
      · have HA : Hid (answer m en = (3, b)) := answer_err (valid_rule HL.out H1.out Hb.out h0) (by decide)
        go_wp2
        go_ret2
        exact ⟨ret_two HA.out.symm, Gr.below hg3 hB0⟩
      · have H2 : Hid (wrongRule m = -1) := by show _ = _; rw [Hb.out]; omega
        have hst := fwStart_any m lim lv rv sv R B w3 (hM0.keep (hg3.mono hBW)) (Nat.le_trans hBW hg3.size)
        obtain ⟨c, hc⟩ : ∃ c, firstIx (startBad m) m.starts = c := ⟨_, rfl⟩
        rw [hc] at hst
        have Hc : Hid (firstIx (startBad m) m.starts = c) := hc
        clear hc
        go_wp2_with fail
        refine hst.mono ?_
        rintro e4 w4 ⟨rfl, g4⟩
        clear hst
        have hg4 : Gr W0 w4 := Gr.trans hg3 g4
        by_cases h0 : 0 ≤ c
        · have HA : Hid (answer m en = (4, c)) := answer_err (valid_start HL.out H1.out H2.out Hc.out h0) (by decide)
          go_wp2
          go_ret2
          exact ⟨ret_two HA.out.symm, Gr.below hg4 hB0⟩
        · have H3 : Hid (firstIx (startBad m) m.starts = -1) := (firstIx_neg (by rw [Hc.out]; exact h0)).1
          have hwi := within_any en 0 200 w4
          cases e5 : withinB en 0 200 with
          | false =>
            have HA : Hid (answer m en = (5, 0)) := answer_err (valid_end HL.out H1.out H2.out H3.out e5) (by decide)
            rw [e5] at hwi
            clear e5
            go_wp2_with fail
            refine hwi.mono ?_
            rintro e6 w5 ⟨rfl, rfl⟩
            go_wp2
            go_ret2
            exact ⟨ret_two HA.out.symm, Gr.below hg4 hB0⟩
          | true =>
            rw [e5] at hwi
            go_wp2_with fail
            refine hwi.mono ?_
            rintro e6 w5 ⟨rfl, rfl⟩
            have hg5 := hg4
            have HV : Hid (valid m en = (0, 0)) := valid_ok HL.out H1.out H2.out H3.out e5
            obtain ⟨hRt, hen0, hen⟩ := right_of_valid HV.out
            have hcnt := events_any w5 B lv rv sv m R en (hM0.keep (hg5.mono hBW)) (Nat.le_trans hBW hg5.size) hRt hen
            go_wp2_with fail
            refine hcnt.mono ?_
            rintro e6 w6 ⟨n, pb, rfl, g6, hcase⟩
            clear hcnt
            have hg6 : Gr W0 w6 := Gr.trans hg5 g6
            rcases hcase with ⟨hn, hF, -⟩ | ⟨rfl, hF⟩
            · have HA : Hid (answer m en = (0, 0)) := by show _ = _; rw [answer, if_pos HV.out, if_pos (fewB_iff.2 hF)]
              clear hF
              go_wp2
              go_ret2
              exact ⟨ret_two HA.out.symm, Gr.below hg6 hB0⟩
            · have HA : Hid (answer m en = (6, 0)) := by
                show _ = _
                rw [answer, if_pos HV.out, if_neg]
                intro hf; exact hF (fewB_iff.1 hf)
              clear hF
              go_wp2
              go_ret2
              exact ⟨ret_two HA.out.symm, Gr.below hg6 hB0⟩

end Go.Proofs.Ytbpaigpjffdcbaa
