/-
  The law Longer: true, whatever the model and the ends.
-/
import Derived.Test.YtaieackeflmhgaaK18
import Derived.Test.YtaieackeflmhgaaK17
import Derived.Test.YtaieackeflmhgaaK16
namespace Go.Proofs.Ytaieackeflmhgaa
open Go.RowKit Go.Sort Go.Maps

set_option maxRecDepth 100000 in
set_option maxHeartbeats 8000000 in
theorem longer_any (w : World) (m : Mdl) (lv rv sv : Value) (R : List RuleV) (en la : Int) (h : ModelAt w w.heap.size lv rv sv m R)
    (b1 : m.links.length * 24 ≤ 140737488351232) (b2 : m.rules.length * 56 ≤ 140737488351232) (b3 : m.starts.length * 24 ≤ 140737488351232) (b4 : ∀ r ∈ m.rules, r.es.length * 24 ≤ 140737488351232) :
    Calls Try.prog 6 #[.agg #[.int .i64 m.procs, .int .i64 m.states, .int .i64 m.loads, lv, rv, sv], .int .i64 en, .int .i64 la] w fun e w' => e = .returned (.bool true) ∧ Below w.heap.size w w' := by
  have hne : ∀ r ∈ m.rules, r.es.length ≤ 5864062014634 := fun r hr => by have := b4 r hr; omega
  obtain ⟨W0, hW0⟩ : ∃ W0, W0 = w.alloc (.cells #[.int .i64 m.procs, .int .i64 m.states, .int .i64 m.loads, lv, rv, sv] 26) := ⟨_, rfl⟩
  have HW0 : Hid (W0 = w.alloc (.cells #[.int .i64 m.procs, .int .i64 m.states, .int .i64 m.loads, lv, rv, sv] 26)) := hW0
  have hB0 : Below w.heap.size w W0 := by rw [hW0]; exact (Below.refl _ _).alloc (Nat.le_refl _) _
  have hmb : Blk W0 w.heap.size #[.int .i64 m.procs, .int .i64 m.states, .int .i64 m.loads, lv, rv, sv] 26 := by rw [hW0]; exact heap_alloc_new w _
  have hmade := made_any m lv rv sv R w.heap.size W0 (h.keep hB0) hB0.size b1 b2 b3 b4
  clear hW0
  go_enter Try.func6, Try.ntmps6
  go_upto_if 28 with fail
  rw [← HW0.out]
  clear HW0
  go_cut [1, 2] (fun s1 s2 wc => ∃ a b : Int, s1 = .int .i64 a ∧ s2 = .int .i64 b ∧ a ≤ b ∧ W0 = wc)
  case first =>
    clear hmade hmb hB0
    by_cases hlt : la < en
    · go_wp2
      go_meet
      case rel => exact ⟨la, en, rfl, rfl, by omega, rfl⟩
    · go_wp2
      go_meet
      case rel => exact ⟨en, la, rfl, rfl, by omega, rfl⟩
  case rest =>
    obtain ⟨a, b, rfl, rfl, hab, hwc⟩ := hcut
    subst hwc
    have k0 := Gr.cells (v := .int .i64 m.procs) (hmb.cell 0)
    have k1 := Gr.cells (v := .int .i64 m.states) (hmb.cell 1)
    have k2 := Gr.cells (v := .int .i64 m.loads) (hmb.cell 2)
    have k3 := Gr.cells (v := lv) (hmb.cell 3)
    have k4 := Gr.cells (v := rv) (hmb.cell 4)
    have k5 := Gr.cells (v := sv) (hmb.cell 5)
    have hg0 := Gr.refl W0
    have hlm := hmb.lt
    go_wp2_with fail
    refine hmade.mono ?_
    rintro e1 w1 ⟨lv', rv', sv', R', rfl, hM', g1⟩
    clear hmade
    obtain ⟨a1, c1, hf1, _⟩ := RowsAt.form hM'.links
    obtain ⟨a2, c2, hf2, _⟩ := RowsAt.form hM'.rules.1
    obtain ⟨a3, c3, hf3, _⟩ := RowsAt.form hM'.starts
    subst hf1 hf2 hf3
    obtain ⟨WA, hWA⟩ : ∃ WA, WA = w1.alloc (.cells #[.int .i64 m.procs, .int .i64 m.states, .int .i64 m.loads, (.slice a1 m.links.length c1), (.slice a2 R'.length c2), (.slice a3 m.starts.length c3)] 31) := ⟨_, rfl⟩
    have HWA : Hid (WA = w1.alloc (.cells #[.int .i64 m.procs, .int .i64 m.states, .int .i64 m.loads, (.slice a1 m.links.length c1), (.slice a2 R'.length c2), (.slice a3 m.starts.length c3)] 31)) := hWA
    have hg1 : Gr W0 WA := by rw [hWA]; exact Gr.alloc (W0 := W0) g1 _
    have hbA : Below w1.heap.size w1 WA := by rw [hWA]; exact (Below.refl _ _).alloc (Nat.le_refl _) _
    have hkb : Blk WA w1.heap.size #[.int .i64 m.procs, .int .i64 m.states, .int .i64 m.loads, (.slice a1 m.links.length c1), (.slice a2 R'.length c2), (.slice a3 m.starts.length c3)] 31 := by rw [hWA]; exact heap_alloc_new w1 _
    clear hWA
    have hMA := hM'.keep hbA
    have j0 := Gr.cells (v := .int .i64 m.procs) (hkb.cell 0)
    have j1 := Gr.cells (v := .int .i64 m.states) (hkb.cell 1)
    have j2 := Gr.cells (v := .int .i64 m.loads) (hkb.cell 2)
    have j3 := Gr.cells (v := .slice a1 m.links.length c1) (hkb.cell 3)
    have j4 := Gr.cells (v := .slice a2 R'.length c2) (hkb.cell 4)
    have j5 := Gr.cells (v := .slice a3 m.starts.length c3) (hkb.cell 5)
    have hgA := Gr.refl WA
    have hlk := hkb.lt
    have hr1 := run_any2 m (.slice a1 m.links.length c1) (.slice a2 R'.length c2) (.slice a3 m.starts.length c3) R' w1.heap.size a WA hMA hbA.size hne
    go_upto_region 6 with fail
    rw [← HWA.out]
    clear HWA
    go_wp2_with fail
    refine hr1.mono ?_
    rintro e2 w2 ⟨g2, s1, l1, rfl, -, hd1⟩
    clear hr1
    have hgA2 : Gr WA w2 := g2
    have hg2 : Gr W0 w2 := Gr.trans hg1 g2
    have hr2 := run_any2 m (.slice a1 m.links.length c1) (.slice a2 R'.length c2) (.slice a3 m.starts.length c3) R' w1.heap.size b w2 (hMA.keep (hgA2.mono hbA.size)) (Nat.le_trans hbA.size hgA2.size) hne
    go_wp2_with fail
    refine hr2.mono ?_
    rintro e3 w3 ⟨g3, s2, l2, rfl, -, hd2⟩
    clear hr2 j0 j1 j2 j3 j4 j5
    have hg3 : Gr W0 w3 := Gr.trans hg2 g3
    have hbw3 : Below w.heap.size w w3 := Gr.below hg3 hB0
    have hrf := refCheck_any m lv rv sv R w.heap.size a w3 (h.keep hbw3) hbw3.size hne
    go_wp2_with fail
    refine hrf.mono ?_
    rintro e4 w4 ⟨pv1, rfl, g4, -⟩
    clear hrf
    have hg4 : Gr W0 w4 := Gr.trans hg3 g4
    have hbw4 : Below w.heap.size w w4 := Gr.below hg4 hB0
    have hrf := refCheck_any m lv rv sv R w.heap.size b w4 (h.keep hbw4) hbw4.size hne
    go_wp2_with fail
    refine hrf.mono ?_
    rintro e5 w5 ⟨pv2, rfl, g5, -⟩
    clear hrf
    have hg5 : Gr W0 w5 := Gr.trans hg4 g5
    have hbw5 : Below w.heap.size w w5 := Gr.below hg5 hB0
    have hnum1 := num_any (answer m a).1 w5
    have hnum2 := num_any (answer m b).1 w5
    by_cases ha : answer m a = (0, 0)
    · by_cases hb : answer m b = (0, 0)
      · obtain ⟨sb1, lb1, t1, L1, rfl, rfl, hR1⟩ := hd1 ha
        obtain ⟨sb2, lb2, t2, L2, rfl, rfl, hR2⟩ := hd2 hb
        clear hd1 hd2
        obtain ⟨hv, hFew⟩ := answer_zero hb
        obtain ⟨hRt, hen0, hen⟩ := right_of_valid hv
        rw [ha] at hnum1
        rw [hb] at hnum2
        rw [ha, hb]
        clear ha hb hv
        have hlong := longer hRt hab hen hR1.stop hR2.stop
        have hI1 := atK_inv hRt (Int.le_trans hab hen) t1
        have hI2 := atK_inv hRt hen t2
        have hR1 := ((hR1.keep g3).keep g4).keep g5
        have hR2 := (hR2.keep g4).keep g5
        have hlen2 : ∀ (p : Nat) (l : List Dn), (atK m b t2).done[p]? = some l → l.length ≤ 5000 := fun p l hl => by
          obtain ⟨k, hk, hnk⟩ := hFew
          have h1 := hI2.dl p l hl
          have h2 := atK_all m b k
          rw [atK_end hnk hR2.stop] at h2
          omega
        have hp1 := hRt.lim.p1
        have hp2 := hRt.lim.p2
        obtain ⟨n, hn⟩ : ∃ n : Nat, m.procs = (n : Int) := ⟨m.procs.toNat, by omega⟩
        have hnp : np m = n := by unfold np; omega
        have Hnp : Hid (np m = n) := hnp
        have hn6 : n ≤ 6 := by omega
        have p0 : w5.cell? ⟨w.heap.size, 0, none⟩ = some (.int .i64 (n : Int)) := by rw [← hn]; exact k0 _ hg5
        rw [hnp]
        have hlm5 : w.heap.size < w5.heap.size := Nat.lt_of_lt_of_le hlm hg5.size
        clear k0 k1 k2 k3 k4 k5 hn hnp hFew
        go_wp2_with (go_at_call 18; refine hnum1.mono ?_; rintro e6 w6 ⟨rfl, hw6⟩; rw [hw6]; clear hw6)
        clear hnum1 hnum2
        go_loopw [23] (fun s23 wr => ∃ i : Nat, s23 = .int .i64 i ∧ i ≤ n ∧ Below w5.heap.size w5 wr) (fun s23 _ => n - (intOf s23).toNat)
        case atStart => exact ⟨0, rfl, Nat.zero_le _, Below.refl _ _⟩
        case round =>
          obtain ⟨i, rfl, hi, hbr⟩ := hrel
          have p0r : wr.cell? ⟨w.heap.size, 0, none⟩ = some (.int .i64 (n : Int)) := (hbr.cell (p := ⟨w.heap.size, 0, none⟩) hlm5).trans p0
          have hlmr : w.heap.size < wr.heap.size := Nat.lt_of_lt_of_le hlm5 hbr.size
          by_cases hlt : i < n
          · have hQ1 := hR1.keep hbr
            have hQ2 := hR2.keep hbr
            obtain ⟨v1, hv1⟩ := get_of_lt (d := L1) (k := i) (by rw [hQ1.len, Hnp.out]; exact hlt)
            obtain ⟨v2, hv2⟩ := get_of_lt (d := L2) (k := i) (by rw [hQ2.len, Hnp.out]; exact hlt)
            obtain ⟨l, hl⟩ := get_of_lt (d := (atK m a t1).done) (k := i) (by rw [hI1.ld, Hnp.out]; exact hlt)
            obtain ⟨x, hlx, hlt1, hlt2⟩ := hlong i l hl
            have hr1 := hQ1.rows i v1 l hv1 hl
            have hr2 := hQ2.rows i v2 (l ++ x) hv2 hlx
            have hlen := hlen2 i _ hlx
            have hlenle : l.length ≤ (l ++ x).length := by simp
            obtain ⟨ao1, cap1, hf1, hcp1⟩ := RowsAt.form hr1
            obtain ⟨ao2, cap2, hf2, hcp2⟩ := RowsAt.form hr2
            subst hf1 hf2
            obtain ⟨ln, hln⟩ : ∃ ln, ln = (l ++ x).length := ⟨_, rfl⟩
            have Hln : Hid (ln = (l ++ x).length) := hln
            rw [← hln] at hlenle hcp2 hlen hr2 hv2
            clear hln
            have cl := cell_regrown (v := .slice ao1 l.length cap1) ((hQ1.ls.cell i).trans (by simpa using hv1))
            have cn := cell_regrown (v := .slice ao2 ln cap2) ((hQ2.ls.cell i).trans (by simpa using hv2))
            have hil : (i : Int) < n := by omega
            have dl1 := hQ1.ls.lt
            have dl2 := hQ2.ls.lt
            have hltn : ¬ (ln : Int) < l.length := by omega
            go_upto_region 19 with fail
            refine wp_region_quiet_below (by kernel_rfl) (by kernel_rfl) ?_
            repeat (quiet_step (fail))
            refine wpQuiet_nil ?_
            intro wq hw'
            have hbq := below_of_regrown hw'
            clear hw' cl cn
            have hU1 := hQ1.keep hbq
            have hU2 := hQ2.keep hbq
            have cl := cell_regrown (v := .slice ao1 l.length cap1) ((hU1.ls.cell i).trans (by simpa using hv1))
            have cn := cell_regrown (v := .slice ao2 ln cap2) ((hU2.ls.cell i).trans (by simpa using hv2))
            have el1 := hU1.ls.lt
            have el2 := hU2.ls.lt
            have hlc : l.length ≤ cap2 := Nat.le_trans hlenle hcp2
            have hal : ∀ q : Regrown, Calls Try.prog 24 #[.slice ao1 l.length cap1, .slice ao2 l.length cap2] (grow (redrawn wq q.d) q.os) fun e' w'' => e' = .returned (.bool true) ∧ ∃ q : Regrown, w'' = grow (redrawn wq q.d) q.os := fun q => by
              have hb2 := below_regrown wq q.d q.os
              have r2 := ((hr2.keep hbq).mono hbq.size).take l.length (by rw [← Hln.out]; exact hlenle)
              rw [List.take_left'  rfl] at r2
              exact Calls.regrown_of (alike_any _ wq.heap.size _ _ l (((hr1.keep hbq).mono hbq.size).keep hb2) (r2.keep hb2) hb2.size (by omega))
            go_upto_region 21 with fail
            refine wp_region_quiet_below (by kernel_rfl) (by kernel_rfl) ?_
            repeat (quiet_step (exact hal _))
            refine wpQuiet_nil ?_
            intro wy hw'
            have hby := below_of_regrown hw'
            clear hw' cl cn hal
            have hbwy : Below w5.heap.size w5 wy := hbr.trans ((hbq.trans (hby.mono hbq.size)).mono hbr.size)
            have hY1 := hU1.keep hby
            have hY2 := hU2.keep hby
            have hr2y := (((hr2.keep hbq).mono hbq.size).keep hby).mono hby.size
            clear hQ1 hQ2 hU1 hU2 hr1 hr2 dl1 dl2 el1 el2
            go_wp2
            go_loopw [25] (fun s25 wr => ∃ j : Nat, s25 = .int .i64 j ∧ j ≤ ln ∧ Below wy.heap.size wy wr) (fun s25 _ => ln - (intOf s25).toNat)
            case atStart => exact ⟨0, rfl, Nat.zero_le _, Below.refl _ _⟩
            case round =>
              obtain ⟨j, rfl, hj, hbz⟩ := hrel
              have hZ1 := hY1.keep hbz
              have hZ2 := hY2.keep hbz
              have c2 : wr.cell? ⟨lb2, i, none⟩ = some (.slice ao2 ln cap2) := (hZ2.ls.cell i).trans (by simpa using hv2)
              have zl1 := hZ1.ls.lt
              have zl2 := hZ2.ls.lt
              by_cases hjl : j < ln
              · obtain ⟨y, hy⟩ := get_of_lt (d := l ++ x) (k := j) (by rw [← Hln.out]; exact hjl)
                obtain ⟨yb, yo, hyao, hyB, hyc⟩ := RowsAt.at_ (hr2y.keep hbz) hy
                subst hyao
                have y0 := cell_regrown (v := .int .i64 y.it.t) (hyc 0 _ rfl)
                simp only [Nat.add_zero] at y0
                have e1 := cell_regrown (v := .slice ao1 l.length cap1) ((hZ1.ls.cell i).trans (by simpa using hv1))
                have e2 := cell_regrown (v := .slice (some ⟨yb, yo, none⟩) ln cap2) c2
                have hjl' : (j : Int) < ln := by omega
                have hyz : yb < wr.heap.size := Nat.lt_of_lt_of_le hyB hbz.size
                by_cases hjx : j < l.length
                · rw [List.getElem?_append_left hjx] at hy
                  have hyt := hlt1 y (List.mem_of_getElem? hy)
                  have hn1 : ¬ b ≤ y.it.t := by omega
                  have hn2 : ¬ a ≤ y.it.t := by omega
                  have hn3 : ¬ (l.length : Int) ≤ j := by omega
                  clear hyc hy
                  go_upto_region 27 with fail
                  refine wp_region_quiet_below (by kernel_rfl) (by kernel_rfl) ?_
                  repeat (first | quiet_step (fail) | go_big_quiet_step (fail))
                  refine wpQuiet_nil ?_
                  intro wv hw'
                  have hbv := below_of_regrown hw'
                  clear hw' y0 e1 e2 c2
                  go_wp2
                  go_roundw
                  case rel => exact ⟨j + 1, by go_num, hjl, hbz.trans (hbv.mono hbz.size)⟩
                  case measure => simp [intOf]; omega
                · rw [List.getElem?_append_right (by omega)] at hy
                  have hyt := hlt2 y (List.mem_of_getElem? hy)
                  have hn1 : ¬ b ≤ y.it.t := by omega
                  have hn2 : a ≤ y.it.t := by omega
                  have hn3 : (l.length : Int) ≤ j := by omega
                  clear hyc hy
                  go_upto_region 27 with fail
                  refine wp_region_quiet_below (by kernel_rfl) (by kernel_rfl) ?_
                  repeat (first | quiet_step (fail) | go_big_quiet_step (fail))
                  refine wpQuiet_nil ?_
                  intro wv hw'
                  have hbv := below_of_regrown hw'
                  clear hw' y0 e1 e2 c2
                  go_wp2
                  go_roundw
                  case rel => exact ⟨j + 1, by go_num, hjl, hbz.trans (hbv.mono hbz.size)⟩
                  case measure => simp [intOf]; omega
              · go_wp2
                go_roundw
                case rel => exact ⟨i + 1, by go_num, hlt, hbwy.trans (hbz.mono hbwy.size)⟩
                case measure => simp [intOf]; omega
          · go_wp2
            go_ret
            exact ⟨rfl, hbw5.trans (hbr.mono hbw5.size)⟩
      · have h1 := answer_ne hb
        rw [ha] at hnum1
        rw [ha]
        clear ha hb hd1 hd2
        generalize answer m b = z at *
        go_wp2_with (go_at_call 18; (first | refine hnum1.mono ?_ | refine hnum2.mono ?_); rintro e6 w6 ⟨rfl, hw6⟩; rw [hw6]; clear hw6)
        go_ret
        exact ⟨rfl, hbw5⟩
    · have h1 := answer_ne ha
      clear ha hd1 hd2
      generalize answer m a = y at *
      generalize answer m b = z at *
      go_wp2_with (go_at_call 18; (first | refine hnum1.mono ?_ | refine hnum2.mono ?_); rintro e6 w6 ⟨rfl, hw6⟩; rw [hw6]; clear hw6)
      go_ret
      exact ⟨rfl, hbw5⟩

end Go.Proofs.Ytaieackeflmhgaa

