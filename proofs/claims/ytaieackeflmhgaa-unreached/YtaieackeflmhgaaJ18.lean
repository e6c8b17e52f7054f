/-
  The law Unreached: true, whatever the model, the end, the start, its other load and the process.
  A model, out of its reading: what the row gives, as a plain model in memory.
-/
import Derived.Test.YtaieackeflmhgaaJ10
import Derived.Test.YtaieackeflmhgaaJ17
import Derived.Test.YtaieackeflmhgaaJ04
import Derived.ProofKit
import Derived.SizedLaws
import Derived.Deep.Slices
import Derived.Deep.Strs
import Derived.Lib.SmallJoins
namespace Go.Proofs.Ytaieackeflmhgaa
open Go.RowKit Go.Sort Go.Maps

set_option maxRecDepth 100000 in
set_option maxHeartbeats 8000000 in
theorem unreached_any (w : World) (m : Mdl) (lv rv sv : Value) (R : List RuleV) (en start load p : Int) (h : ModelAt w w.heap.size lv rv sv m R)
    (b1 : m.links.length * 24 ≤ 140737488351232) (b2 : m.rules.length * 56 ≤ 140737488351232) (b3 : m.starts.length * 24 ≤ 140737488351232) (b4 : ∀ r ∈ m.rules, r.es.length * 24 ≤ 140737488351232) :
    Calls Try.prog 7 #[.agg #[.int .i64 m.procs, .int .i64 m.states, .int .i64 m.loads, lv, rv, sv], .int .i64 en, .int .i64 start, .int .i64 load, .int .i64 p] w fun e w' => e = .returned (.bool true) ∧ Below w.heap.size w w' := by
  have hne : ∀ r ∈ m.rules, r.es.length ≤ 5864062014634 := fun r hr => by have := b4 r hr; omega
  obtain ⟨W0, hW0⟩ : ∃ W0, W0 = w.alloc (.cells #[.int .i64 m.procs, .int .i64 m.states, .int .i64 m.loads, lv, rv, sv] 26) := ⟨_, rfl⟩
  have HW0 : Hid (W0 = w.alloc (.cells #[.int .i64 m.procs, .int .i64 m.states, .int .i64 m.loads, lv, rv, sv] 26)) := hW0
  have hB0 : Below w.heap.size w W0 := by rw [hW0]; exact (Below.refl _ _).alloc (Nat.le_refl _) _
  have hmb : Blk W0 w.heap.size #[.int .i64 m.procs, .int .i64 m.states, .int .i64 m.loads, lv, rv, sv] 26 := by rw [hW0]; exact heap_alloc_new w _
  have hmade := made_own m lv rv sv R w.heap.size W0 (h.keep hB0) hB0.size b1 b2 b3 b4
  have k0 := Gr.cells (v := .int .i64 m.procs) (hmb.cell 0)
  have k1 := Gr.cells (v := .int .i64 m.states) (hmb.cell 1)
  have k2 := Gr.cells (v := .int .i64 m.loads) (hmb.cell 2)
  have k3 := Gr.cells (v := lv) (hmb.cell 3)
  have k4 := Gr.cells (v := rv) (hmb.cell 4)
  have k5 := Gr.cells (v := sv) (hmb.cell 5)
  have hg0 := Gr.refl W0
  have hlm := hmb.lt
  clear hW0
  go_enter Try.func7, Try.ntmps7
  go_upto_region 1 with fail
  rw [← HW0.out]
  clear HW0
  go_wp2_with fail
  refine hmade.mono ?_
  rintro e1 w1 ⟨lv', rv', sv', R', rfl, hM', g1, Bs, hBs0, hBs1, hLk, hRl, hSt⟩
  clear hmade
  obtain ⟨a1, c1, hf1, _⟩ := RowsAt.form hM'.links
  obtain ⟨a2, c2, hf2, _⟩ := RowsAt.form hM'.rules.1
  obtain ⟨a3, c3, hf3, _⟩ := RowsAt.form hM'.starts
  subst hf1 hf2 hf3
  obtain ⟨WA, hWA⟩ : ∃ WA, WA = w1.alloc (.cells #[.int .i64 m.procs, .int .i64 m.states, .int .i64 m.loads, (.slice a1 m.links.length c1), (.slice a2 R'.length c2), (.slice a3 m.starts.length c3)] 31) := ⟨_, rfl⟩
  have HWA : Hid (WA = w1.alloc (.cells #[.int .i64 m.procs, .int .i64 m.states, .int .i64 m.loads, (.slice a1 m.links.length c1), (.slice a2 R'.length c2), (.slice a3 m.starts.length c3)] 31)) := hWA
  have hg1 : Gr W0 WA := by rw [hWA]; exact Gr.alloc (W0 := W0) g1 _
  have hbA : Below w1.heap.size w1 WA := by rw [hWA]; exact (Below.refl _ _).alloc (Nat.le_refl _) _
  have hkb : Blk WA w1.heap.size #[.int .i64 m.procs, .int .i64 m.states, .int .i64 m.loads, (.slice a1 m.links.length c1), (.slice a2 R'.length c2), (.slice a3 m.starts.length c3)] 31 := by rw [hWA]; exact heap_alloc_new w1 _
  clear hWA
  have hMA := hM'.keep hbA
  have j0 := Gr.cells (v := .int .i64 m.procs) (hkb.cell 0)
  have j1 := Gr.cells (v := .int .i64 m.states) (hkb.cell 1)
  have j2 := Gr.cells (v := .int .i64 m.loads) (hkb.cell 2)
  have j3 := Gr.cells (v := .slice a1 m.links.length c1) (hkb.cell 3)
  have j4 := Gr.cells (v := .slice a2 R'.length c2) (hkb.cell 4)
  have j5 := Gr.cells (v := .slice a3 m.starts.length c3) (hkb.cell 5)
  have hgA := Gr.refl WA
  have hlk := hkb.lt
  have hr1 := run_in2 m (.slice a1 m.links.length c1) (.slice a2 R'.length c2) (.slice a3 m.starts.length c3) R' w1.heap.size en WA hMA hbA.size hne
  go_upto_region 2 with fail
  rw [← HWA.out]
  clear HWA
  go_wp2_with fail
  refine hr1.mono ?_
  rintro e2 w2 ⟨g2, s1, l1, rfl, hc1, hd1⟩
  clear hr1
  have hgA2 : Gr WA w2 := g2
  have hg2 : Gr W0 w2 := Gr.trans hg1 g2
  have hbw2 : Below w.heap.size w w2 := Gr.below hg2 hB0
  have hrf := refCheck_any m lv rv sv R w.heap.size en w2 (h.keep hbw2) hbw2.size hne
  go_wp2_with fail
  refine hrf.mono ?_
  rintro e3 w3 ⟨pv, rfl, g3, -⟩
  clear hrf
  have hg3 : Gr W0 w3 := Gr.trans hg2 g3
  have hgA3 : Gr WA w3 := Gr.trans hgA2 g3
  have hbw3 : Below w.heap.size w w3 := Gr.below hg3 hB0
  have hnum := num_any (answer m en).1 w3
  have n1 := eql_nil (P := Try.prog) Try.underlying55
  have n2 := eql_nil (P := Try.prog) Try.underlying56
  by_cases ha : answer m en = (0, 0)
  · obtain ⟨sb1, lb1, t1, L1, rfl, rfl, hR1⟩ := hd1 ha
    obtain ⟨hv, -⟩ := answer_zero ha
    obtain ⟨hRt, hen0, hen⟩ := right_of_valid hv
    have hI1 := atK_inv hRt hen t1
    have hlen1 : ∀ (p : Nat) (l : List Dn), (atK m en t1).done[p]? = some l → l.length ≤ 5000 := fun p l hl => by
      obtain ⟨k, hk, hnk⟩ := (answer_zero ha).2
      have h1 := hI1.dl p l hl
      have h2 := atK_all m en k
      rw [atK_end hnk hR1.stop] at h2
      omega
    rw [ha] at hnum
    rw [ha]
    clear ha hv hc1 hd1
    have hp1 := hRt.lim.p1
    have hp2 := hRt.lim.p2
    obtain ⟨n, hn⟩ : ∃ n : Nat, m.procs = (n : Int) := ⟨m.procs.toNat, by omega⟩
    have hnp : np m = n := by unfold np; omega
    have Hnp : Hid (np m = n) := hnp
    have Hn : Hid (m.procs = (n : Int)) := hn
    have hn6 : n ≤ 6 := by omega
    obtain ⟨aos, caps, hsv, hcaps⟩ := RowsAt.form h.starts
    subst hsv
    have p0 : w3.cell? ⟨w.heap.size, 0, none⟩ = some (.int .i64 (n : Int)) := by rw [← hn]; exact k0 _ hg3
    have p1 : w3.cell? ⟨w.heap.size, 1, none⟩ = some (.int .i64 m.states) := k1 _ hg3
    have p2 : w3.cell? ⟨w.heap.size, 2, none⟩ = some (.int .i64 m.loads) := k2 _ hg3
    have p3 : w3.cell? ⟨w.heap.size, 3, none⟩ = some lv := k3 _ hg3
    have p4 : w3.cell? ⟨w.heap.size, 4, none⟩ = some rv := k4 _ hg3
    have p5 : w3.cell? ⟨w.heap.size, 5, none⟩ = some (.slice aos m.starts.length caps) := k5 _ hg3
    rw [hnp]
    have hlm3 : w.heap.size < w3.heap.size := Nat.lt_of_lt_of_le hlm hg3.size
    clear hn hnp k0 k1 k2 k3 k4 k5
    go_upto_region 8 with (go_at_call 18; refine hnum.mono ?_; rintro e6 w6 ⟨rfl, hw6⟩; rw [hw6]; clear hw6)
    clear hnum
    rcases Int.lt_or_le start 0 with d1 | d1
    · go_wp2
      all_goals
        go_ret
        exact ⟨rfl, hbw3⟩
    rcases Int.lt_or_le start m.starts.length with d2 | d2
    rotate_left
    · go_wp2
      all_goals
        go_ret
        exact ⟨rfl, hbw3⟩
    rcases Int.lt_or_le p 0 with d3 | d3
    · go_wp2
      all_goals
        go_ret
        exact ⟨rfl, hbw3⟩
    rcases Int.lt_or_le p n with d4 | d4
    rotate_left
    · go_wp2
      all_goals
        go_ret
        exact ⟨rfl, hbw3⟩
    rcases Int.lt_or_le load 0 with d5 | d5
    · go_wp2
      all_goals
        go_ret
        exact ⟨rfl, hbw3⟩
    rcases Int.lt_or_le load m.loads with d6 | d6
    rotate_left
    · go_wp2
      all_goals
        go_ret
        exact ⟨rfl, hbw3⟩
    obtain ⟨st, hst⟩ : ∃ st : Nat, start = (st : Int) := ⟨start.toNat, by omega⟩
    subst hst
    obtain ⟨pn, hpn⟩ : ∃ pn : Nat, p = (pn : Int) := ⟨p.toNat, by omega⟩
    subst hpn
    have hpnn : pn < n := by omega
    have hsl : st < m.starts.length := by omega
    obtain ⟨x, hx⟩ := get_of_lt hsl
    have hxs := hRt.start hx
    obtain ⟨xb, xo, hxao, hxB, hxc⟩ := RowsAt.at_ (h.keep hbw3).starts hx
    subst hxao
    have hrq : ∀ q : Regrown, Calls Try.prog 25 #[.agg #[.int .i64 (n : Int), .int .i64 m.states, .int .i64 m.loads, lv, rv, .slice (some ⟨xb, xo, none⟩) m.starts.length caps], .int .i64 x.p, .int .i64 (pn : Int)] (grow (redrawn w3 q.d) q.os) fun e' w'' => e' = .returned (.bool (!apartFrom m x.p.toNat pn)) ∧ ∃ q : Regrown, w'' = grow (redrawn w3 q.d) q.os := fun q => by
      have hb2 := below_regrown w3 q.d q.os
      have := Calls.regrown_of (reaches_any m lv rv (.slice (some ⟨xb, xo, none⟩) m.starts.length caps) w.heap.size x.p (pn : Int) (grow (redrawn w3 q.d) q.os) (RowsAt.keep (h.keep hbw3).links (hb2.mono hbw3.size)) (Nat.le_trans hbw3.size hb2.size) hRt hxs.1 hxs.2.1 d3 (by rw [Hn.out]; exact d4))
      rw [Int.toNat_natCast, Hn.out] at this
      exact this
    have hUx : apartFrom m x.p.toNat x.p.toNat = false := apart_self (by have := hxs.2.1; unfold np; omega)
    have hC := reach_closed hRt (a := x.p.toNat) (by have := hxs.2.1; unfold np; omega)
    obtain ⟨tb, htb⟩ : ∃ tb, tb = apartFrom m x.p.toNat pn := ⟨_, rfl⟩
    rw [← htb] at hrq
    have q0 := cell_regrown p0
    have q1 := cell_regrown p1
    have q2 := cell_regrown p2
    have q3 := cell_regrown p3
    have q4 := cell_regrown p4
    have q5 := cell_regrown p5
    have x0 := cell_regrown (hxc 0 (.int .i64 x.p) rfl)
    simp only [Nat.add_zero] at x0
    have hxl3 : xb < w3.heap.size := Nat.lt_of_lt_of_le hxB hbw3.size
    have Hx : Hid (m.starts[st]? = some x) := hx
    have Htb : Hid (tb = apartFrom m x.p.toNat pn) := htb
    clear htb hx hxc
    go_upto_region 10 with fail
    refine wp_region_quiet_below (by kernel_rfl) (by kernel_rfl) ?_
    repeat (quiet_step (exact hrq _))
    refine wpQuiet_nil ?_
    intro wq hw'
    have hbq := below_of_regrown hw'
    have hbwq : Below w.heap.size w wq := hbw3.trans (hbq.mono hbw3.size)
    clear hw' q0 q1 q2 q3 q4 q5 x0 hrq
    cases tb with
    | false =>
      go_wp2
      go_ret
      exact ⟨rfl, hbwq⟩
    | true =>
      have hgAq : Gr WA wq := Gr.trans hgA3 hbq
      have hw1q : Below w1.heap.size w1 wq := hbA.trans (Below.mono hgAq hbA.size)
      have hSq : Own stE wq Bs (.slice a3 m.starts.length c3) m.starts := hSt.keep (kept_of_below' hw1q) (fun _ _ e => e)
      obtain ⟨g, cap', hg, hcap'⟩ := Own.at_ hSq Hx.out
      simp only [Value.slice.injEq] at hg
      obtain ⟨rfl, -, rfl⟩ := hg
      obtain ⟨cc, hgb⟩ := hSq.blk
      have gc : wq.cell? ⟨g, st * 3 + 2, none⟩ = some (.int .i64 x.l) := hSq.cell (E := stE) Hx.out (k := 2) rfl
      have gf : wq.frozen? ⟨g, st * 3 + 2, none⟩ = false := hgb.frozen _
      have hgl : Bs ≤ g ∧ g < w1.heap.size := hSt.lt rfl
      have hgq : g < wq.heap.size := (hSq.lt rfl).2
      have hkq : Blk wq w1.heap.size _ _ := hkb.keep (kept_of_below' hgAq) (fun e => e)
      have c5 : wq.cell? ⟨w1.heap.size, 5, none⟩ = some (.slice (some ⟨g, 0, none⟩) m.starts.length c3) := hkq.cell 5
      have hlkq := hkq.lt
      obtain ⟨WS, hWS⟩ : ∃ WS, WS = wq.setCell ⟨g, st * 3 + 2, none⟩ (.int .i64 load) := ⟨_, rfl⟩
      have HWS : Hid (WS = wq.setCell ⟨g, st * 3 + 2, none⟩ (.int .i64 load)) := hWS
      have hbS : Below Bs w1 WS := by rw [hWS]; exact Below.setCell (hw1q.mono hBs1) hgl.1 _
      have hsS : WS.heap.size = wq.heap.size := by rw [hWS]; simp [World.setCell]
      have HsS : Hid (WS.heap.size = wq.heap.size) := hsS
      have hBq : Bs ≤ wq.heap.size := Nat.le_trans hBs1 hw1q.size
      have hM2 : ModelAt WS wq.heap.size (.slice a1 m.links.length c1) (.slice a2 R'.length c2) (.slice (some ⟨g, 0, none⟩) m.starts.length c3) (reload m st x load) R' := by
        refine ⟨(RowsAt.keep hLk hbS).mono hBq, ⟨(RowsAt.keep hRl.1 hbS).mono hBq, fun y hy => (RowsAt.keep (hRl.2 y hy) hbS).mono hBq⟩, ?_, hM'.same⟩
        rw [hWS]; exact starts_set hSq Hx.out load
      have hkS : Blk WS w1.heap.size #[.int .i64 m.procs, .int .i64 m.states, .int .i64 m.loads, (.slice a1 m.links.length c1), (.slice a2 R'.length c2), (.slice (some ⟨g, 0, none⟩) m.starts.length c3)] 31 := by rw [hWS]; exact hkq.set_other (a := ⟨g, st * 3 + 2, none⟩) (show w1.heap.size ≠ g by omega) _
      have hkF : KeptF (fun i => i = g) wq WS := by rw [hWS]; exact (KeptF.refl (fun i => i = g) wq).setCell (p := ⟨g, st * 3 + 2, none⟩) (.inl rfl) _
      have hm' := right_reload hRt Hx.out d5 d6
      have hr2 := run_in2 (reload m st x load) (.slice a1 m.links.length c1) (.slice a2 R'.length c2) (.slice (some ⟨g, 0, none⟩) m.starts.length c3) R' wq.heap.size en WS hM2 (by rw [hsS]; exact Nat.le_refl _) hne
      have hsti : (st : Int) < m.starts.length := d2
      clear hWS hsS
      go_upto_region 14 with fail
      rw [← HWS.out]
      have r0 : WS.cell? ⟨w1.heap.size, 0, none⟩ = some (.int .i64 m.procs) := hkS.cell 0
      have r1 : WS.cell? ⟨w1.heap.size, 1, none⟩ = some (.int .i64 m.states) := hkS.cell 1
      have r2 : WS.cell? ⟨w1.heap.size, 2, none⟩ = some (.int .i64 m.loads) := hkS.cell 2
      have r3 : WS.cell? ⟨w1.heap.size, 3, none⟩ = some (.slice a1 m.links.length c1) := hkS.cell 3
      have r4 : WS.cell? ⟨w1.heap.size, 4, none⟩ = some (.slice a2 R'.length c2) := hkS.cell 4
      have r5 : WS.cell? ⟨w1.heap.size, 5, none⟩ = some (.slice (some ⟨g, 0, none⟩) m.starts.length c3) := hkS.cell 5
      have hlkS := hkS.lt
      clear j0 j1 j2 j3 j4 j5 gc gf c5
      go_wp2_with fail
      refine hr2.mono ?_
      rintro e4 w4 ⟨g4, s2, l2, rfl, hc2, hd2⟩
      clear hr2 r0 r1 r2 r3 r4 r5
      have hwg : w.heap.size < g := by have h1 := hgl.1; omega
      have hbw4 : Below w.heap.size w w4 := (hbwq.trans (KeptF.below hkF hbwq.size (fun i hi => by omega))).trans (g4.mono (Nat.le_trans hbwq.size hkF.size))
      have hnum := num_any (answer (reload m st x load) en).1 w4
      rcases answer_right hm' hen0 hen with ha2 | ha2
      · obtain ⟨sb2, lb2, t2, L2, rfl, rfl, hR2⟩ := hd2 ha2
        rw [ha2] at hnum
        rw [ha2]
        clear ha2 hc2 hd2
        have hnp2 : np (reload m st x load) = n := Hnp.out
        rw [hnp2]
        clear hnp2
        have p0q : wq.cell? ⟨w.heap.size, 0, none⟩ = some (.int .i64 (n : Int)) := (hbq.cell (p := ⟨w.heap.size, 0, none⟩) hlm3).trans p0
        have hlmq : w.heap.size < wq.heap.size := Nat.lt_of_lt_of_le hlm3 hbq.size
        have p0S : WS.cell? ⟨w.heap.size, 0, none⟩ = some (.int .i64 (n : Int)) := (hkF.cell (p := ⟨w.heap.size, 0, none⟩) hlmq (fun e => by have e : w.heap.size = g := e; omega)).trans p0q
        have hlmS : w.heap.size < WS.heap.size := Nat.lt_of_lt_of_le hlmq hkF.size
        have p04 : w4.cell? ⟨w.heap.size, 0, none⟩ = some (.int .i64 (n : Int)) := (g4.cell (p := ⟨w.heap.size, 0, none⟩) hlmS).trans p0S
        have hlm4 : w.heap.size < w4.heap.size := Nat.lt_of_lt_of_le hlmS g4.size
        have hgWA : g < WA.heap.size := Nat.lt_of_lt_of_le hgl.2 hbA.size
        have hQ1 := (((hR1.keep (kept_of_below' g3) (fun _ e => e.elim)).keep (kept_of_below' hbq) (fun _ e => e.elim)).keep hkF (fun i hi => by omega)).keep (kept_of_below' g4) (fun _ e => e.elim)
        have hpure := unreached hRt hm' hen Hx.out hC hUx hR1.stop hR2.stop Htb.out.symm
        obtain ⟨l, hl⟩ := get_of_lt (d := (atK m en t1).done) (k := pn) (by rw [hI1.ld, Hnp.out]; exact hpnn)
        obtain ⟨s, hs⟩ := get_of_lt (d := (atK m en t1).states) (k := pn) (by rw [hI1.ls, Hnp.out]; exact hpnn)
        have hl2 := hpure.2.symm.trans hl
        have hs2 := hpure.1.symm.trans hs
        obtain ⟨v1, hv1⟩ := get_of_lt (d := L1) (k := pn) (by rw [hQ1.len, Hnp.out]; exact hpnn)
        obtain ⟨v2, hv2⟩ := get_of_lt (d := L2) (k := pn) (by rw [hR2.len]; show pn < np m; rw [Hnp.out]; exact hpnn)
        have hr1 := (hQ1.rows pn v1 l hv1 hl).at
        have hr2 := (hR2.rows pn v2 l hv2 hl2).at
        have hlen := hlen1 pn l hl
        obtain ⟨ao1, cap1, hf1, hcp1⟩ := RowsAt.form hr1
        obtain ⟨ao2, cap2, hf2, hcp2⟩ := RowsAt.form hr2
        subst hf1 hf2
        have hal : ∀ q : Regrown, Calls Try.prog 24 #[.slice ao1 l.length cap1, .slice ao2 l.length cap2] (grow (redrawn w4 q.d) q.os) fun e' w'' => e' = .returned (.bool true) ∧ ∃ q : Regrown, w'' = grow (redrawn w4 q.d) q.os := fun q => by
          have hb2 := below_regrown w4 q.d q.os
          exact Calls.regrown_of (alike_any _ w4.heap.size _ _ l (hr1.keep hb2) (hr2.keep hb2) hb2.size hlen)
        have cl := cell_regrown (v := .slice ao1 l.length cap1) ((hQ1.ls.cell pn).trans (by simpa using hv1))
        have cn := cell_regrown (v := .slice ao2 l.length cap2) ((hR2.ls.cell pn).trans (by simpa using hv2))
        have dl1 := hQ1.ls.lt
        have dl2 := hR2.ls.lt
        have dl3 := hQ1.st.lt
        have dl4 := hR2.st.lt
        clear p0q p0S hpure
        go_upto_region 19 with (go_at_call 18; refine hnum.mono ?_; rintro e6 w6 ⟨rfl, hw6⟩; rw [hw6]; clear hw6)
        clear hnum
        refine wp_region_quiet_below (by kernel_rfl) (by kernel_rfl) ?_
        repeat (quiet_step (exact hal _))
        refine wpQuiet_nil ?_
        intro wy hw'
        have hby := below_of_regrown hw'
        clear hw' cl cn hal
        have hY1 := hQ1.keep (kept_of_below' hby) (fun _ e => e.elim)
        have hY2 := hR2.keep (kept_of_below' hby) (fun _ e => e.elim)
        have es := cell_regrown (v := .int .i64 s) ((hY1.st.cell pn).trans (ints_get hs))
        have et := cell_regrown (v := .int .i64 s) ((hY2.st.cell pn).trans (ints_get hs2))
        have fl3 := hY1.st.lt
        have fl4 := hY2.st.lt
        go_upto_region 20 with fail
        refine wp_region_quiet_below (by kernel_rfl) (by kernel_rfl) ?_
        repeat (first | quiet_step (fail) | go_big_quiet_step (fail))
        refine wpQuiet_nil ?_
        intro wz hw'
        have hbz := below_of_regrown hw'
        clear hw' es et
        go_wp2
        go_ret
        exact ⟨rfl, hbw4.trans ((hby.trans (hbz.mono hby.size)).mono hbw4.size)⟩
      · obtain ⟨rfl, rfl⟩ := hc2 (by rw [ha2]; simp)
        rw [ha2] at hnum
        rw [ha2]
        clear ha2 hc2 hd2
        go_wp2_with (go_at_call 18; refine hnum.mono ?_; rintro e6 w6 ⟨rfl, hw6⟩; rw [hw6]; clear hw6)
        go_ret
        exact ⟨rfl, hbw4⟩
  · obtain ⟨rfl, rfl⟩ := hc1 ha
    have h1 := answer_ne ha
    clear ha hc1 hd1
    generalize answer m en = a at *
    go_wp2_with (go_at_call 18; refine hnum.mono ?_; rintro e6 w6 ⟨rfl, hw6⟩; rw [hw6]; clear hw6)
    go_ret
    exact ⟨rfl, hbw3⟩

end Go.Proofs.Ytaieackeflmhgaa

namespace Go.Proofs.Ytaieackeflmhgaa
open Go.ChangeShapes Go.WideShapes Go.ChangeAt Go.RowKit Go.Deep

theorem cellsI : Try.prog.cellsOf 3 = 1 := by kernel_rfl
theorem cellsLk : Try.prog.cellsOf 93 = 3 := by kernel_rfl
theorem cellsEt : Try.prog.cellsOf 100 = 3 := by kernel_rfl
theorem cellsSt : Try.prog.cellsOf 72 = 3 := by kernel_rfl
theorem cellsRl : Try.prog.cellsOf 97 = 5 := by kernel_rfl
theorem cellsMd : Try.prog.cellsOf 26 = 6 := by kernel_rfl
theorem cellsSl0 : Try.prog.cellsOf 95 = 1 := by kernel_rfl
theorem cellsSl1 : Try.prog.cellsOf 22 = 1 := by kernel_rfl
theorem cellsSl2 : Try.prog.cellsOf 23 = 1 := by kernel_rfl
theorem cellsSl3 : Try.prog.cellsOf 24 = 1 := by kernel_rfl
theorem bytesLk : Try.prog.bytesOf 93 = 24 := by kernel_rfl
theorem bytesEt : Try.prog.bytesOf 100 = 24 := by kernel_rfl
theorem bytesSt : Try.prog.bytesOf 72 = 24 := by kernel_rfl
theorem bytesRl : Try.prog.bytesOf 97 = 56 := by kernel_rfl

theorem list_of_fnR {α : Type} (n : Nat) (p : Nat → α → Prop) (h : ∀ i, i < n → ∃ x, p i x) : ∃ l : List α, l.length = n ∧ ∀ (j : Nat) (x : α), l[j]? = some x → p j x := by
  induction n with
  | zero => exact ⟨[], rfl, fun j x hx => by simp at hx⟩
  | succ n ih =>
    obtain ⟨l, h1, h2⟩ := ih (fun i hi => h i (by omega))
    obtain ⟨y, hy⟩ := h n (by omega)
    refine ⟨l ++ [y], by simp [h1], fun j x hx => ?_⟩
    by_cases hj : j < l.length
    · rw [List.getElem?_append_left hj] at hx; exact h2 j x hx
    · rw [List.getElem?_append_right (by omega)] at hx
      have : j = n := by
        have := get_lt hx
        simp at this; omega
      subst this
      have e : j - l.length = 0 := by omega
      rw [e] at hx
      simp at hx
      rw [← hx]; exact hy

theorem three {cs : List Value} (h : cs.length = 3) : ∃ a b c, cs = [a, b, c] := by
  match cs, h with
  | [a, b, c], _ => exact ⟨a, b, c, rfl⟩
theorem five {cs : List Value} (h : cs.length = 5) : ∃ a b c d e, cs = [a, b, c, d, e] := by
  match cs, h with
  | [a, b, c, d, e], _ => exact ⟨a, b, c, d, e, rfl⟩
theorem sixR {cs : List Value} (h : cs.length = 6) : ∃ a b c d e f, cs = [a, b, c, d, e, f] := by
  match cs, h with
  | [a, b, c, d, e, f], _ => exact ⟨a, b, c, d, e, f, rfl⟩

section
variable {H : Type} {enc : TypeId × Value → H} {w : World} {spare : Nat → Bool} {held : Bool}

theorem link_cells {fuel : Nat} {cs : List Value} {x : DataW H × List MemPlace} (h : DataW.trod enc Try.prog w 0 spare held fuel 93 cs = some x) : ∃ a : MLink, cs = linkC a := by
  obtain ⟨y0, y1, y2, n, _, hl, t0, t1, t2⟩ := trod_struct3 Try.underlying93 h
  rw [cellsLk] at hl
  obtain ⟨a, b, c, rfl⟩ := three hl
  simp only [cellsI] at t0 t1 t2
  obtain ⟨i0, e0, _, _⟩ := DataW.trod_int Try.underlying3 t0
  obtain ⟨i1, e1, _, _⟩ := DataW.trod_int Try.underlying3 t1
  obtain ⟨i2, e2, _, _⟩ := DataW.trod_int Try.underlying3 t2
  simp at e0 e1 e2
  subst e0 e1 e2
  exact ⟨⟨i0, i1, i2⟩, rfl⟩
theorem emit_cells {fuel : Nat} {cs : List Value} {x : DataW H × List MemPlace} (h : DataW.trod enc Try.prog w 0 spare held fuel 100 cs = some x) : ∃ a : MEmit, cs = emitC a := by
  obtain ⟨y0, y1, y2, n, _, hl, t0, t1, t2⟩ := trod_struct3 Try.underlying100 h
  rw [cellsEt] at hl
  obtain ⟨a, b, c, rfl⟩ := three hl
  simp only [cellsI] at t0 t1 t2
  obtain ⟨i0, e0, _, _⟩ := DataW.trod_int Try.underlying3 t0
  obtain ⟨i1, e1, _, _⟩ := DataW.trod_int Try.underlying3 t1
  obtain ⟨i2, e2, _, _⟩ := DataW.trod_int Try.underlying3 t2
  simp at e0 e1 e2
  subst e0 e1 e2
  exact ⟨⟨i0, i1, i2⟩, rfl⟩
theorem start_cells {fuel : Nat} {cs : List Value} {x : DataW H × List MemPlace} (h : DataW.trod enc Try.prog w 0 spare held fuel 72 cs = some x) : ∃ a : MStart, cs = startC a := by
  obtain ⟨y0, y1, y2, n, _, hl, t0, t1, t2⟩ := trod_struct3 Try.underlying72 h
  rw [cellsSt] at hl
  obtain ⟨a, b, c, rfl⟩ := three hl
  simp only [cellsI] at t0 t1 t2
  obtain ⟨i0, e0, _, _⟩ := DataW.trod_int Try.underlying3 t0
  obtain ⟨i1, e1, _, _⟩ := DataW.trod_int Try.underlying3 t1
  obtain ⟨i2, e2, _, _⟩ := DataW.trod_int Try.underlying3 t2
  simp at e0 e1 e2
  subst e0 e1 e2
  exact ⟨⟨i0, i1, i2⟩, rfl⟩

/-- a row, out of its reading -/
theorem rows_open {α : Type} {t e : TypeId} {sz : Nat} (en : α → List Value) (hpos : 0 < sz) (hlen : ∀ a, (en a).length = sz) (ht : Try.prog.underlying t = some (.slice e)) (hc : Try.prog.cellsOf e = sz) (Q : DataW H → α → Prop)
    (hel : ∀ (fuel : Nat) (cs : List Value) (y : DataW H × List MemPlace), DataW.trod enc Try.prog w 0 spare held fuel e cs = some y → ∃ a, cs = en a ∧ Q y.1 a)
    {fuel : Nat} {cs : List Value} {x : DataW H × List MemPlace} (h : DataW.trod enc Try.prog w 0 spare held fuel t cs = some x) :
    ∃ (v : Value) (l : List α), cs = [v] ∧ RowsAt sz en w w.heap.size v l ∧ (l = [] ∨ ∃ elems sp, x.1 = .slice elems sp ∧ elems.length = l.length ∧ ∀ a ∈ l, ∃ d ∈ elems, Q d a) := by
  rcases open_slice ht h with ⟨hcs, hx⟩ | ⟨a, len, cap, m, n, D, Pl, hcs, _, hl, hm, hmm, hx, hq⟩
  · exact ⟨_, [], hcs, ⟨none, 0, rfl, Nat.le_refl _, fun h => absurd rfl h⟩, .inl rfl⟩
  · have hlm : len ≤ m := by rw [hmm]; split <;> omega
    obtain ⟨ab, ao, asp⟩ := a
    rw [hc] at hq
    obtain ⟨l, hll, hlp⟩ := list_of_fnR (α := α) len (fun i o => w.cells? 0 ((⟨ab, ao, asp⟩ : Addr).add (i * sz)) sz = some (en o) ∧ Q (D i) o) (fun i hi => by
      obtain ⟨cs', c1, c2⟩ := hq i (by omega)
      obtain ⟨o, ho, hQ⟩ := hel _ _ _ c2
      exact ⟨o, by rw [c1, ho], hQ⟩)
    refine ⟨_, l, hcs, ⟨_, _, by rw [hll], by omega, fun hne => ?_⟩, .inr ⟨(List.range len).map D, _, by rw [hx], by simp [hll], fun o ho => ?_⟩⟩
    · have hp0 : 0 < l.length := List.length_pos_iff.2 hne
      obtain ⟨o0, ho0⟩ := get_of_lt hp0
      have c00 := (World.cells?_some (hlp 0 o0 ho0).1).2.2 0 hpos
      have hu : ∃ u, (en o0)[0]? = some u := ⟨_, List.getElem?_eq_getElem (by rw [hlen]; exact hpos)⟩
      obtain ⟨u, hu⟩ := hu
      have hspot : asp = none := by
        have := World.cell?_spot (c00.trans hu)
        simpa [Addr.add] using this
      subst hspot
      refine ⟨ab, ao, rfl, ?_, fun j o k u' ho hu' => ?_⟩
      · refine block_lt_of_cell (a := (⟨ab, ao, none⟩ : Addr)) (v := u) ?_
        rw [hu] at c00
        simpa [Addr.add] using c00
      · have hk : k < sz := by have := get_lt hu'; rw [hlen] at this; exact this
        have hcc := (World.cells?_some (hlp j o ho).1).2.2 k hk
        rw [add_plain, add_plain] at hcc
        rw [hcc]; exact hu'
    · obtain ⟨j, hj⟩ := List.getElem?_of_mem ho
      have hjl := get_lt hj
      exact ⟨D j, List.mem_map_of_mem (List.mem_range.2 (by omega)), (hlp j o hj).2⟩

theorem trod_struct5 {t : TypeId} {f0 f1 f2 f3 f4 : Field} {fuel : Nat} {cs : List Value} {x : DataW H × List MemPlace} (ht : Try.prog.underlying t = some (.struct #[f0, f1, f2, f3, f4])) (h : DataW.trod enc Try.prog w 0 spare held fuel t cs = some x) :
    ∃ y0 y1 y2 y3 y4 n, x.1 = .agg [y0.1, y1.1, y2.1, y3.1, y4.1] ∧ cs.length = Try.prog.cellsOf t ∧ DataW.trod enc Try.prog w 0 spare held n f0.type ((cs.drop f0.offset).take (Try.prog.cellsOf f0.type)) = some y0 ∧
      DataW.trod enc Try.prog w 0 spare held n f1.type ((cs.drop f1.offset).take (Try.prog.cellsOf f1.type)) = some y1 ∧ DataW.trod enc Try.prog w 0 spare held n f2.type ((cs.drop f2.offset).take (Try.prog.cellsOf f2.type)) = some y2 ∧
      DataW.trod enc Try.prog w 0 spare held n f3.type ((cs.drop f3.offset).take (Try.prog.cellsOf f3.type)) = some y3 ∧ DataW.trod enc Try.prog w 0 spare held n f4.type ((cs.drop f4.offset).take (Try.prog.cellsOf f4.type)) = some y4 := by
  obtain ⟨xs, n, _, rfl, hl, hlen, hf⟩ := DataW.trod_struct ht h
  match xs, hlen with
  | [y0, y1, y2, y3, y4], _ => exact ⟨y0, y1, y2, y3, y4, n, by simp, hl, by simpa using hf 0 f0 rfl, by simpa using hf 1 f1 rfl, by simpa using hf 2 f2 rfl, by simpa using hf 3 f3 rfl, by simpa using hf 4 f4 rfl⟩
theorem trod_struct6 {t : TypeId} {f0 f1 f2 f3 f4 f5 : Field} {fuel : Nat} {cs : List Value} {x : DataW H × List MemPlace} (ht : Try.prog.underlying t = some (.struct #[f0, f1, f2, f3, f4, f5])) (h : DataW.trod enc Try.prog w 0 spare held fuel t cs = some x) :
    ∃ y0 y1 y2 y3 y4 y5 n, x.1 = .agg [y0.1, y1.1, y2.1, y3.1, y4.1, y5.1] ∧ cs.length = Try.prog.cellsOf t ∧ DataW.trod enc Try.prog w 0 spare held n f0.type ((cs.drop f0.offset).take (Try.prog.cellsOf f0.type)) = some y0 ∧
      DataW.trod enc Try.prog w 0 spare held n f1.type ((cs.drop f1.offset).take (Try.prog.cellsOf f1.type)) = some y1 ∧ DataW.trod enc Try.prog w 0 spare held n f2.type ((cs.drop f2.offset).take (Try.prog.cellsOf f2.type)) = some y2 ∧
      DataW.trod enc Try.prog w 0 spare held n f3.type ((cs.drop f3.offset).take (Try.prog.cellsOf f3.type)) = some y3 ∧ DataW.trod enc Try.prog w 0 spare held n f4.type ((cs.drop f4.offset).take (Try.prog.cellsOf f4.type)) = some y4 ∧
      DataW.trod enc Try.prog w 0 spare held n f5.type ((cs.drop f5.offset).take (Try.prog.cellsOf f5.type)) = some y5 := by
  obtain ⟨xs, n, _, rfl, hl, hlen, hf⟩ := DataW.trod_struct ht h
  match xs, hlen with
  | [y0, y1, y2, y3, y4, y5], _ => exact ⟨y0, y1, y2, y3, y4, y5, n, by simp, hl, by simpa using hf 0 f0 rfl, by simpa using hf 1 f1 rfl, by simpa using hf 2 f2 rfl, by simpa using hf 3 f3 rfl, by simpa using hf 4 f4 rfl, by simpa using hf 5 f5 rfl⟩

/-- no weight of a reading passes the limit -/
def Small (t : TypeId) (d : DataW H) : Prop := ∀ n ∈ d.weights Try.prog t, n ≤ reachBytes

theorem Small.slice {t e : TypeId} {elems sp : List (DataW H)} (ht : Try.prog.underlying t = some (.slice e)) (h : Small t (.slice elems sp)) : elems.length * Try.prog.bytesOf e ≤ reachBytes ∧ ∀ d ∈ elems, Small e d := by
  unfold Small at h
  simp only [DataW.weights, ht] at h
  refine ⟨?_, fun d hd n hn => h n ?_⟩
  · have := h _ (List.mem_cons_self ..)
    rw [Nat.add_mul] at this
    omega
  · refine List.mem_cons_of_mem _ (List.mem_append_left _ ?_)
    clear h
    induction elems with
    | nil => simp at hd
    | cons a l ih =>
      simp only [DataW.weightsAll, List.mem_append]
      rcases List.mem_cons.1 hd with rfl | hd
      · exact .inl hn
      · exact .inr (ih hd)
theorem weights_each {ts : List TypeId} {ds : List (DataW H)} {j : Nat} {t : TypeId} {d : DataW H} (ht : ts[j]? = some t) (hd : ds[j]? = some d) (h : ∀ n ∈ DataW.weightsEach Try.prog ts ds, n ≤ reachBytes) : Small t d := by
  intro n hn
  exact h n (DataW.weights_mem_each ht hd n hn)

theorem rule_cells {fuel : Nat} {cs : List Value} {x : DataW H × List MemPlace} (h : DataW.trod enc Try.prog w 0 spare held fuel 97 cs = some x) :
    ∃ a : RuleV, cs = ruleC a ∧ EmitsAt w w.heap.size a.ev a.r.es ∧ (Small 97 x.1 → a.r.es.length * 24 ≤ reachBytes) := by
  obtain ⟨y0, y1, y2, y3, y4, n, hx, hl, t0, t1, t2, t3, t4⟩ := trod_struct5 Try.underlying97 h
  rw [cellsRl] at hl
  obtain ⟨a, b, c, d, e, rfl⟩ := five hl
  simp only [cellsI, cellsSl0] at t0 t1 t2 t3 t4
  obtain ⟨i0, e0, _, _⟩ := DataW.trod_int Try.underlying3 t0
  obtain ⟨i1, e1, _, _⟩ := DataW.trod_int Try.underlying3 t1
  obtain ⟨i2, e2, _, _⟩ := DataW.trod_int Try.underlying3 t2
  obtain ⟨i3, e3, _, _⟩ := DataW.trod_int Try.underlying3 t3
  obtain ⟨v, l, e4, hR, hs⟩ := rows_open emitC (by omega) (fun _ => rfl) Try.underlying95 cellsEt (fun _ _ => True) (fun f cs y hy => by obtain ⟨o, ho⟩ := emit_cells hy; exact ⟨o, ho, trivial⟩) t4
  simp at e0 e1 e2 e3 e4
  subst e0 e1 e2 e3 e4
  refine ⟨⟨⟨i0, i1, i2, i3, l⟩, _⟩, rfl, hR, fun hS => ?_⟩
  rcases hs with rfl | ⟨elems, sp, hd, hel, _⟩
  · simp
  · rw [hx] at hS
    have h4 : Small 95 y4.1 := by
      unfold Small at hS
      simp only [DataW.weights, Try.underlying97] at hS
      exact weights_each (j := 4) rfl rfl hS
    rw [hd] at h4
    have := (h4.slice Try.underlying95).1
    rw [bytesEt, hel] at this
    exact this

theorem model_cells {fuel : Nat} {cs : List Value} {x : DataW H × List MemPlace} (h : DataW.trod enc Try.prog w 0 spare held fuel 26 cs = some x) (hS : Small 26 x.1) :
    ∃ (m : Mdl) (lv rv sv : Value) (R : List RuleV), cs = [.int .i64 m.procs, .int .i64 m.states, .int .i64 m.loads, lv, rv, sv] ∧ ModelAt w w.heap.size lv rv sv m R ∧ m.links.length * 24 ≤ reachBytes ∧ m.rules.length * 56 ≤ reachBytes ∧ m.starts.length * 24 ≤ reachBytes ∧ ∀ r ∈ m.rules, r.es.length * 24 ≤ reachBytes := by
  obtain ⟨y0, y1, y2, y3, y4, y5, n, hx, hl, t0, t1, t2, t3, t4, t5⟩ := trod_struct6 Try.underlying26 h
  rw [cellsMd] at hl
  obtain ⟨a, b, c, d, e, f, rfl⟩ := sixR hl
  simp only [cellsI, cellsSl1, cellsSl2, cellsSl3] at t0 t1 t2 t3 t4 t5
  obtain ⟨i0, e0, _, _⟩ := DataW.trod_int Try.underlying3 t0
  obtain ⟨i1, e1, _, _⟩ := DataW.trod_int Try.underlying3 t1
  obtain ⟨i2, e2, _, _⟩ := DataW.trod_int Try.underlying3 t2
  obtain ⟨lv, l, e3, hL, hsL⟩ := rows_open linkC (by omega) (fun _ => rfl) Try.underlying22 cellsLk (fun _ _ => True) (fun f cs y hy => by obtain ⟨o, ho⟩ := link_cells hy; exact ⟨o, ho, trivial⟩) t3
  obtain ⟨rv, R, e4, hR, hsR⟩ := rows_open ruleC (by omega) (fun _ => rfl) Try.underlying23 cellsRl (fun d a => EmitsAt w w.heap.size a.ev a.r.es ∧ (Small 97 d → a.r.es.length * 24 ≤ reachBytes)) (fun f cs y hy => rule_cells hy) t4
  obtain ⟨sv, s, e5, hSt, hsS⟩ := rows_open startC (by omega) (fun _ => rfl) Try.underlying24 cellsSt (fun _ _ => True) (fun f cs y hy => by obtain ⟨o, ho⟩ := start_cells hy; exact ⟨o, ho, trivial⟩) t5
  simp at e0 e1 e2 e3 e4 e5
  subst e0 e1 e2 e3 e4 e5
  have hW : ∀ (j : Nat) (t : TypeId) (d : DataW H), ([3, 3, 3, 22, 23, 24] : List TypeId)[j]? = some t → [y0.1, y1.1, y2.1, y3.1, y4.1, y5.1][j]? = some d → Small t d := by
    intro j t d ht hd
    rw [hx] at hS
    unfold Small at hS
    simp only [DataW.weights, Try.underlying26] at hS
    exact weights_each ht hd hS
  refine ⟨⟨i0, i1, i2, l, R.map RuleV.r, s⟩, _, _, _, R, rfl, ⟨hL, ⟨hR, fun z hz => ?_⟩, hSt, rfl⟩, ?_, ?_, ?_, ?_⟩
  · rcases hsR with rfl | ⟨elems, sp, hd, hel, hq⟩
    · simp at hz
    · obtain ⟨_, _, h1, _⟩ := hq z hz
      exact h1
  · rcases hsL with rfl | ⟨elems, sp, hd, hel, _⟩
    · simp
    · have h1 := hW 3 _ _ rfl rfl
      rw [hd] at h1
      have := (h1.slice Try.underlying22).1
      rw [bytesLk, hel] at this
      exact this
  · rcases hsR with rfl | ⟨elems, sp, hd, hel, _⟩
    · simp
    · have h1 := hW 4 _ _ rfl rfl
      rw [hd] at h1
      have := (h1.slice Try.underlying23).1
      rw [bytesRl, hel] at this
      simpa using this
  · rcases hsS with rfl | ⟨elems, sp, hd, hel, _⟩
    · simp
    · have h1 := hW 5 _ _ rfl rfl
      rw [hd] at h1
      have := (h1.slice Try.underlying24).1
      rw [bytesSt, hel] at this
      exact this
  · intro r hr
    obtain ⟨z, hz, rfl⟩ := List.mem_map.1 hr
    rcases hsR with rfl | ⟨elems, sp, hd, hel, hq⟩
    · simp at hz
    · obtain ⟨d, hdm, _, h2⟩ := hq z hz
      have h1 := hW 4 _ _ rfl rfl
      rw [hd] at h1
      exact h2 ((h1.slice Try.underlying23).2 d hdm)

end
end Go.Proofs.Ytaieackeflmhgaa

