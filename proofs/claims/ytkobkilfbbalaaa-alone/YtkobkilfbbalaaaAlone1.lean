/-
  The law Alone: true, whatever the model and the steps.
-/
import Derived.Test.YtkobkilfbbalaaaK17
namespace Go.Proofs.Ytkobkilfbbalaaa
open Go.RowKit Go.Sort Go.Maps

section
variable {w wr w2 : World} {nb lo hi cb db kb : Nat} {lv rv sv : Value} {m : Mdl} {en : Int} {k : Nat} {D C : List Value} {N N' : Nat → Nat} {s s' : NS} {V V' : NV}
theorem Law.alone (T : Tells m en k) (L : Law w wr nb lo hi cb db kb lv rv sv m en k D C N s V) {x : Int} {b : Bool} (hg : NGo wr w2 nb m en s' V V') (hc : (isP m x = false ∧ b = false ∧ s' = s) ∨ (0 ≤ x ∧ x < m.procs ∧ Stepped m en s s' x.toNat b)) : ∃ N', Law w w2 nb lo hi cb db kb lv rv sv m en k D C N' s' V' ∧ ∀ q : Nat, N' q = N q ∨ ((q : Int) = x ∧ b = true) := by
  rcases hc with ⟨_, _, h1⟩ | ⟨h0, h1, hs⟩
  · subst h1; exact ⟨N, L.step hg L.good, fun _ => .inl rfl⟩
  · cases b with
    | false =>
      obtain ⟨h2, _⟩ := hs.no
      subst h2; exact ⟨N, L.step hg L.good, fun _ => .inl rfl⟩
    | true =>
      obtain ⟨N', hM, hG⟩ := L.good.stepped T.env (p := x.toNat) (by unfold np; omega) hs
      refine ⟨N', L.step hg hG, fun q => ?_⟩
      by_cases hq : q = x.toNat
      · exact .inr ⟨by omega, rfl⟩
      · exact .inl (hM.oth q hq)
/-- a second step behind one that changed nothing -/
theorem still_again {x : Int} {b : Bool} {s'' : NS} (hc : (isP m x = false ∧ True ∧ s' = s) ∨ (0 ≤ x ∧ x < m.procs ∧ Stepped m en s s' x.toNat false)) (hd : (isP m x = false ∧ b = false ∧ s'' = s') ∨ (0 ≤ x ∧ x < m.procs ∧ Stepped m en s' s'' x.toNat b)) : b = false := by
  rcases hd with ⟨_, h1, _⟩ | ⟨h0, h1, hs⟩
  · exact h1
  · rcases hc with ⟨h2, _⟩ | ⟨_, _, h2⟩
    · rw [isP_iff.2 ⟨h0, h1⟩] at h2; cases h2
    · obtain ⟨h3, h4⟩ := h2.no
      subst h3
      exact (hs.of_calm h4).2
end

set_option maxRecDepth 100000 in
set_option maxHeartbeats 16000000 in
theorem alone_any (w : World) (m : Mdl) (lv rv sv tv : Value) (R : List RuleV) (steps : List Int) (en : Int) (h : ModelAt w w.heap.size lv rv sv m R) (hT : RowsAt 1 intC w w.heap.size tv steps)
    (b1 : m.links.length * 24 ≤ 140737488351232) (b2 : m.rules.length * 56 ≤ 140737488351232) (b3 : m.starts.length * 24 ≤ 140737488351232) (b4 : ∀ r ∈ m.rules, r.es.length * 24 ≤ 140737488351232) (b5 : steps.length * 8 ≤ 140737488351232) :
    Calls Try.prog 7 #[.agg #[.int .i64 m.procs, .int .i64 m.states, .int .i64 m.loads, lv, rv, sv], .int .i64 en, tv] w fun e w' => e = .returned (.bool true) ∧ Below w.heap.size w w' := by
  obtain ⟨aot, capt, htv, hcapt⟩ := RowsAt.form hT
  subst htv
  obtain ⟨ao2, cap2, hsv, hcap2⟩ := RowsAt.form h.starts
  subst hsv
  obtain ⟨ao1, cap1, hlv, hcap1⟩ := RowsAt.form h.links
  subst hlv
  obtain ⟨ao3, cap3, hrv, hcap3⟩ := RowsAt.form h.rules.1
  subst hrv
  obtain ⟨W0, hW0⟩ : ∃ W0, W0 = w.alloc (.cells #[.int .i64 m.procs, .int .i64 m.states, .int .i64 m.loads, .slice ao1 m.links.length cap1, .slice ao3 R.length cap3, .slice ao2 m.starts.length cap2] 26) := ⟨_, rfl⟩
  have HW0 : Hid (W0 = w.alloc (.cells #[.int .i64 m.procs, .int .i64 m.states, .int .i64 m.loads, .slice ao1 m.links.length cap1, .slice ao3 R.length cap3, .slice ao2 m.starts.length cap2] 26)) := hW0
  have hB0 : Below w.heap.size w W0 := by rw [hW0]; exact (Below.refl _ _).alloc (Nat.le_refl _) _
  have hmb : Blk W0 w.heap.size #[.int .i64 m.procs, .int .i64 m.states, .int .i64 m.loads, .slice ao1 m.links.length cap1, .slice ao3 R.length cap3, .slice ao2 m.starts.length cap2] 26 := by rw [hW0]; exact heap_alloc_new w _
  have hz0 : w.heap.size < W0.heap.size := hmb.lt
  have hop := opened_any W0 m _ _ _ R w.heap.size en (h.keep hB0) hB0.size b1 b2 b3 b4
  clear hW0
  have m0 : W0.cell? ⟨w.heap.size, 0, none⟩ = some (.int .i64 m.procs) := hmb.cell 0
  have m1 : W0.cell? ⟨w.heap.size, 1, none⟩ = some (.int .i64 m.states) := hmb.cell 1
  have m2 : W0.cell? ⟨w.heap.size, 2, none⟩ = some (.int .i64 m.loads) := hmb.cell 2
  have m3 : W0.cell? ⟨w.heap.size, 3, none⟩ = some (.slice ao1 m.links.length cap1) := hmb.cell 3
  have m4 : W0.cell? ⟨w.heap.size, 4, none⟩ = some (.slice ao3 R.length cap3) := hmb.cell 4
  have m5 : W0.cell? ⟨w.heap.size, 5, none⟩ = some (.slice ao2 m.starts.length cap2) := hmb.cell 5
  go_enter Try.func7, Try.ntmps7
  go_upto_region 1 with fail
  rw [← HW0.out]
  go_wp2_with fail
  refine hop.mono ?_
  rintro e1 w1 ⟨hb1, ⟨ha, pv, rfl⟩ | ⟨ha, nb, V, k, lo, cb, db, kb, D, C, rfl, hN, hC, hk, hnx, hsep, hlo1, hlo2⟩⟩
  · clear hop m0 m1 m2 m3 m4 m5
    have hbw : Below w.heap.size w w1 := hB0.trans (hb1.mono hB0.size)
    go_wp2
    go_ret
    exact ⟨rfl, hbw⟩
  · clear hop m0 m1 m2 m3 m4 m5
    have hbw : Below w.heap.size w w1 := hB0.trans (hb1.mono hB0.size)
    obtain ⟨hm, hen0, hen⟩ := right_of_valid (answer_valid ha)
    have T : Tells m en k := ⟨hm, hen0, hen, hnx, hk⟩
    have L1 : Law w w1 nb lo w1.heap.size cb db kb (.slice ao1 m.links.length cap1) (.slice ao3 R.length cap3) (.slice ao2 m.starts.length cap2) m en k D C (fun _ => 0) (openN m) V := ⟨hN, good_open T.env, hC, fun i hi => .inl (hsep i hi), by omega, hbw⟩
    have hmb1 := hmb.keep (kept_of_below' hb1) (fun e => e)
    obtain ⟨hi, hhi⟩ : ∃ hi, hi = w1.heap.size := ⟨_, rfl⟩
    rw [← hhi] at L1
    have hp1 := hm.lim.p1
    have hp2 := hm.lim.p2
    have hnp1 : 1 ≤ np m := by unfold np; omega
    have hnp6 : np m ≤ 6 := by unfold np; omega
    clear ha hN hC hsep hk hnx hhi hmb
    go_wp2
    go_loopw [10] (fun s10 wq => ∃ (i : Nat) (N : Nat → Nat) (s : NS) (V : NV), s10 = .int .i64 i ∧ i ≤ steps.length ∧ Law w wq nb lo hi cb db kb (.slice ao1 m.links.length cap1) (.slice ao3 R.length cap3) (.slice ao2 m.starts.length cap2) m en k D C N s V) (fun s10 _ => steps.length - (intOf s10).toNat)
    case atStart => exact ⟨0, _, _, V, rfl, Nat.zero_le _, L1⟩
    case round =>
      clear L1 hmb1
      obtain ⟨i, N, s, V, rfl, hi', L⟩ := hrel
      by_cases hlt2 : i < steps.length
      · obtain ⟨x, hx⟩ := get_of_lt hlt2
        have hls1 := lists_any wr nb lo hi cb db kb _ _ _ m en k D C N s V T L.net L.good L.crd
        have hil : (i : Int) < steps.length := by omega
        go_wp2_with fail
        refine hls1.mono ?_
        rintro e2 w2 ⟨hb2, v2, rfl, hO2⟩
        clear hls1
        have L2 := L.grow hb2
        obtain ⟨tb, tof, hao, htbB, htc⟩ := RowsAt.at_ (hT.keep L2.bel) hx
        subst hao
        have t0 := htc 0 (.int .i64 x) rfl
        simp only [Nat.add_zero, Nat.mul_one] at t0
        have hltb : tb < w2.heap.size := block_lt_of_cell t0
        have hstep := step_any w2 nb m en (FK m en k) (CK m en k) N s V x T.env L2.net L2.good
        clear htc
        go_wp2_with fail
        refine hstep.mono ?_
        rintro e3 w3 ⟨b, s3, V3, rfl, hg3, hc3⟩
        clear hstep t0
        obtain ⟨N3, L3, hsame⟩ := L2.alone T hg3 hc3
        have hO3 := hO2.keep hg3.kept (fun r hr hf => by
          have h1 := (L.net.lt hf).2
          have h2 := (hO2.lt hr).1
          omega)
        have hls3 := lists_any w3 nb lo hi cb db kb _ _ _ m en k D C N3 s3 V3 T L3.net L3.good L3.crd
        go_wp2_with fail
        refine hls3.mono ?_
        rintro e4 w4 ⟨hb4, v4, rfl, hO4⟩
        clear hls3
        have L4 := L3.grow hb4
        have hO5 := hO3.keep (kept_of_below' hb4) (fun _ _ e => e)
        have hx0 : ∀ (M : Nat → Nat) (p : Nat), p < np m → ((List.range (np m)).map (fun p => (M p : Int)))[p]? = some (M p : Int) := fun M p hp => by rw [List.getElem?_map, List.getElem?_range hp]; rfl
        have hlen : ∀ M : Nat → Nat, ((List.range (np m)).map (fun p => (M p : Int))).length = np m := fun M => by simp
        obtain ⟨ga, ca, hva, _⟩ := Own.at_ hO5 (hx0 N 0 (by omega))
        obtain ⟨gb, cb', hvb, _⟩ := Own.at_ hO4 (hx0 N3 0 (by omega))
        rw [hlen] at hva hvb
        have dca : ∀ p, p < np m → w4.cell? ⟨ga, p, none⟩ = some (.int .i64 (N p : Int)) := fun p hp => by
          obtain ⟨g', cg', hdv', _⟩ := Own.at_ hO5 (hx0 N p hp)
          rw [hlen, hva] at hdv'
          simp only [Value.slice.injEq] at hdv'
          have e1 := hdv'.1
          injection e1 with e1
          injection e1 with e1
          subst e1
          subst hva
          have := hO5.cell (hx0 N p hp) (k := 0) (u := .int .i64 (N p : Int)) rfl
          simpa [inE] using this
        have dcb : ∀ p, p < np m → w4.cell? ⟨gb, p, none⟩ = some (.int .i64 (N3 p : Int)) := fun p hp => by
          obtain ⟨g', cg', hdv', _⟩ := Own.at_ hO4 (hx0 N3 p hp)
          rw [hlen, hvb] at hdv'
          simp only [Value.slice.injEq] at hdv'
          have e1 := hdv'.1
          injection e1 with e1
          injection e1 with e1
          subst e1
          subst hvb
          have := hO4.cell (hx0 N3 p hp) (k := 0) (u := .int .i64 (N3 p : Int)) rfl
          simpa [inE] using this
        have hlga : ga < w4.heap.size := block_lt_of_cell (dca 0 (by omega))
        have hlgb : gb < w4.heap.size := block_lt_of_cell (dcb 0 (by omega))
        subst hva hvb
        obtain ⟨tb', tof', hao, htbB', htc⟩ := RowsAt.at_ (hT.keep L4.bel) hx
        simp only [Option.some.injEq] at hao
        injection hao with hao1 hao2
        subst hao1 hao2
        have t0 := htc 0 (.int .i64 x) rfl
        simp only [Nat.add_zero, Nat.mul_one] at t0
        have hltb4 : tb < w4.heap.size := block_lt_of_cell t0
        clear hO2 hO3 hO4 hO5 hx0 hlen htc hx L L2 hb2 hb4 hg3 hltb htbB htbB'
        go_wp2
        go_loopw [16] (fun s16 wq => ∃ p : Nat, s16 = .int .i64 p ∧ p ≤ np m ∧ Below w4.heap.size w4 wq) (fun s16 _ => np m - (intOf s16).toNat)
        case atStart => exact ⟨0, rfl, Nat.zero_le _, Below.refl _ _⟩
        case round =>
          obtain ⟨p, rfl, hp, hb6⟩ := hrel
          by_cases hlt3 : p < np m
          · have hpl : (p : Int) < (np m : Int) := by omega
            have y1 := cell_regrown ((hb6.cell (p := ⟨ga, p, none⟩) hlga).trans (dca p hlt3))
            have y2 := cell_regrown ((hb6.cell (p := ⟨gb, p, none⟩) hlgb).trans (dcb p hlt3))
            have y3 := cell_regrown ((hb6.cell (p := ⟨tb, tof + i, none⟩) hltb4).trans t0)
            by_cases hsm : N3 p = N p
            · rw [hsm] at y2
              clear hsm hsame
              go_upto_region 15 with fail
              refine wp_region_quiet_below (by kernel_rfl) (by kernel_rfl) ?_
              repeat (go_big_quiet_step (fail))
              refine wpQuiet_nil ?_
              intro wq hw'
              have hbq := below_of_regrown hw'
              clear hw' y1 y2 y3
              go_wp2
              go_roundw
              case rel => exact ⟨p + 1, by go_num, hlt3, hb6.trans (hbq.mono hb6.size)⟩
              case measure => simp [intOf]; omega
            · have hnn : ((N p : Int) != (N3 p : Int)) = true := by simp; omega
              rcases hsame p with h1 | ⟨h1, h2⟩
              · exact absurd h1 hsm
              · subst h2
                rw [← h1] at y3
                clear h1 hsm hsame
                go_upto_region 15 with fail
                refine wp_region_quiet_below (by kernel_rfl) (by kernel_rfl) ?_
                repeat (go_big_quiet_step (fail))
                refine wpQuiet_nil ?_
                intro wq hw'
                have hbq := below_of_regrown hw'
                clear hw' y1 y2 y3 hnn
                go_wp2
                go_roundw
                case rel => exact ⟨p + 1, by go_num, hlt3, hb6.trans (hbq.mono hb6.size)⟩
                case measure => simp [intOf]; omega
          · have L6 := L4.grow hb6
            cases b with
            | true =>
              clear L4 t0 dca dcb
              go_wp2
              go_roundw
              case rel => exact ⟨i + 1, N3, s3, V3, by go_num, hlt2, L6⟩
              case measure => simp [intOf]; omega
            | false =>
              have t1 : wr.cell? ⟨tb, tof + i, none⟩ = some (.int .i64 x) := (hb6.cell (p := ⟨tb, tof + i, none⟩) hltb4).trans t0
              have hltr : tb < wr.heap.size := block_lt_of_cell t1
              have hstep := step_any wr nb m en (FK m en k) (CK m en k) N3 s3 V3 x T.env L6.net L6.good
              clear L4 t0 dca dcb
              go_wp2_with fail
              refine hstep.mono ?_
              rintro e7 w7 ⟨b7, s7, V7, rfl, hg7, hc7⟩
              clear hstep t1
              obtain ⟨N7, L7⟩ := L6.next T hg7 hc7
              have hb7 := still_again hc3 hc7
              subst hb7
              clear L6 hg7 hc7 hc3 hsame
              go_wp2
              go_roundw
              case rel => exact ⟨i + 1, N7, s7, V7, by go_num, hlt2, L7⟩
              case measure => simp [intOf]; omega
      · have hbf := L.bel
        clear hi' L
        go_wp2
        go_ret
        exact ⟨rfl, hbf⟩

end Go.Proofs.Ytkobkilfbbalaaa

