/-
  The law Ends: true, whatever the model and the steps.
-/
import Derived.Test.YtkobkilfbbalaaaK18
namespace Go.Proofs.Ytkobkilfbbalaaa
open Go.RowKit Go.Sort Go.Maps

section
variable {w wr w2 : World} {nb lo hi cb db kb : Nat} {lv rv sv : Value} {m : Mdl} {en : Int} {k : Nat} {D C : List Value} {N : Nat → Nat} {s s' : NS} {V V' : NV}
theorem Law.round (T : Tells m en k) (L : Law w wr nb lo hi cb db kb lv rv sv m en k D C N s V) {i p : Nat} (hR : Rnd m en (FK m en k) N i p s) (hp : p < np m) {b : Bool} (hg : NGo wr w2 nb m en s' V V') (hc : (isP m (p : Int) = false ∧ b = false ∧ s' = s) ∨ (0 ≤ (p : Int) ∧ (p : Int) < m.procs ∧ Stepped m en s s' (p : Int).toNat b)) : ∃ N', Law w w2 nb lo hi cb db kb lv rv sv m en k D C N' s' V' ∧ Rnd m en (FK m en k) N' i (p + 1) s' := by
  have E := T.env
  rcases hc with ⟨h1, _, _⟩ | ⟨_, _, hs⟩
  · have := isP_iff.2 ⟨(by omega : (0 : Int) ≤ (p : Int)), (by unfold np at hp; omega : (p : Int) < m.procs)⟩
    rw [h1] at this; cases this
  · rw [Int.toNat_natCast] at hs
    obtain ⟨N', hR', _⟩ := rnd_step E.hm E.hen0 E.hen E.hF hR hp hs
    obtain ⟨_, _, hG⟩ := L.good.stepped E hp hs
    exact ⟨N', L.step hg ⟨hR'.inv, hG.2⟩, hR'⟩
/-- where none can go on, a step changes nothing -/
theorem Law.calm (L : Law w wr nb lo hi cb db kb lv rv sv m en k D C N s V) (hq : ∀ p, p < np m → goOnB m en s p = false) {x : Int} {b : Bool} (hg : NGo wr w2 nb m en s' V V') (hc : (isP m x = false ∧ b = false ∧ s' = s) ∨ (0 ≤ x ∧ x < m.procs ∧ Stepped m en s s' x.toNat b)) : b = false ∧ Law w w2 nb lo hi cb db kb lv rv sv m en k D C N s V' := by
  have : s' = s ∧ b = false := by
    rcases hc with ⟨_, h1, h2⟩ | ⟨_, _, hs⟩
    · exact ⟨h2, h1⟩
    · exact hs.of_calm (hq _ (by unfold np; omega))
  obtain ⟨rfl, rfl⟩ := this
  exact ⟨rfl, L.step hg L.good⟩
end

set_option maxRecDepth 100000 in
set_option maxHeartbeats 8000000 in
theorem quiet_any (w wr : World) (nb lo hi cb db kb : Nat) (lv rv sv : Value) (m : Mdl) (en : Int) (k : Nat) (D C : List Value) (N : Nat → Nat) (s : NS) (V : NV) (n : Int) (T : Tells m en k) (L : Law w wr nb lo hi cb db kb lv rv sv m en k D C N s V) (hq : ∀ p, p < np m → goOnB m en s p = false) (hn : n ≤ 5000) :
    Calls Try.prog 24 #[.pointer (some ⟨nb, 0, none⟩), .int .i64 m.procs, .int .i64 n] wr fun e w' => e = .returned (.bool true) ∧ Below w.heap.size w w' := by
  have hp1 := T.hm.lim.p1
  have hp2 := T.hm.lim.p2
  have hnp : (np m : Int) = m.procs := by unfold np; omega
  have Hnp : Hid ((np m : Int) = m.procs) := hnp
  have hnp6 : np m ≤ 6 := by omega
  clear hnp
  go_enter Try.func24, Try.ntmps24
  go_wp2
  go_loopw [7] (fun s3 wq => ∃ (i : Nat) (V : NV), s3 = .int .i64 i ∧ (i ≤ 5000) ∧ Law w wq nb lo hi cb db kb lv rv sv m en k D C N s V) (fun s3 _ => 5001 - (intOf s3).toNat)
  case atStart => exact ⟨0, V, rfl, by omega, L⟩
  case round =>
    clear L
    obtain ⟨i, V, rfl, hi', L⟩ := hrel
    by_cases hlt : (i : Int) < n
    · go_wp2
      go_loopw [8] (fun s4 wq => ∃ (p : Nat) (V : NV), s4 = .int .i64 p ∧ p ≤ np m ∧ Law w wq nb lo hi cb db kb lv rv sv m en k D C N s V) (fun s4 _ => np m - (intOf s4).toNat)
      case atStart => exact ⟨0, V, rfl, Nat.zero_le _, L⟩
      case round =>
        clear L
        obtain ⟨p, V, rfl, hp, L⟩ := hrel
        by_cases hlt2 : p < np m
        · have hpl : (p : Int) < m.procs := by have := Hnp.out; omega
          have hst := step_any wr nb m en (FK m en k) (CK m en k) N s V (p : Int) T.env L.net L.good
          go_wp2_with fail
          refine hst.mono ?_
          rintro e3 w3 ⟨b, s3, V3, rfl, hg3, hc3⟩
          clear hst
          obtain ⟨-, L3⟩ := L.calm hq hg3 hc3
          clear L hg3 hc3
          go_wp2
          go_roundw
          case rel => exact ⟨p + 1, V3, by go_num, hlt2, L3⟩
          case measure => simp [intOf]; omega
        · have hpl : ¬ (p : Int) < m.procs := by have := Hnp.out; omega
          go_wp2
          go_roundw
          case rel => exact ⟨i + 1, V, by go_num, by omega, L⟩
          case measure => simp [intOf]; omega
    · go_wp2
      go_loopw [9] (fun s5 wq => ∃ (p : Nat) (V : NV), s5 = .int .i64 p ∧ p ≤ np m ∧ Law w wq nb lo hi cb db kb lv rv sv m en k D C N s V) (fun s5 _ => np m - (intOf s5).toNat)
      case atStart => exact ⟨0, V, rfl, Nat.zero_le _, L⟩
      case round =>
        clear L
        obtain ⟨p, V, rfl, hp, L⟩ := hrel
        by_cases hlt2 : p < np m
        · have hpl : (p : Int) < m.procs := by have := Hnp.out; omega
          have hst := step_any wr nb m en (FK m en k) (CK m en k) N s V (p : Int) T.env L.net L.good
          go_wp2_with fail
          refine hst.mono ?_
          rintro e3 w3 ⟨b, s3, V3, rfl, hg3, hc3⟩
          clear hst
          obtain ⟨hb, L3⟩ := L.calm hq hg3 hc3
          subst hb
          clear L hg3 hc3
          go_wp2
          go_roundw
          case rel => exact ⟨p + 1, V3, by go_num, hlt2, L3⟩
          case measure => simp [intOf]; omega
        · have hpl : ¬ (p : Int) < m.procs := by have := Hnp.out; omega
          have hbf := L.bel
          go_wp2
          go_ret
          exact ⟨rfl, hbf⟩

set_option maxRecDepth 100000 in
set_option maxHeartbeats 16000000 in
theorem ends_any (w : World) (m : Mdl) (lv rv sv tv : Value) (R : List RuleV) (steps : List Int) (en : Int) (h : ModelAt w w.heap.size lv rv sv m R) (hT : RowsAt 1 intC w w.heap.size tv steps)
    (b1 : m.links.length * 24 ≤ 140737488351232) (b2 : m.rules.length * 56 ≤ 140737488351232) (b3 : m.starts.length * 24 ≤ 140737488351232) (b4 : ∀ r ∈ m.rules, r.es.length * 24 ≤ 140737488351232) (b5 : steps.length * 8 ≤ 140737488351232) :
    Calls Try.prog 9 #[.agg #[.int .i64 m.procs, .int .i64 m.states, .int .i64 m.loads, lv, rv, sv], .int .i64 en, tv] w fun e w' => e = .returned (.bool true) ∧ Below w.heap.size w w' := by
  obtain ⟨aot, capt, htv, hcapt⟩ := RowsAt.form hT
  subst htv
  obtain ⟨ao2, cap2, hsv, hcap2⟩ := RowsAt.form h.starts
  subst hsv
  obtain ⟨ao1, cap1, hlv, hcap1⟩ := RowsAt.form h.links
  subst hlv
  obtain ⟨ao3, cap3, hrv, hcap3⟩ := RowsAt.form h.rules.1
  subst hrv
  obtain ⟨W0, hW0⟩ : ∃ W0, W0 = w.alloc (.cells #[.int .i64 m.procs, .int .i64 m.states, .int .i64 m.loads, .slice ao1 m.links.length cap1, .slice ao3 R.length cap3, .slice ao2 m.starts.length cap2] 26) := ⟨_, rfl⟩
  have HW0 : Hid (W0 = w.alloc (.cells #[.int .i64 m.procs, .int .i64 m.states, .int .i64 m.loads, .slice ao1 m.links.length cap1, .slice ao3 R.length cap3, .slice ao2 m.starts.length cap2] 26)) := hW0
  have hB0 : Below w.heap.size w W0 := by rw [hW0]; exact (Below.refl _ _).alloc (Nat.le_refl _) _
  have hmb : Blk W0 w.heap.size #[.int .i64 m.procs, .int .i64 m.states, .int .i64 m.loads, .slice ao1 m.links.length cap1, .slice ao3 R.length cap3, .slice ao2 m.starts.length cap2] 26 := by rw [hW0]; exact heap_alloc_new w _
  have hz0 : w.heap.size < W0.heap.size := hmb.lt
  have hop := opened_any W0 m _ _ _ R w.heap.size en (h.keep hB0) hB0.size b1 b2 b3 b4
  clear hW0
  have m0 : W0.cell? ⟨w.heap.size, 0, none⟩ = some (.int .i64 m.procs) := hmb.cell 0
  have m1 : W0.cell? ⟨w.heap.size, 1, none⟩ = some (.int .i64 m.states) := hmb.cell 1
  have m2 : W0.cell? ⟨w.heap.size, 2, none⟩ = some (.int .i64 m.loads) := hmb.cell 2
  have m3 : W0.cell? ⟨w.heap.size, 3, none⟩ = some (.slice ao1 m.links.length cap1) := hmb.cell 3
  have m4 : W0.cell? ⟨w.heap.size, 4, none⟩ = some (.slice ao3 R.length cap3) := hmb.cell 4
  have m5 : W0.cell? ⟨w.heap.size, 5, none⟩ = some (.slice ao2 m.starts.length cap2) := hmb.cell 5
  go_enter Try.func9, Try.ntmps9
  go_upto_region 1 with fail
  rw [← HW0.out]
  go_wp2_with fail
  refine hop.mono ?_
  rintro e1 w1 ⟨hb1, ⟨ha, pv, rfl⟩ | ⟨ha, nb, V, k, lo, cb, db, kb, D, C, rfl, hN, hC, hk, hnx, hsep, hlo1, hlo2⟩⟩
  · clear hop m0 m1 m2 m3 m4 m5
    have hbw : Below w.heap.size w w1 := hB0.trans (hb1.mono hB0.size)
    go_wp2
    go_ret
    exact ⟨rfl, hbw⟩
  · clear hop m0 m1 m2 m3 m4 m5
    have hbw : Below w.heap.size w w1 := hB0.trans (hb1.mono hB0.size)
    obtain ⟨hm, hen0, hen⟩ := right_of_valid (answer_valid ha)
    have T : Tells m en k := ⟨hm, hen0, hen, hnx, hk⟩
    have L1 : Law w w1 nb lo w1.heap.size cb db kb (.slice ao1 m.links.length cap1) (.slice ao3 R.length cap3) (.slice ao2 m.starts.length cap2) m en k D C (fun _ => 0) (openN m) V := ⟨hN, good_open T.env, hC, fun i hi => .inl (hsep i hi), by omega, hbw⟩
    have hmb1 := hmb.keep (kept_of_below' hb1) (fun e => e)
    obtain ⟨hi, hhi⟩ : ∃ hi, hi = w1.heap.size := ⟨_, rfl⟩
    rw [← hhi] at L1
    have hp1 := hm.lim.p1
    have hp2 := hm.lim.p2
    have hnp1 : 1 ≤ np m := by unfold np; omega
    have hnp6 : np m ≤ 6 := by unfold np; omega
    clear ha hN hC hsep hk hnx hhi hmb
    go_wp2
    go_loopw [10] (fun s10 wq => ∃ (i : Nat) (N : Nat → Nat) (s : NS) (V : NV), s10 = .int .i64 i ∧ i ≤ steps.length ∧ Law w wq nb lo hi cb db kb (.slice ao1 m.links.length cap1) (.slice ao3 R.length cap3) (.slice ao2 m.starts.length cap2) m en k D C N s V ∧ Blk wq w.heap.size #[.int .i64 m.procs, .int .i64 m.states, .int .i64 m.loads, .slice ao1 m.links.length cap1, .slice ao3 R.length cap3, .slice ao2 m.starts.length cap2] 26) (fun s10 _ => steps.length - (intOf s10).toNat)
    case atStart => exact ⟨0, _, _, V, rfl, Nat.zero_le _, L1, hmb1⟩
    case round =>
      clear L1 hmb1
      obtain ⟨i, N, s, V, rfl, hi', L, hbx⟩ := hrel
      by_cases hlt2 : i < steps.length
      · obtain ⟨x, hx⟩ := get_of_lt hlt2
        obtain ⟨tb, tof, hao, htbB, htc⟩ := RowsAt.at_ (hT.keep L.bel) hx
        subst hao
        have t0 := htc 0 (.int .i64 x) rfl
        simp only [Nat.add_zero, Nat.mul_one] at t0
        have hltb : tb < wr.heap.size := block_lt_of_cell t0
        have hil : (i : Int) < steps.length := by omega
        have hstep := step_any wr nb m en (FK m en k) (CK m en k) N s V x T.env L.net L.good
        clear htc hx
        go_wp2_with fail
        refine hstep.mono ?_
        rintro e3 w3 ⟨b, s3, V3, rfl, hg3, hc3⟩
        clear hstep t0
        obtain ⟨N3, L3⟩ := L.next T hg3 hc3
        have hbx3 := L.box hg3 hbx
        clear L hbx hg3 hc3
        go_wp2
        go_roundw
        case rel => exact ⟨i + 1, N3, s3, V3, by go_num, hlt2, L3, hbx3⟩
        case measure => simp [intOf]; omega
      · have hR0 : Rnd m en (FK m en k) N 0 0 s := rnd_zero hm hen0 L.good.1
        obtain ⟨A, hA⟩ : ∃ A, A = (atK m en k).all := ⟨_, rfl⟩
        have hA3 : A ≤ 300 := by rw [hA]; exact Nat.le_trans (Tells.all m en k) T.le
        have HA : Hid ((atK m en k).all = A) := hA.symm
        clear hA hi'
        have hB2 : en + 2 ≤ (en + A + 2) * (m.procs + 2) := by
          have h1 : (en + A + 2) * 1 ≤ (en + A + 2) * (m.procs + 2) := Int.mul_le_mul_of_nonneg_left (by omega) (by omega)
          omega
        have hB5 : (en + A + 2) * (m.procs + 2) ≤ 5000 := by
          have h1 : (en + A + 2) * (m.procs + 2) ≤ (en + A + 2) * 8 := Int.mul_le_mul_of_nonneg_left (by omega) (by omega)
          omega
        go_wp2
        go_loopw [11] (fun s11 wq => ∃ (i : Nat) (N : Nat → Nat) (s : NS) (V : NV), s11 = .int .i64 i ∧ i ≤ 5000 ∧ Rnd m en (FK m en k) N i 0 s ∧ Law w wq nb lo hi cb db kb (.slice ao1 m.links.length cap1) (.slice ao3 R.length cap3) (.slice ao2 m.starts.length cap2) m en k D C N s V ∧ Blk wq w.heap.size #[.int .i64 m.procs, .int .i64 m.states, .int .i64 m.loads, .slice ao1 m.links.length cap1, .slice ao3 R.length cap3, .slice ao2 m.starts.length cap2] 26) (fun s11 _ => 5001 - (intOf s11).toNat)
        case atStart => exact ⟨0, N, s, V, rfl, by omega, hR0, L, hbx⟩
        case round =>
          clear L hbx hR0
          obtain ⟨i, N, s, V, rfl, hi', hR, L, hbx⟩ := hrel
          have p0 : wr.cell? ⟨w.heap.size, 0, none⟩ = some (.int .i64 m.procs) := hbx.cell 0
          have hlb := hbx.lt
          obtain ⟨cc, hcb, hc0, hc3, hc9, hc10, hc11⟩ := L.crd.blk
          have c11 : wr.cell? ⟨cb, 11, none⟩ = some (.int .i64 (A : Int)) := by rw [hcb.cell, hc11, HA.out]
          have hlc := hcb.lt
          clear hcb hc0 hc3 hc9 hc10 hc11
          go_wp2
          refine still_tail' 12 (by kernel_rfl) (by kernel_rfl) ?_
          simp only [List.take_succ_cons, List.take_zero, List.drop_succ_cons, List.drop_zero]
          repeat still_step
          refine wpStill_nil ?_
          have hbd : Below wr.heap.size wr wr.drew := ⟨rfl, rfl, rfl, Nat.le_refl _, fun _ _ => rfl⟩
          replace L := L.grow hbd
          replace hbx := hbx.drew
          clear hbd p0 c11 hlb hlc
          obtain ⟨Wd, hWd⟩ : ∃ Wd, Wd = wr.drew := ⟨_, rfl⟩
          rw [← hWd] at L hbx ⊢
          clear hWd
          by_cases hlt3 : (i : Int) < (en + A + 2) * (m.procs + 2)
          · go_wp2
            rw [show decide ((i : Int) < (en + A + 2) * (m.procs + 2)) = true from decide_eq_true hlt3]
            go_loopw [12] (fun s12 wq => ∃ (p : Nat) (N : Nat → Nat) (s : NS) (V : NV), s12 = .int .i64 p ∧ p ≤ np m ∧ Rnd m en (FK m en k) N i p s ∧ Law w wq nb lo hi cb db kb (.slice ao1 m.links.length cap1) (.slice ao3 R.length cap3) (.slice ao2 m.starts.length cap2) m en k D C N s V ∧ Blk wq w.heap.size #[.int .i64 m.procs, .int .i64 m.states, .int .i64 m.loads, .slice ao1 m.links.length cap1, .slice ao3 R.length cap3, .slice ao2 m.starts.length cap2] 26) (fun s12 _ => np m - (intOf s12).toNat)
            case atStart => exact ⟨0, N, s, V, rfl, Nat.zero_le _, hR, L, hbx⟩
            case round =>
              clear L hbx hR
              obtain ⟨p, N, s, V, rfl, hp, hR, L, hbx⟩ := hrel
              have p0 : wr.cell? ⟨w.heap.size, 0, none⟩ = some (.int .i64 m.procs) := hbx.cell 0
              have hlb := hbx.lt
              by_cases hlt4 : p < np m
              · have hpl : (p : Int) < m.procs := by unfold np at hlt4; omega
                have hstep := step_any wr nb m en (FK m en k) (CK m en k) N s V (p : Int) T.env L.net L.good
                go_wp2_with fail
                refine hstep.mono ?_
                rintro e3 w3 ⟨b, s3, V3, rfl, hg3, hc3⟩
                clear hstep p0
                obtain ⟨N3, L3, hR3⟩ := L.round T hR hlt4 hg3 hc3
                have hbx3 := L.box hg3 hbx
                clear L hbx hg3 hc3 hR
                go_wp2
                go_roundw
                case rel => exact ⟨p + 1, N3, s3, V3, by go_num, hlt4, hR3, L3, hbx3⟩
                case measure => simp [intOf]; omega
              · have hpl : ¬ (p : Int) < m.procs := by unfold np at hlt4; omega
                have hpe : p = np m := by omega
                have hR2 := rnd_next hm (hpe ▸ hR)
                clear hpe hR
                go_wp2
                go_roundw
                case rel => exact ⟨i + 1, N, s, V, by go_num, by omega, hR2, L, hbx⟩
                case measure => simp [intOf]; omega
          · have hcal : ∀ q, q < np m → goOnB m en s q = false := fun q hq => hR.calm (by omega) q hq (.inr (by omega))
            have hidl := L.good.1.calm_idle hm hen0 hen T.env.hF hcal
            have hall := L.good.1.idle_all hm T.env.hF T.env.pos hidl
            have hov := overL_any Wd nb lo hi cb db kb _ _ _ m en k D C N s V T L.net L.good L.crd
            clear hR hidl
            go_wp2_with fail
            refine hov.mono ?_
            rintro e4 w4 ⟨rfl, hb4⟩
            clear hov
            have L4 := L.grow hb4
            have hbx4 := hbx.keep (kept_of_below' hb4) (fun e => e)
            clear L hbx
            have hls := lists_any w4 nb lo hi cb db kb _ _ _ m en k D C N s V T L4.net L4.good L4.crd
            go_wp2_with fail
            refine hls.mono ?_
            rintro e5 w5 ⟨hb5', v5, rfl, hO⟩
            clear hls
            have L5 := L4.grow hb5'
            have hbx5 := hbx4.keep (kept_of_below' hb5') (fun e => e)
            clear L4 hbx4
            have hx0 : ∀ p, p < np m → ((List.range (np m)).map (fun p => (N p : Int)))[p]? = some (N p : Int) := fun p hp => by rw [List.getElem?_map, List.getElem?_range hp]; rfl
            have hlen : ((List.range (np m)).map (fun p => (N p : Int))).length = np m := by simp
            obtain ⟨g, cg, hdv, _⟩ := Own.at_ hO (hx0 0 (by omega))
            rw [hlen] at hdv
            have dc : ∀ p, p < np m → w5.cell? ⟨g, p, none⟩ = some (.int .i64 ((FK m en k p).length : Int)) := fun p hp => by
              obtain ⟨g', cg', hdv', _⟩ := Own.at_ hO (hx0 p hp)
              rw [hlen, hdv] at hdv'
              simp only [Value.slice.injEq] at hdv'
              have e1 := hdv'.1
              injection e1 with e1
              injection e1 with e1
              subst e1
              subst hdv
              have := hO.cell (hx0 p hp) (k := 0) (u := .int .i64 (N p : Int)) rfl
              rw [← hall p hp]
              simpa [inE] using this
            have hlg : g < w5.heap.size := block_lt_of_cell (dc 0 (by omega))
            have row : ∀ p, p < np m → ∃ au cu, w5.cell? ⟨db, p, none⟩ = some (.slice au (FK m en k p).length cu) := fun p hpn => by
              obtain ⟨u, hu⟩ := get_of_lt (d := D) (k := p) (by rw [L5.crd.dl]; exact hpn)
              have hru := (L5.crd.dns p u _ hu (T.hist hpn)).at L5.crd.hi
              obtain ⟨au, cu, huf, _⟩ := RowsAt.form hru
              rw [hist_length] at huf
              subst huf
              exact ⟨au, cu, by rw [L5.crd.dn.cell, List.getElem?_toArray, hu]⟩
            have flen : ∀ p, p < np m → (FK m en k p).length ≤ 300 := fun p hp => T.env.len p hp
            subst hdv
            clear hx0 hlen hO hall
            obtain ⟨cc, hcb, hc0, hc3, hc9, hc10, hc11⟩ := L5.crd.blk
            have c9 : w5.cell? ⟨cb, 9, none⟩ = some (.slice (some ⟨db, 0, none⟩) (np m) (np m)) := by rw [hcb.cell, hc9]
            have c11 : w5.cell? ⟨cb, 11, none⟩ = some (.int .i64 (A : Int)) := by rw [hcb.cell, hc11, HA.out]
            have p0 : w5.cell? ⟨w.heap.size, 0, none⟩ = some (.int .i64 m.procs) := hbx5.cell 0
            have hlb := hbx5.lt
            have hlc := hcb.lt
            have hld := L5.crd.dn.lt
            clear hcb hc0 hc3 hc9 hc10 hc11 hbx5
            go_wp2
            go_loopw [16] (fun s15 wq => ∃ p : Nat, s15 = .int .i64 p ∧ p ≤ np m ∧ Below w5.heap.size w5 wq) (fun s15 _ => np m - (intOf s15).toNat)
            case atStart => exact ⟨0, rfl, Nat.zero_le _, Below.refl _ _⟩
            case round =>
              obtain ⟨p, rfl, hp, hbr⟩ := hrel
              have q9 : wr.cell? ⟨cb, 9, none⟩ = _ := (hbr.cell (p := ⟨cb, 9, none⟩) hlc).trans c9
              have q11 : wr.cell? ⟨cb, 11, none⟩ = _ := (hbr.cell (p := ⟨cb, 11, none⟩) hlc).trans c11
              have q0 : wr.cell? ⟨w.heap.size, 0, none⟩ = _ := (hbr.cell (p := ⟨w.heap.size, 0, none⟩) hlb).trans p0
              have hlbr : w.heap.size < wr.heap.size := block_lt_of_cell q0
              have hlcr : cb < wr.heap.size := block_lt_of_cell q9
              have hbd : Below wr.heap.size wr wr.drew := ⟨rfl, rfl, rfl, Nat.le_refl _, fun _ _ => rfl⟩
              by_cases hlt5 : p < np m
              · have hpl : (p : Int) < m.procs := by unfold np at hlt5; omega
                have hpl2 : (p : Int) < (np m : Int) := by omega
                obtain ⟨au, cu, r0⟩ := row p hlt5
                have d0 : wr.cell? ⟨g, p, none⟩ = _ := (hbr.cell (p := ⟨g, p, none⟩) hlg).trans (dc p hlt5)
                have d1 : wr.cell? ⟨db, p, none⟩ = _ := (hbr.cell (p := ⟨db, p, none⟩) hld).trans r0
                have hlgr : g < wr.heap.size := block_lt_of_cell d0
                have hldr : db < wr.heap.size := block_lt_of_cell d1
                have hfl := flen p hlt5
                go_wp2
                refine still_tail' 12 (by kernel_rfl) (by kernel_rfl) ?_
                simp only [List.take_succ_cons, List.take_zero, List.drop_succ_cons, List.drop_zero]
                repeat still_step
                refine wpStill_nil ?_
                have hbr2 := hbr.trans (hbd.mono hbr.size)
                clear d0 d1 r0 q0 q9 q11
                go_wp2
                go_roundw
                case rel => exact ⟨p + 1, by go_num, hlt5, hbr2⟩
                case measure => simp [intOf]; omega
              · have hpl : ¬ (p : Int) < m.procs := by unfold np at hlt5; omega
                have hqu := quiet_any w wr.drew nb lo hi cb db kb _ _ _ m en k D C N s V ((en + A + 2) * (m.procs + 2)) T ((L5.grow hbr).grow hbd) hcal hB5
                go_wp2
                refine still_tail' 14 (by kernel_rfl) (by kernel_rfl) ?_
                simp only [List.take_succ_cons, List.take_zero, List.drop_succ_cons, List.drop_zero]
                repeat still_step
                refine wpStill_nil ?_
                go_wp2_with fail
                refine hqu.mono ?_
                rintro e6 w6 ⟨rfl, hbf⟩
                clear hqu q0 q9 q11
                go_wp2
                go_ret
                exact ⟨rfl, hbf⟩

end Go.Proofs.Ytkobkilfbbalaaa

