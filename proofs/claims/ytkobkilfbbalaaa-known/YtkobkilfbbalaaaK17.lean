/-
  The law Safe: true, whatever the model and the steps.
-/
import Derived.Test.YtkobkilfbbalaaaK16
namespace Go.Proofs.Ytkobkilfbbalaaa
open Go.RowKit Go.Sort Go.Maps

def intC (x : Int) : List Value := [.int .i64 x]

/-- what a law about a net holds in its hands -/
structure Law (w wr : World) (nb lo hi cb db kb : Nat) (lv rv sv : Value) (m : Mdl) (en : Int) (k : Nat) (D C : List Value) (N : Nat → Nat) (s : NS) (V : NV) : Prop where
  net : NetAt wr nb m en s V
  good : Good m en (FK m en k) N s
  crd : CRd wr lo hi cb db kb lv rv sv m D C (atK m en k)
  sep : ∀ i, NF nb V i → i < lo ∨ hi ≤ i
  vlo : w.heap.size < V.lo
  bel : Below w.heap.size w wr

section
variable {w wr w2 : World} {nb lo hi cb db kb : Nat} {lv rv sv : Value} {m : Mdl} {en : Int} {k : Nat} {D C : List Value} {N N' : Nat → Nat} {s s' : NS} {V V' : NV}
theorem Law.grow (L : Law w wr nb lo hi cb db kb lv rv sv m en k D C N s V) (hb : Below wr.heap.size wr w2) : Law w w2 nb lo hi cb db kb lv rv sv m en k D C N s V :=
  ⟨L.net.grow (kept_of_below' hb), L.good, L.crd.keep (kept_of_below' hb) (fun _ _ _ e => e), L.sep, L.vlo, L.bel.trans (hb.mono L.bel.size)⟩
theorem Law.step (L : Law w wr nb lo hi cb db kb lv rv sv m en k D C N s V) (hg : NGo wr w2 nb m en s' V V') (hG : Good m en (FK m en k) N' s') : Law w w2 nb lo hi cb db kb lv rv sv m en k D C N' s' V' := by
  refine ⟨hg.at_, hG, L.crd.keep hg.kept (fun i h1 h2 hf => ?_), fun i hi' => ?_, by rw [hg.bL]; exact L.vlo, L.bel.trans ((hg.below L.net).mono (Nat.le_of_lt L.vlo))⟩
  · rcases L.sep i hf with h3 | h3 <;> omega
  · rcases hg.foot i hi' with h3 | h3
    · exact L.sep i h3
    · exact .inr (Nat.le_trans L.crd.hi h3)
theorem Law.box (L : Law w wr nb lo hi cb db kb lv rv sv m en k D C N s V) (hg : NGo wr w2 nb m en s' V V') {c : Array Value} {T : TypeId} (hb : Blk wr w.heap.size c T) : Blk w2 w.heap.size c T :=
  hb.keep hg.kept (fun hf => by have h1 := (L.net.lt hf).1; have h2 := L.vlo; omega)
/-- a step, whatever its number -/
theorem Law.next (T : Tells m en k) (L : Law w wr nb lo hi cb db kb lv rv sv m en k D C N s V) {x : Int} {b : Bool} (hg : NGo wr w2 nb m en s' V V') (hc : (isP m x = false ∧ b = false ∧ s' = s) ∨ (0 ≤ x ∧ x < m.procs ∧ Stepped m en s s' x.toNat b)) : ∃ N', Law w w2 nb lo hi cb db kb lv rv sv m en k D C N' s' V' := by
  rcases hc with ⟨_, _, h1⟩ | ⟨h0, h1, hs⟩
  · subst h1; exact ⟨N, L.step hg L.good⟩
  · obtain ⟨N', _, hG⟩ := L.good.stepped T.env (p := x.toNat) (by unfold np; omega) hs
    exact ⟨N', L.step hg hG⟩
theorem Law.dns (T : Tells m en k) (L : Law w wr nb lo hi cb db kb lv rv sv m en k D C N s V) : ∀ (i : Nat) (b : NP), s.ps[i]? = some b → b.dn.length ≤ 5000 := fun i b hb => by have := L.good.1.waits_len T.env hb; omega
end

set_option maxRecDepth 100000 in
set_option maxHeartbeats 16000000 in
theorem safe_any (w : World) (m : Mdl) (lv rv sv tv : Value) (R : List RuleV) (steps : List Int) (en : Int) (h : ModelAt w w.heap.size lv rv sv m R) (hT : RowsAt 1 intC w w.heap.size tv steps)
    (b1 : m.links.length * 24 ≤ 140737488351232) (b2 : m.rules.length * 56 ≤ 140737488351232) (b3 : m.starts.length * 24 ≤ 140737488351232) (b4 : ∀ r ∈ m.rules, r.es.length * 24 ≤ 140737488351232) (b5 : steps.length * 8 ≤ 140737488351232) :
    Calls Try.prog 5 #[.agg #[.int .i64 m.procs, .int .i64 m.states, .int .i64 m.loads, lv, rv, sv], .int .i64 en, tv] w fun e w' => e = .returned (.bool true) ∧ Below w.heap.size w w' := by
  obtain ⟨aot, capt, htv, hcapt⟩ := RowsAt.form hT
  subst htv
  obtain ⟨ao2, cap2, hsv, hcap2⟩ := RowsAt.form h.starts
  subst hsv
  obtain ⟨ao1, cap1, hlv, hcap1⟩ := RowsAt.form h.links
  subst hlv
  obtain ⟨ao3, cap3, hrv, hcap3⟩ := RowsAt.form h.rules.1
  subst hrv
  obtain ⟨W0, hW0⟩ : ∃ W0, W0 = w.alloc (.cells #[.int .i64 m.procs, .int .i64 m.states, .int .i64 m.loads, .slice ao1 m.links.length cap1, .slice ao3 R.length cap3, .slice ao2 m.starts.length cap2] 26) := ⟨_, rfl⟩
  have HW0 : Hid (W0 = w.alloc (.cells #[.int .i64 m.procs, .int .i64 m.states, .int .i64 m.loads, .slice ao1 m.links.length cap1, .slice ao3 R.length cap3, .slice ao2 m.starts.length cap2] 26)) := hW0
  have hB0 : Below w.heap.size w W0 := by rw [hW0]; exact (Below.refl _ _).alloc (Nat.le_refl _) _
  have hmb : Blk W0 w.heap.size #[.int .i64 m.procs, .int .i64 m.states, .int .i64 m.loads, .slice ao1 m.links.length cap1, .slice ao3 R.length cap3, .slice ao2 m.starts.length cap2] 26 := by rw [hW0]; exact heap_alloc_new w _
  have hz0 : w.heap.size < W0.heap.size := hmb.lt
  have hop := opened_any W0 m _ _ _ R w.heap.size en (h.keep hB0) hB0.size b1 b2 b3 b4
  clear hW0
  have m0 : W0.cell? ⟨w.heap.size, 0, none⟩ = some (.int .i64 m.procs) := hmb.cell 0
  have m1 : W0.cell? ⟨w.heap.size, 1, none⟩ = some (.int .i64 m.states) := hmb.cell 1
  have m2 : W0.cell? ⟨w.heap.size, 2, none⟩ = some (.int .i64 m.loads) := hmb.cell 2
  have m3 : W0.cell? ⟨w.heap.size, 3, none⟩ = some (.slice ao1 m.links.length cap1) := hmb.cell 3
  have m4 : W0.cell? ⟨w.heap.size, 4, none⟩ = some (.slice ao3 R.length cap3) := hmb.cell 4
  have m5 : W0.cell? ⟨w.heap.size, 5, none⟩ = some (.slice ao2 m.starts.length cap2) := hmb.cell 5
  go_enter Try.func5, Try.ntmps5
  go_upto_region 1 with fail
  rw [← HW0.out]
  go_wp2_with fail
  refine hop.mono ?_
  rintro e1 w1 ⟨hb1, ⟨ha, pv, rfl⟩ | ⟨ha, nb, V, k, lo, cb, db, kb, D, C, rfl, hN, hC, hk, hnx, hsep, hlo1, hlo2⟩⟩
  · clear hop m0 m1 m2 m3 m4 m5
    have hbw : Below w.heap.size w w1 := hB0.trans (hb1.mono hB0.size)
    go_wp2
    go_ret
    exact ⟨rfl, hbw⟩
  · clear hop m0 m1 m2 m3 m4 m5
    have hbw : Below w.heap.size w w1 := hB0.trans (hb1.mono hB0.size)
    obtain ⟨hm, hen0, hen⟩ := right_of_valid (answer_valid ha)
    have T : Tells m en k := ⟨hm, hen0, hen, hnx, hk⟩
    have L1 : Law w w1 nb lo w1.heap.size cb db kb (.slice ao1 m.links.length cap1) (.slice ao3 R.length cap3) (.slice ao2 m.starts.length cap2) m en k D C (fun _ => 0) (openN m) V := ⟨hN, good_open T.env, hC, fun i hi => .inl (hsep i hi), by omega, hbw⟩
    have hmb1 := hmb.keep (kept_of_below' hb1) (fun e => e)
    obtain ⟨hi, hhi⟩ : ∃ hi, hi = w1.heap.size := ⟨_, rfl⟩
    rw [← hhi] at L1
    have hp1 := hm.lim.p1
    have hp2 := hm.lim.p2
    have hnp1 : 1 ≤ np m := by unfold np; omega
    have hnp6 : np m ≤ 6 := by unfold np; omega
    have hls := lists_any w1 nb lo hi cb db kb _ _ _ m en k D C (fun _ => 0) (openN m) V T L1.net L1.good L1.crd
    clear ha hN hC hsep hk hnx hhi hmb
    go_wp2_with fail
    refine hls.mono ?_
    rintro e2 w2 ⟨hb2, v2, rfl, hO2⟩
    clear hls
    have L2 := L1.grow hb2
    have hmb2 := hmb1.keep (kept_of_below' hb2) (fun e => e)
    obtain ⟨a2, c2, hv2, hc2⟩ := hO2.form'
    have hlen2 : ((List.range (np m)).map (fun p => (((fun _ => 0 : Nat → Nat) p : Nat) : Int))).length = np m := by simp
    rw [hlen2] at hv2 hc2
    subst hv2
    clear L1 hmb1 hlen2
    go_wp2
    go_loopw [12] (fun s12 wr => ∃ p : Nat, s12 = .int .i64 p ∧ p ≤ np m ∧ wr = w2) (fun s12 _ => np m - (intOf s12).toNat)
    case atStart => exact ⟨0, rfl, Nat.zero_le _, rfl⟩
    case round =>
      obtain ⟨p, rfl, hp, hwr⟩ := hrel
      subst hwr
      by_cases hlt : p < np m
      · have hx : ((List.range (np m)).map (fun p => (((fun _ => 0 : Nat → Nat) p : Nat) : Int)))[p]? = some 0 := by rw [List.getElem?_map, List.getElem?_range hlt]; rfl
        obtain ⟨g, cap', hg, _⟩ := Own.at_ hO2 hx
        simp only [Value.slice.injEq] at hg
        obtain ⟨rfl, -, -⟩ := hg
        have y0 : wr.cell? ⟨g, p, none⟩ = some (.int .i64 0) := by
          have := hO2.cell hx (k := 0) (u := .int .i64 0) rfl
          simpa [inE] using this
        have hlg : g < wr.heap.size := block_lt_of_cell y0
        have hpl : (p : Int) < (np m : Int) := by omega
        clear hx
        go_wp2
        go_roundw
        case rel => exact ⟨p + 1, by go_num, hlt, trivial⟩
        case measure => simp [intOf]; omega
      · clear hO2
        go_wp2
        go_loopw [13] (fun s13 wq => ∃ (i : Nat) (N : Nat → Nat) (s : NS) (V : NV), s13 = .int .i64 i ∧ i ≤ steps.length ∧ Law w wq nb lo hi cb db kb (.slice ao1 m.links.length cap1) (.slice ao3 R.length cap3) (.slice ao2 m.starts.length cap2) m en k D C N s V ∧ Blk wq w.heap.size #[.int .i64 m.procs, .int .i64 m.states, .int .i64 m.loads, .slice ao1 m.links.length cap1, .slice ao3 R.length cap3, .slice ao2 m.starts.length cap2] 26) (fun s13 _ => steps.length - (intOf s13).toNat)
        case atStart => exact ⟨0, _, _, V, rfl, Nat.zero_le _, L2, hmb2⟩
        case round =>
          clear L2 hmb2
          obtain ⟨i, N, s, V, rfl, hi', L, hbx⟩ := hrel
          by_cases hlt2 : i < steps.length
          · obtain ⟨x, hx⟩ := get_of_lt hlt2
            obtain ⟨tb, tof, hao, htbB, htc⟩ := RowsAt.at_ (hT.keep L.bel) hx
            subst hao
            have t0 := htc 0 (.int .i64 x) rfl
            simp only [Nat.add_zero, Nat.mul_one] at t0
            have hltb : tb < wr.heap.size := block_lt_of_cell t0
            have hstep := step_any wr nb m en (FK m en k) (CK m en k) N s V x T.env L.net L.good
            have hil : (i : Int) < steps.length := by omega
            clear hx htc
            go_wp2_with fail
            refine hstep.mono ?_
            rintro e3 w3 ⟨b, s3, V3, rfl, hg3, hc3⟩
            clear hstep t0
            obtain ⟨N3, L3⟩ := L.next T hg3 hc3
            have hbx3 := L.box hg3 hbx
            have hls3 := lists_any w3 nb lo hi cb db kb _ _ _ m en k D C N3 s3 V3 T L3.net L3.good L3.crd
            go_wp2_with fail
            refine hls3.mono ?_
            rintro e4 w4 ⟨hb4, v4, rfl, hO4⟩
            clear hls3
            have L4 := L3.grow hb4
            have hbx4 := hbx3.keep (kept_of_below' hb4) (fun e => e)
            clear L hbx L3 hbx3 hg3 hc3 hO4
            go_wp2
            go_roundw
            case rel => exact ⟨i + 1, N3, s3, V3, by go_num, hlt2, L4, hbx4⟩
            case measure => simp [intOf]; omega
          · have hsee1 := see_any wr nb m en s V (-1) L.net hm (L.dns T)
            have p0 : wr.cell? ⟨w.heap.size, 0, none⟩ = some (.int .i64 m.procs) := hbx.cell 0
            have hlb := hbx.lt
            clear hi'
            go_wp2_with fail
            refine hsee1.mono ?_
            rintro e3 w3 ⟨hb3, ⟨-, rfl⟩ | ⟨h0, -⟩⟩
            rotate_left
            · omega
            clear hsee1 p0
            have L3 := L.grow hb3
            have hbx3 := hbx.keep (kept_of_below' hb3) (fun e => e)
            have p0 : w3.cell? ⟨w.heap.size, 0, none⟩ = some (.int .i64 m.procs) := hbx3.cell 0
            have hlb3 := hbx3.lt
            have hsee2 := see_any w3 nb m en s V m.procs L3.net hm (L.dns T)
            clear L hbx
            go_wp2_with fail
            refine hsee2.mono ?_
            rintro e4 w4 ⟨hb4, ⟨-, rfl⟩ | ⟨-, h0, -⟩⟩
            rotate_left
            · omega
            clear hsee2 p0
            have L4 := L3.grow hb4
            have hbx4 := hbx3.keep (kept_of_below' hb4) (fun e => e)
            have hst1 := step_any w4 nb m en (FK m en k) (CK m en k) N s V (-1) T.env L4.net L4.good
            clear L3 hbx3
            go_wp2_with fail
            refine hst1.mono ?_
            rintro e5 w5 ⟨b5', s5, V5, rfl, hg5, hc5⟩
            clear hst1
            obtain ⟨N5, L5⟩ := L4.next T hg5 hc5
            have hbx5 := L4.box hg5 hbx4
            have hb5f : b5' = false := by
              rcases hc5 with ⟨_, h1, _⟩ | ⟨h1, _⟩
              · exact h1
              · omega
            subst hb5f
            have p0 : w5.cell? ⟨w.heap.size, 0, none⟩ = some (.int .i64 m.procs) := hbx5.cell 0
            have hlb5 := hbx5.lt
            have hst2 := step_any w5 nb m en (FK m en k) (CK m en k) N5 s5 V5 m.procs T.env L5.net L5.good
            clear L4 hbx4 hg5 hc5
            go_wp2_with fail
            refine hst2.mono ?_
            rintro e6 w6 ⟨b6, s6, V6, rfl, hg6, hc6⟩
            clear hst2 p0
            obtain ⟨N6, L6⟩ := L5.next T hg6 hc6
            have hb6f : b6 = false := by
              rcases hc6 with ⟨_, h1, _⟩ | ⟨_, h1, _⟩
              · exact h1
              · omega
            subst hb6f
            have n1 := fun W => eql_slice (P := Try.prog) Try.underlying62 W none 0 0
            have hbf := L6.bel
            clear L5 L6 hg6 hc6 hbx5
            go_wp2
            go_ret
            exact ⟨rfl, hbf⟩

end Go.Proofs.Ytkobkilfbbalaaa

