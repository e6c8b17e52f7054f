/-
  The program: Open.
  The law's own: one, begins.
  The law Checks: true, whatever the model.
  The net's laws: what they share: a course that is read, begins.
  The net's laws: opened, lists.
  The law Safe: true, whatever the model and the steps.
  A model, out of its reading: what the row gives, as a plain model in memory.
-/
import Derived.Test.YtaieackeflmhgaaSafe14
import Derived.Test.YtaieackeflmhgaaSafe13
import Derived.Test.YtaieackeflmhgaaSafe12
import Derived.Test.YtaieackeflmhgaaSafe3
import Derived.ProofKit
import Derived.SizedLaws
import Derived.Deep.Slices
import Derived.Deep.Strs
import Derived.Lib.SmallJoins
namespace Go.Proofs.Ytaieackeflmhgaa
open Go.RowKit Go.Sort Go.Maps

theorem info_lks : (Try.prog.info? 145).map (fun i => (i.zero, i.size, i.bytes)) = some (some (.slice none 0 0), 1, 24) := by kernel_rfl
theorem und_lkss : Try.prog.underlying 139 = some (.slice 145) := by kernel_rfl
theorem ModOwn.low {w : World} {lo lo' : Nat} {lv rv : Value} {m : Mdl} {RS : List RuleS} (h : ModOwn w lo lv rv m RS) (hl : lo' ≤ lo) : ModOwn w lo' lv rv m RS :=
  ⟨h.links.mono hl, h.rules.mono hl, h.same, fun x hx => (h.ems x hx).mono hl⟩
theorem answer_valid {m : Mdl} {en : Int} (h : answer m en = (0, 0)) : valid m en = (0, 0) := by
  unfold answer at h
  split at h
  · assumption
  · exact h

/-- a new net in memory -/
theorem net_open {w : World} {lo Bm B nb pb gb : Nat} {lv rv : Value} {RS : List RuleS} {ps : List Pr} {m : Mdl} {en : Int} (hmo : ModOwn w lo lv rv m RS) (hmf : ∀ k, MF lv rv RS k → k < Bm ∧ k ≠ gb) (hBm : Bm ≤ B) (hlo : lo ≤ B) (hgl : lo ≤ gb)
    (hP : Procs w B pb (np m) ps) (hS : Sim (np m) (c0 m).wait (c0 m).states (c0 m).seqs (c0 m).done ps) (hC : ∀ (i : Nat) (p : Pr), ps[i]? = some p → Clock0 m en i p) (hG : Blk w gb (madeCells #[.slice none 0 0] m.links.length) 145) (hpg : ¬ AllF pb ps gb)
    (hN : Blk w nb #[.int .i64 m.procs, .int .i64 m.states, .int .i64 m.loads, lv, rv, .slice none 0 0, .slice (some ⟨pb, 0, none⟩) (np m) (np m), .slice (some ⟨gb, 0, none⟩) m.links.length m.links.length] 141) (hnb : B ≤ nb) (hng : nb ≠ gb) (hpn : ¬ AllF pb ps nb) :
    NetAt w nb m en (openN m) ⟨lo, Bm, B, lv, rv, RS, pb, ps, gb, List.replicate m.links.length (.slice none 0 0)⟩ := by
  have hrep : ∀ (k : Nat) (v : Value), (List.replicate m.links.length (Value.slice none 0 0))[k]? = some v → v = .slice none 0 0 := fun k v hv => (List.mem_replicate.1 (List.mem_of_getElem? hv)).2
  refine ⟨hN, hmo, hmf, hBm, hlo, hP, hS.len, by simp [openN], fun i p a hp ha => ?_, ?_, by simp, by simp [openN], fun k v hv => ?_, fun i j v v' g hv _ _ hg => ?_, hnb, hgl, hng, hpn, hpg, fun v hv => ?_⟩
  · obtain ⟨hi, rfl⟩ := openN_get ha
    have hc := hC i p hp
    have hst := hS.st i p hp
    have hsq := hS.sent i p hp
    have hdn := hS.dn i p hp
    simp only [c0, List.getElem?_replicate, hi, if_true, Option.some.injEq] at hst hsq hdn
    have hit := hS.items i p hp
    refine ⟨hS.num i p hp, hc.en, hc.hr, hc.ws, hst.symm, hsq.symm, hdn.symm, hit, ?_⟩
    rw [hc.pu, hit.length_eq]
    show _ = 0 + _
    rw [Nat.zero_add]; rfl
  · rw [made_nils] at hG; exact hG
  · rw [hrep k v hv, openN_links]; exact Own.nil _ _ _
  · rw [hrep i v hv] at hg; cases hg
  · rw [(List.mem_replicate.1 hv).2]
    exact ⟨by simp [Value.ownBlock], by simp [Value.ownBlock], fun g hg => by cases hg⟩

set_option maxRecDepth 100000 in
set_option maxHeartbeats 16000000 in
theorem open_any (w : World) (Bm : Nat) (lv rv sv : Value) (m : Mdl) (R : List RuleV) (en : Int) (hM : ModelAt w Bm lv rv sv m R) (hBm : Bm ≤ w.heap.size) (hne : ∀ r ∈ m.rules, r.es.length ≤ 5864062014634) :
    Calls Try.prog 34 #[.agg #[.int .i64 m.procs, .int .i64 m.states, .int .i64 m.loads, lv, rv, sv], .int .i64 en] w fun e w' => Below w.heap.size w w' ∧ ((answer m en ≠ (0, 0) ∧ e = .returned (.tuple #[.pointer none, .int .i64 (answer m en).1, .int .i64 (answer m en).2])) ∨ (answer m en = (0, 0) ∧ ∃ (nb : Nat) (V : NV), e = .returned (.tuple #[.pointer (some ⟨nb, 0, none⟩), .int .i64 0, .int .i64 0]) ∧ NetAt w' nb m en (openN m) V ∧ V.lo = w.heap.size)) := by
  obtain ⟨ao2, cap2, hsv, hcap2⟩ := RowsAt.form hM.starts
  subst hsv
  obtain ⟨ao1, cap1, hlv, hcap1⟩ := RowsAt.form hM.links
  subst hlv
  obtain ⟨ao3, cap3, hrv, hcap3⟩ := RowsAt.form hM.rules.1
  subst hrv
  obtain ⟨W0, hW0⟩ : ∃ W0, W0 = w.alloc (.cells #[.int .i64 m.procs, .int .i64 m.states, .int .i64 m.loads, .slice ao1 m.links.length cap1, .slice ao3 R.length cap3, .slice ao2 m.starts.length cap2] 31) := ⟨_, rfl⟩
  have HW0 : Hid (W0 = w.alloc (.cells #[.int .i64 m.procs, .int .i64 m.states, .int .i64 m.loads, .slice ao1 m.links.length cap1, .slice ao3 R.length cap3, .slice ao2 m.starts.length cap2] 31)) := hW0
  have hB0 : Below w.heap.size w W0 := by rw [hW0]; exact (Below.refl _ _).alloc (Nat.le_refl _) _
  have hb0 : Blk W0 w.heap.size #[.int .i64 m.procs, .int .i64 m.states, .int .i64 m.loads, .slice ao1 m.links.length cap1, .slice ao3 R.length cap3, .slice ao2 m.starts.length cap2] 31 := by rw [hW0]; exact heap_alloc_new w _
  have hchk := check_any m (.slice ao1 m.links.length cap1) (.slice ao3 R.length cap3) (.slice ao2 m.starts.length cap2) R Bm en W0 (hM.keep (hB0.mono hBm)) (Nat.le_trans hBm hB0.size) hne
  clear hW0
  have m0 : W0.cell? ⟨w.heap.size, 0, none⟩ = some (.int .i64 m.procs) := hb0.cell 0
  have m1 : W0.cell? ⟨w.heap.size, 1, none⟩ = some (.int .i64 m.states) := hb0.cell 1
  have m2 : W0.cell? ⟨w.heap.size, 2, none⟩ = some (.int .i64 m.loads) := hb0.cell 2
  have m3 : W0.cell? ⟨w.heap.size, 3, none⟩ = some (.slice ao1 m.links.length cap1) := hb0.cell 3
  have m4 : W0.cell? ⟨w.heap.size, 4, none⟩ = some (.slice ao3 R.length cap3) := hb0.cell 4
  have m5 : W0.cell? ⟨w.heap.size, 5, none⟩ = some (.slice ao2 m.starts.length cap2) := hb0.cell 5
  have hl0 := hb0.lt
  go_enter Try.func34, Try.ntmps34
  go_upto_region 1 with fail
  rw [← HW0.out]
  go_wp2_with fail
  refine hchk.mono ?_
  rintro e1 w1 ⟨rfl, hb1⟩
  clear hchk m0 m1 m2 m3 m4 m5
  have hbl1 : Below w.heap.size w w1 := hB0.trans (hb1.mono hB0.size)
  by_cases ha : answer m en = (0, 0)
  · have Ha : Hid (answer m en = (0, 0)) := ha
    obtain ⟨hm, hen0, hen⟩ := right_of_valid (answer_valid ha)
    rw [ha]
    have hb01 := hb0.keep (kept_of_below' hb1) (fun e => e)
    have hS1d : MC6 w1.drew w.heap.size (.int .i64 m.procs) (.int .i64 m.states) (.int .i64 m.loads) (.slice ao1 m.links.length cap1) (.slice ao3 R.length cap3) (.slice ao2 m.starts.length cap2) := ⟨hb01.cell 0, hb01.cell 1, hb01.cell 2, hb01.cell 3, hb01.cell 4, hb01.cell 5⟩
    have hb1d : Below w.heap.size w w1.drew := hbl1.trans ⟨rfl, rfl, rfl, Nat.le_refl _, fun _ _ => rfl⟩
    have hnl := hm.lim.nl
    have hmk := fun W => run_make_row' (P := Try.prog) 139 145 (.slice none 0 0) 24 und_lkss info_lks rfl .i64 .i64 m.links.length (by omega) (by omega) W
    have hlw : w.heap.size < w1.heap.size := hb01.lt
    clear ha hb0 hb01
    go_wp2
    refine wp_region_held_drew (S := (fun W => MC6 W w.heap.size (.int .i64 m.procs) (.int .i64 m.states) (.int .i64 m.loads) (.slice ao1 m.links.length cap1) (.slice ao3 R.length cap3) (.slice ao2 m.starts.length cap2))) (by kernel_rfl) ?_ (fun hHeld => ?_)
    · (try dsimp only)
      assumption
    refine takeL 0 (v := ?_) rfl (by kernel_rfl) (by kernel_rfl) (by kernel_rfl) (fun _ _ _ h => h) (by rfl) ?_ (by assumption) ?_
    rotate_left
    · intro w hSw
      (try simp only [MC6] at hSw)
      go_simp
      all_goals with_reducible rfl
    try simp only [Act.put, List.setIfInBounds_toArray, List.set_cons_zero, List.set_cons_succ]
    refine takeL 2 (v := ?_) rfl (by kernel_rfl) (by kernel_rfl) (by kernel_rfl) (fun _ _ _ h => h) (by rfl) ?_ (by assumption) ?_
    rotate_left
    · intro w hSw
      (try simp only [MC6] at hSw)
      go_simp
      all_goals with_reducible rfl
    try simp only [Act.put, List.setIfInBounds_toArray, List.set_cons_zero, List.set_cons_succ]
    refine takeL 3 (v := ?_) rfl (by kernel_rfl) (by kernel_rfl) (by kernel_rfl) (fun _ _ _ h => h) (by rfl) ?_ (by assumption) ?_
    rotate_left
    · intro w hSw
      (try simp only [MC6] at hSw)
      go_simp
      all_goals with_reducible rfl
    try simp only [Act.put, List.setIfInBounds_toArray, List.set_cons_zero, List.set_cons_succ]
    refine takeL 5 (v := ?_) rfl (by kernel_rfl) (by kernel_rfl) (by kernel_rfl) (fun _ _ _ h => h) (by rfl) ?_ (by assumption) ?_
    rotate_left
    · intro w hSw
      (try simp only [MC6] at hSw)
      go_simp
      all_goals with_reducible rfl
    try simp only [Act.put, List.setIfInBounds_toArray, List.set_cons_zero, List.set_cons_succ]
    refine takeL 6 (v := ?_) rfl (by kernel_rfl) (by kernel_rfl) (by kernel_rfl) (fun _ _ _ h => h) (by rfl) ?_ (by assumption) ?_
    rotate_left
    · intro w hSw
      (try simp only [MC6] at hSw)
      go_simp
      all_goals with_reducible rfl
    try simp only [Act.put, List.setIfInBounds_toArray, List.set_cons_zero, List.set_cons_succ]
    refine takeL 7 (v := ?_) rfl (by kernel_rfl) (by kernel_rfl) (by kernel_rfl) (fun _ _ _ h => h) (by rfl) ?_ (by assumption) ?_
    rotate_left
    · intro w hSw
      (try simp only [MC6] at hSw)
      go_simp
      all_goals with_reducible rfl
    try simp only [Act.put, List.setIfInBounds_toArray, List.set_cons_zero, List.set_cons_succ]
    refine wpAnyH_ready (rs := [1, 8]) (by kernel_rfl) (by simp) ?_
    refine consL rfl (fun K hK => ?_) (consL rfl (fun K hK => ?_) AllReadyH.nil)
    have hk1 := kept_any w1.drew Bm (.slice ao1 m.links.length cap1) (.slice ao3 R.length cap3) (.slice ao2 m.starts.length cap2) m R (hM.keep (hb1d.mono hBm)) (Nat.le_trans hBm hb1d.size) hm
    go_simp
    refine hk1.mono ?_
    rintro ek wk ⟨lv1, rv1, RS, rfl, hMO, hbk⟩
    clear hk1
    have hbK : Below w.heap.size w wk := hb1d.trans (hbk.mono hb1d.size)
    have hSk := hS1d.keep (kept_of_below' hbk) (fun e => e)
    obtain ⟨la, ln, lc, hlv⟩ : ∃ a n c, lv1 = .slice a n c := by obtain ⟨a, c, h1, _⟩ := hMO.links.form'; exact ⟨a, _, c, h1⟩
    obtain ⟨ra, rn, rc, hrv⟩ : ∃ a n c, rv1 = .slice a n c := by obtain ⟨a, c, h1, _⟩ := hMO.rules.form'; exact ⟨a, _, c, h1⟩
    subst hlv hrv
    have hMO := ModOwn.low hMO (show w.heap.size ≤ _ from hb1d.size)
    go_wp2_with fail
    refine hK.out _ _ ?_ (fun hHeld => ?_)
    · (try dsimp only)
      assumption
    clear hK K
    try simp only [Act.put, List.setIfInBounds_toArray, List.set_cons_zero, List.set_cons_succ]
    refine wpAnyH_ready (rs := [4, 8]) (by kernel_rfl) (by simp) ?_
    refine consL rfl (fun K hK => ?_) (consL rfl (fun K hK => ?_) AllReadyH.nil)
    have hn1 := newProcs_any wk Bm (.slice ao1 m.links.length cap1) (.slice ao3 R.length cap3) (.slice ao2 m.starts.length cap2) m R en (hM.keep (hbK.mono hBm)) (Nat.le_trans hBm hbK.size) hm
    go_simp
    refine hn1.mono ?_
    rintro en1 wn ⟨pb, ps, rfl, hPr, hSim, hpu, hbn, hC0⟩
    clear hn1
    have hbN : Below w.heap.size w wn := hbK.trans (hbn.mono hbK.size)
    have hSn := hSk.keep (kept_of_below' hbn) (fun e => e)
    have hMOn := hMO.keep (kept_of_below' hbn) (fun _ _ e => e)
    have hB1 : wk.heap.size ≤ wk.heap.size := Nat.le_refl _
    obtain ⟨B, hBe⟩ : ∃ B, B = wk.heap.size + 1 := ⟨_, rfl⟩
    rw [← hBe] at hPr
    have hBk : wk.heap.size ≤ B := by omega
    have hwB : w.heap.size ≤ B := Nat.le_trans hbK.size hBk
    have hBg : wk.heap.size < B := by omega
    clear hBe
    go_wp2_with fail
    refine hK.out _ _ ?_ (fun hHeld => ?_)
    · (try dsimp only)
      assumption
    clear hK K
    try simp only [Act.put, List.setIfInBounds_toArray, List.set_cons_zero, List.set_cons_succ]
    refine wpAnyH_ready (rs := [8]) (by kernel_rfl) (by simp) ?_
    refine consL rfl (fun K hK => ?_) AllReadyH.nil
    obtain ⟨gb, hgz⟩ : ∃ gb, gb = wn.heap.size := ⟨_, rfl⟩
    obtain ⟨wz, hwg⟩ : ∃ wg, wg = wn.alloc (.cells (madeCells #[.slice none 0 0] m.links.length) 145) := ⟨_, rfl⟩
    have hGg : Blk wz gb (madeCells #[.slice none 0 0] m.links.length) 145 := by rw [hwg, hgz]; exact blk_newP rfl
    have hkg : KeptF (fun _ => False) wn wz := by rw [hwg]; exact ((KeptF.refl _ _).alloc _)
    have hgs1 : gb < wz.heap.size := hGg.lt
    have hge : wn.heap.size ≤ gb := by rw [hgz]; exact Nat.le_refl _
    have hbG : Below w.heap.size w wz := hbN.trans (KeptF.below hkg hbN.size (fun _ e => e.elim))
    have hSg := hSn.keep hkg (fun e => e)
    have hgw : w.heap.size ≤ gb := by rw [hgz]; exact hbN.size
    go_simp
    rw [← hwg, ← hgz]
    clear hgz hwg
    have hMOz := hMOn.keep hkg (fun _ _ e => e)
    have hPz := hPr.grow hkg
    have hGz := hGg
    have hbz := hbG
    have hSz := hSg
    have hgMF : ∀ k, MF (.slice la ln lc) (.slice ra rn rc) RS k → k ≠ gb := fun k hk e => by have h1 := (hMO.lt hk).2; have h2 := hbn.size; omega
    have hpgz : ¬ AllF pb ps gb := fun hf => by have := (hPr.lt hf).2; omega
    have hSy := hSz.keep ((KeptF.refl (fun _ => False) wz).alloc (.cells #[.int .i64 m.procs, .int .i64 m.states, .int .i64 m.loads, .slice la ln lc, .slice ra rn rc, .slice none 0 0, .slice (some ⟨pb, 0, none⟩) (np m) (np m), .slice (some ⟨gb, 0, none⟩) m.links.length m.links.length] 141)) (fun e => e)
    refine hK.out _ _ ?_ (fun hHeld => ?_)
    · (try dsimp only)
      assumption
    clear hK K
    try simp only [Act.put, List.setIfInBounds_toArray, List.set_cons_zero, List.set_cons_succ]
    refine takeL 9 (v := ?_) rfl (by kernel_rfl) (by kernel_rfl) (by kernel_rfl) (fun _ _ _ h => h) (by rfl) ?_ (by assumption) ?_
    rotate_left
    · intro w hSw
      (try simp only [MC6] at hSw)
      go_simp
      all_goals with_reducible rfl
    try simp only [Act.put, List.setIfInBounds_toArray, List.set_cons_zero, List.set_cons_succ]
    refine wpAnyH_ready (rs := [10]) (by kernel_rfl) (by simp) ?_
    refine consL rfl (fun K hK => ?_) AllReadyH.nil
    go_simp
    refine hK.out _ _ ?_ (fun hHeld => ?_)
    · (try dsimp only)
      assumption
    clear hK K
    try simp only [Act.put, List.setIfInBounds_toArray, List.set_cons_zero, List.set_cons_succ]
    refine wpAnyH_ready (rs := [11]) (by kernel_rfl) (by simp) ?_
    refine consL rfl (fun K hK => ?_) AllReadyH.nil
    go_simp
    refine hK.out _ _ ?_ (fun hHeld => ?_)
    · (try dsimp only)
      assumption
    clear hK K
    try simp only [Act.put, List.setIfInBounds_toArray, List.set_cons_zero, List.set_cons_succ]
    refine wpAnyH_ready (rs := [12]) (by kernel_rfl) (by simp) ?_
    refine consL rfl (fun K hK => ?_) AllReadyH.nil
    go_simp
    refine hK.out _ _ ?_ (fun hHeld => ?_)
    · (try dsimp only)
      assumption
    clear hK K
    try simp only [Act.put, List.setIfInBounds_toArray, List.set_cons_zero, List.set_cons_succ]
    refine wpAnyH_ready (rs := [13]) (by kernel_rfl) (by simp) ?_
    refine consL rfl (fun K hK => ?_) AllReadyH.nil
    go_simp
    refine hK.out _ _ ?_ (fun hHeld => ?_)
    · (try dsimp only)
      assumption
    clear hK K
    try simp only [Act.put, List.setIfInBounds_toArray, List.set_cons_zero, List.set_cons_succ]
    refine wpAnyH_done (by kernel_rfl) ?_ _
    rotate_left 1
    obtain ⟨gb, hgz⟩ : ∃ gb, gb = wk.heap.size := ⟨_, rfl⟩
    obtain ⟨wg, hwg⟩ : ∃ wg, wg = wk.alloc (.cells (madeCells #[.slice none 0 0] m.links.length) 145) := ⟨_, rfl⟩
    have hGg : Blk wg gb (madeCells #[.slice none 0 0] m.links.length) 145 := by rw [hwg, hgz]; exact blk_newP rfl
    have hkg : KeptF (fun _ => False) wk wg := by rw [hwg]; exact ((KeptF.refl _ _).alloc _)
    have hgs1 : gb < wg.heap.size := hGg.lt
    have hge : wk.heap.size ≤ gb := by rw [hgz]; exact Nat.le_refl _
    have hbG : Below w.heap.size w wg := hbK.trans (KeptF.below hkg hbK.size (fun _ e => e.elim))
    have hSg := hSk.keep hkg (fun e => e)
    have hgw : w.heap.size ≤ gb := by rw [hgz]; exact hbK.size
    go_simp
    rw [← hwg, ← hgz]
    clear hgz hwg
    have hMOg := hMO.keep hkg (fun _ _ e => e)
    have hgMF : ∀ k, MF (.slice la ln lc) (.slice ra rn rc) RS k → k ≠ gb := fun k hk e => by have := (hMO.lt hk).2; omega
    refine hK.out _ _ ?_ (fun hHeld => ?_)
    · (try dsimp only)
      assumption
    clear hK K
    try simp only [Act.put, List.setIfInBounds_toArray, List.set_cons_zero, List.set_cons_succ]
    refine wpAnyH_ready (rs := [4]) (by kernel_rfl) (by simp) ?_
    refine consL rfl (fun K hK => ?_) AllReadyH.nil
    have hn1 := newProcs_any wg Bm (.slice ao1 m.links.length cap1) (.slice ao3 R.length cap3) (.slice ao2 m.starts.length cap2) m R en (hM.keep (hbG.mono hBm)) (Nat.le_trans hBm hbG.size) hm
    go_simp
    refine hn1.mono ?_
    rintro en1 wn ⟨pb, ps, rfl, hPr, hSim, hpu, hbn, hC0⟩
    clear hn1
    have hbN : Below w.heap.size w wn := hbG.trans (hbn.mono hbG.size)
    have hSn := hSg.keep (kept_of_below' hbn) (fun e => e)
    have hGn := hGg.keep (kept_of_below' hbn) (fun e => e)
    have hMOn := hMOg.keep (kept_of_below' hbn) (fun _ _ e => e)
    have hB1 : wk.heap.size ≤ wg.heap.size := hkg.size
    obtain ⟨B, hBe⟩ : ∃ B, B = wg.heap.size + 1 := ⟨_, rfl⟩
    rw [← hBe] at hPr
    have hBk : wk.heap.size ≤ B := by omega
    have hwB : w.heap.size ≤ B := Nat.le_trans hbK.size hBk
    have hBg : wg.heap.size < B := by omega
    clear hBe
    have hpgz : ¬ AllF pb ps gb := fun hf => by have h1 := (hPr.lt hf).1; skip; omega
    obtain ⟨wz, hwz⟩ : ∃ wz, wz = wn := ⟨_, rfl⟩
    have hMOz := hMOn
    have hPz := hPr
    have hGz := hGn
    have hbz := hbN
    have hSz := hSn
    rw [← hwz] at hMOz hPz hGz hbz hSz
    rw [← hwz]
    clear hwz
    have hSy := hSz.keep ((KeptF.refl (fun _ => False) wz).alloc (.cells #[.int .i64 m.procs, .int .i64 m.states, .int .i64 m.loads, .slice la ln lc, .slice ra rn rc, .slice none 0 0, .slice (some ⟨pb, 0, none⟩) (np m) (np m), .slice (some ⟨gb, 0, none⟩) m.links.length m.links.length] 141)) (fun e => e)
    go_wp2_with fail
    refine hK.out _ _ ?_ (fun hHeld => ?_)
    · (try dsimp only)
      assumption
    clear hK K
    try simp only [Act.put, List.setIfInBounds_toArray, List.set_cons_zero, List.set_cons_succ]
    refine takeL 9 (v := ?_) rfl (by kernel_rfl) (by kernel_rfl) (by kernel_rfl) (fun _ _ _ h => h) (by rfl) ?_ (by assumption) ?_
    rotate_left
    · intro w hSw
      (try simp only [MC6] at hSw)
      go_simp
      all_goals with_reducible rfl
    try simp only [Act.put, List.setIfInBounds_toArray, List.set_cons_zero, List.set_cons_succ]
    refine wpAnyH_ready (rs := [10]) (by kernel_rfl) (by simp) ?_
    refine consL rfl (fun K hK => ?_) AllReadyH.nil
    go_simp
    refine hK.out _ _ ?_ (fun hHeld => ?_)
    · (try dsimp only)
      assumption
    clear hK K
    try simp only [Act.put, List.setIfInBounds_toArray, List.set_cons_zero, List.set_cons_succ]
    refine wpAnyH_ready (rs := [11]) (by kernel_rfl) (by simp) ?_
    refine consL rfl (fun K hK => ?_) AllReadyH.nil
    go_simp
    refine hK.out _ _ ?_ (fun hHeld => ?_)
    · (try dsimp only)
      assumption
    clear hK K
    try simp only [Act.put, List.setIfInBounds_toArray, List.set_cons_zero, List.set_cons_succ]
    refine wpAnyH_ready (rs := [12]) (by kernel_rfl) (by simp) ?_
    refine consL rfl (fun K hK => ?_) AllReadyH.nil
    go_simp
    refine hK.out _ _ ?_ (fun hHeld => ?_)
    · (try dsimp only)
      assumption
    clear hK K
    try simp only [Act.put, List.setIfInBounds_toArray, List.set_cons_zero, List.set_cons_succ]
    refine wpAnyH_ready (rs := [13]) (by kernel_rfl) (by simp) ?_
    refine consL rfl (fun K hK => ?_) AllReadyH.nil
    go_simp
    refine hK.out _ _ ?_ (fun hHeld => ?_)
    · (try dsimp only)
      assumption
    clear hK K
    try simp only [Act.put, List.setIfInBounds_toArray, List.set_cons_zero, List.set_cons_succ]
    refine wpAnyH_done (by kernel_rfl) ?_ _
    rotate_left 1
    obtain ⟨gb, hgz⟩ : ∃ gb, gb = w1.heap.size := ⟨_, rfl⟩
    obtain ⟨wg, hwg⟩ : ∃ wg, wg = (w1.alloc (.cells (madeCells #[.slice none 0 0] m.links.length) 145)).drew := ⟨_, rfl⟩
    have hGg : Blk wg gb (madeCells #[.slice none 0 0] m.links.length) 145 := by rw [hwg, hgz]; exact (blk_newP rfl : Blk (w1.alloc _) _ _ _).drew
    have hkg : KeptF (fun _ => False) w1.drew wg := by rw [hwg]; exact (⟨rfl, rfl, rfl, by simp, fun k hk _ => Below.heap_alloc w1 _ k hk⟩)
    have hgs1 : gb < wg.heap.size := hGg.lt
    have hge : w1.heap.size ≤ gb := by rw [hgz]; exact Nat.le_refl _
    have hbG : Below w.heap.size w wg := hb1d.trans (KeptF.below hkg hb1d.size (fun _ e => e.elim))
    have hSg := hS1d.keep hkg (fun e => e)
    have hgw : w.heap.size ≤ gb := by rw [hgz]; exact hb1d.size
    go_simp
    rw [← hwg, ← hgz]
    clear hgz hwg
    refine hK.out _ _ ?_ (fun hHeld => ?_)
    · (try dsimp only)
      assumption
    clear hK K
    try simp only [Act.put, List.setIfInBounds_toArray, List.set_cons_zero, List.set_cons_succ]
    refine wpAnyH_ready (rs := [1]) (by kernel_rfl) (by simp) ?_
    refine consL rfl (fun K hK => ?_) AllReadyH.nil
    have hk1 := kept_any wg Bm (.slice ao1 m.links.length cap1) (.slice ao3 R.length cap3) (.slice ao2 m.starts.length cap2) m R (hM.keep (hbG.mono hBm)) (Nat.le_trans hBm hbG.size) hm
    go_simp
    refine hk1.mono ?_
    rintro ek wk ⟨lv1, rv1, RS, rfl, hMO, hbk⟩
    clear hk1
    have hbK : Below w.heap.size w wk := hbG.trans (hbk.mono hbG.size)
    have hSk := hSg.keep (kept_of_below' hbk) (fun e => e)
    obtain ⟨la, ln, lc, hlv⟩ : ∃ a n c, lv1 = .slice a n c := by obtain ⟨a, c, h1, _⟩ := hMO.links.form'; exact ⟨a, _, c, h1⟩
    obtain ⟨ra, rn, rc, hrv⟩ : ∃ a n c, rv1 = .slice a n c := by obtain ⟨a, c, h1, _⟩ := hMO.rules.form'; exact ⟨a, _, c, h1⟩
    subst hlv hrv
    have hGk := hGg.keep (kept_of_below' hbk) (fun e => e)
    have hgMF : ∀ k, MF (.slice la ln lc) (.slice ra rn rc) RS k → k ≠ gb := fun k hk e => by have := (hMO.lt hk).1; omega
    have hMO := ModOwn.low hMO (show w.heap.size ≤ _ from hbG.size)
    go_wp2_with fail
    refine hK.out _ _ ?_ (fun hHeld => ?_)
    · (try dsimp only)
      assumption
    clear hK K
    try simp only [Act.put, List.setIfInBounds_toArray, List.set_cons_zero, List.set_cons_succ]
    refine wpAnyH_ready (rs := [4]) (by kernel_rfl) (by simp) ?_
    refine consL rfl (fun K hK => ?_) AllReadyH.nil
    have hn1 := newProcs_any wk Bm (.slice ao1 m.links.length cap1) (.slice ao3 R.length cap3) (.slice ao2 m.starts.length cap2) m R en (hM.keep (hbK.mono hBm)) (Nat.le_trans hBm hbK.size) hm
    go_simp
    refine hn1.mono ?_
    rintro en1 wn ⟨pb, ps, rfl, hPr, hSim, hpu, hbn, hC0⟩
    clear hn1
    have hbN : Below w.heap.size w wn := hbK.trans (hbn.mono hbK.size)
    have hSn := hSk.keep (kept_of_below' hbn) (fun e => e)
    have hGn := hGk.keep (kept_of_below' hbn) (fun e => e)
    have hMOn := hMO.keep (kept_of_below' hbn) (fun _ _ e => e)
    have hB1 : wk.heap.size ≤ wk.heap.size := Nat.le_refl _
    obtain ⟨B, hBe⟩ : ∃ B, B = wk.heap.size + 1 := ⟨_, rfl⟩
    rw [← hBe] at hPr
    have hBk : wk.heap.size ≤ B := by omega
    have hwB : w.heap.size ≤ B := Nat.le_trans hbK.size hBk
    have hBg : wk.heap.size < B := by omega
    clear hBe
    have hpgz : ¬ AllF pb ps gb := fun hf => by have h1 := (hPr.lt hf).1; have h2 := hGk.lt; omega
    obtain ⟨wz, hwz⟩ : ∃ wz, wz = wn := ⟨_, rfl⟩
    have hMOz := hMOn
    have hPz := hPr
    have hGz := hGn
    have hbz := hbN
    have hSz := hSn
    rw [← hwz] at hMOz hPz hGz hbz hSz
    rw [← hwz]
    clear hwz
    have hSy := hSz.keep ((KeptF.refl (fun _ => False) wz).alloc (.cells #[.int .i64 m.procs, .int .i64 m.states, .int .i64 m.loads, .slice la ln lc, .slice ra rn rc, .slice none 0 0, .slice (some ⟨pb, 0, none⟩) (np m) (np m), .slice (some ⟨gb, 0, none⟩) m.links.length m.links.length] 141)) (fun e => e)
    go_wp2_with fail
    refine hK.out _ _ ?_ (fun hHeld => ?_)
    · (try dsimp only)
      assumption
    clear hK K
    try simp only [Act.put, List.setIfInBounds_toArray, List.set_cons_zero, List.set_cons_succ]
    refine takeL 9 (v := ?_) rfl (by kernel_rfl) (by kernel_rfl) (by kernel_rfl) (fun _ _ _ h => h) (by rfl) ?_ (by assumption) ?_
    rotate_left
    · intro w hSw
      (try simp only [MC6] at hSw)
      go_simp
      all_goals with_reducible rfl
    try simp only [Act.put, List.setIfInBounds_toArray, List.set_cons_zero, List.set_cons_succ]
    refine wpAnyH_ready (rs := [10]) (by kernel_rfl) (by simp) ?_
    refine consL rfl (fun K hK => ?_) AllReadyH.nil
    go_simp
    refine hK.out _ _ ?_ (fun hHeld => ?_)
    · (try dsimp only)
      assumption
    clear hK K
    try simp only [Act.put, List.setIfInBounds_toArray, List.set_cons_zero, List.set_cons_succ]
    refine wpAnyH_ready (rs := [11]) (by kernel_rfl) (by simp) ?_
    refine consL rfl (fun K hK => ?_) AllReadyH.nil
    go_simp
    refine hK.out _ _ ?_ (fun hHeld => ?_)
    · (try dsimp only)
      assumption
    clear hK K
    try simp only [Act.put, List.setIfInBounds_toArray, List.set_cons_zero, List.set_cons_succ]
    refine wpAnyH_ready (rs := [12]) (by kernel_rfl) (by simp) ?_
    refine consL rfl (fun K hK => ?_) AllReadyH.nil
    go_simp
    refine hK.out _ _ ?_ (fun hHeld => ?_)
    · (try dsimp only)
      assumption
    clear hK K
    try simp only [Act.put, List.setIfInBounds_toArray, List.set_cons_zero, List.set_cons_succ]
    refine wpAnyH_ready (rs := [13]) (by kernel_rfl) (by simp) ?_
    refine consL rfl (fun K hK => ?_) AllReadyH.nil
    go_simp
    refine hK.out _ _ ?_ (fun hHeld => ?_)
    · (try dsimp only)
      assumption
    clear hK K
    try simp only [Act.put, List.setIfInBounds_toArray, List.set_cons_zero, List.set_cons_succ]
    refine wpAnyH_done (by kernel_rfl) ?_ _
    rotate_left 1
    all_goals
      have hkx : KeptF (fun _ => False) wz (wz.alloc (.cells #[.int .i64 m.procs, .int .i64 m.states, .int .i64 m.loads, .slice la ln lc, .slice ra rn rc, .slice none 0 0, .slice (some ⟨pb, 0, none⟩) (np m) (np m), .slice (some ⟨gb, 0, none⟩) m.links.length m.links.length] 141)) := (KeptF.refl _ wz).alloc _
      have hNx : Blk (wz.alloc (.cells #[.int .i64 m.procs, .int .i64 m.states, .int .i64 m.loads, .slice la ln lc, .slice ra rn rc, .slice none 0 0, .slice (some ⟨pb, 0, none⟩) (np m) (np m), .slice (some ⟨gb, 0, none⟩) m.links.length m.links.length] 141)) wz.heap.size #[.int .i64 m.procs, .int .i64 m.states, .int .i64 m.loads, .slice la ln lc, .slice ra rn rc, .slice none 0 0, .slice (some ⟨pb, 0, none⟩) (np m) (np m), .slice (some ⟨gb, 0, none⟩) m.links.length m.links.length] 141 := heap_alloc_new wz _
      have hbf : Below w.heap.size w (wz.alloc (.cells #[.int .i64 m.procs, .int .i64 m.states, .int .i64 m.loads, .slice la ln lc, .slice ra rn rc, .slice none 0 0, .slice (some ⟨pb, 0, none⟩) (np m) (np m), .slice (some ⟨gb, 0, none⟩) m.links.length m.links.length] 141)) := hbz.alloc hbz.size _
      have hnet := net_open (en := en) (hMOz.keep hkx (fun _ _ e => e)) (fun k hk => ⟨(hMO.lt hk).2, hgMF k hk⟩) hBk hwB hgw (hPz.grow hkx) hSim hC0 (hGz.keep hkx (fun e => e)) hpgz hNx (Nat.le_trans hPz.low (Nat.le_of_lt hPz.arr.lt)) (fun e => by have := hGz.lt; omega) (fun hf => by have := (hPz.lt hf).2; omega)
      have Hnet : Hid (NetAt (wz.alloc (.cells #[.int .i64 m.procs, .int .i64 m.states, .int .i64 m.loads, .slice la ln lc, .slice ra rn rc, .slice none 0 0, .slice (some ⟨pb, 0, none⟩) (np m) (np m), .slice (some ⟨gb, 0, none⟩) m.links.length m.links.length] 141)) wz.heap.size m en (openN m) ⟨w.heap.size, wk.heap.size, B, .slice la ln lc, .slice ra rn rc, RS, pb, ps, gb, List.replicate m.links.length (.slice none 0 0)⟩) := hnet
      clear hnet hmk
      go_wp2
      go_ret3
      exact ⟨hbf, .inr ⟨Ha.out, _, _, rfl, Hnet.out, rfl⟩⟩
  · have hne0 : (answer m en).1 ≠ 0 := by
      intro e
      apply ha
      unfold answer at e ⊢
      split at e
      · rename_i hv
        rw [if_pos hv]
        split at e
        · rename_i hf; rw [if_pos hf]
        · cases e
      · rename_i hv; exact absurd (valid_zero e) hv
    have Ha : Hid (answer m en ≠ (0, 0)) := ha
    clear ha
    go_wp2
    go_ret3
    exact ⟨hbl1, .inl ⟨Ha.out, rfl⟩⟩

end Go.Proofs.Ytaieackeflmhgaa

namespace Go.Proofs.Ytaieackeflmhgaa
open Go.RowKit Go.Sort Go.Maps

theorem Own.rowsB {α : Type} {E : Enc α} {w : World} {B : Nat} {v : Value} {l : List α} (h : Own E w B v l) : RowsAt E.sz E.enc w w.heap.size v l := by
  rcases h.form with ⟨h1, h2⟩ | ⟨g, cap, h1, h2⟩
  · subst h1 h2; exact ⟨none, 0, rfl, Nat.le_refl _, fun e => absurd rfl e⟩
  · subst h1; exact (h.rowsIn cap h2).at

set_option maxRecDepth 100000 in
set_option maxHeartbeats 2000000 in
theorem one_any (x : Dn) (w : World) : Calls Try.prog 54 #[.agg #[.int .i64 x.it.t, .int .i64 x.it.f, .int .i64 x.it.s, .int .i64 x.it.l, .int .i64 x.st], .agg #[.int .i64 x.it.t, .int .i64 x.it.f, .int .i64 x.it.s, .int .i64 x.it.l, .int .i64 x.st]] w fun e w' => e = .returned (.bool true) ∧ Below w.heap.size w w' := by
  have hB0 : Below w.heap.size w ((w.alloc (.cells #[.int .i64 x.it.t, .int .i64 x.it.f, .int .i64 x.it.s, .int .i64 x.it.l, .int .i64 x.st] 69)).alloc (.cells #[.int .i64 x.it.t, .int .i64 x.it.f, .int .i64 x.it.s, .int .i64 x.it.l, .int .i64 x.st] 136)) := ((Below.refl _ _).alloc (Nat.le_refl _) _).alloc (by simp) _
  go_enter Try.func54, Try.ntmps54
  go_wp2
  go_ret
  exact ⟨rfl, hB0⟩

set_option maxRecDepth 100000 in
set_option maxHeartbeats 4000000 in
theorem begins_any (w : World) (B : Nat) (va vb : Value) (l : List Dn) (ha : RowsAt 5 dnC w B va l) (hb : RowsAt 5 dnC w B vb l) (hB : B ≤ w.heap.size) (hl : l.length ≤ 5000) :
    Calls Try.prog 23 #[va, vb] w fun e w' => e = .returned (.bool true) ∧ Below w.heap.size w w' := by
  obtain ⟨aoa, capa, rfl, hcapa⟩ := RowsAt.form ha
  obtain ⟨aob, capb, rfl, hcapb⟩ := RowsAt.form hb
  go_enter Try.func23, Try.ntmps23
  go_wp2
  go_loopw [5] (fun s5 wr => ∃ i : Nat, s5 = .int .i64 i ∧ i ≤ l.length ∧ Below w.heap.size w wr) (fun s5 _ => l.length - (intOf s5).toNat)
  case atStart => exact ⟨0, rfl, Nat.zero_le _, Below.refl _ _⟩
  case round =>
    obtain ⟨i, rfl, hi, hbw⟩ := hrel
    by_cases hlt : i < l.length
    · obtain ⟨x, hx⟩ := get_of_lt hlt
      obtain ⟨ba, oa, haa, hbaB, hca⟩ := RowsAt.at_ (ha.keep (hbw.mono hB)) hx
      obtain ⟨bb, ob, hab, hbbB, hcb⟩ := RowsAt.at_ (hb.keep (hbw.mono hB)) hx
      subst haa hab
      have a0 := cell_regrown (hca 0 (.int .i64 x.it.t) rfl)
      have a1 := cell_regrown (hca 1 (.int .i64 x.it.f) rfl)
      have a2 := cell_regrown (hca 2 (.int .i64 x.it.s) rfl)
      have a3 := cell_regrown (hca 3 (.int .i64 x.it.l) rfl)
      have a4 := cell_regrown (hca 4 (.int .i64 x.st) rfl)
      have c0 := cell_regrown (hcb 0 (.int .i64 x.it.t) rfl)
      have c1 := cell_regrown (hcb 1 (.int .i64 x.it.f) rfl)
      have c2 := cell_regrown (hcb 2 (.int .i64 x.it.s) rfl)
      have c3 := cell_regrown (hcb 3 (.int .i64 x.it.l) rfl)
      have c4 := cell_regrown (hcb 4 (.int .i64 x.st) rfl)
      simp only [Nat.add_zero] at a0 c0
      have hone : ∀ q : Regrown, Calls Try.prog 54 #[.agg #[.int .i64 x.it.t, .int .i64 x.it.f, .int .i64 x.it.s, .int .i64 x.it.l, .int .i64 x.st], .agg #[.int .i64 x.it.t, .int .i64 x.it.f, .int .i64 x.it.s, .int .i64 x.it.l, .int .i64 x.st]] (grow (redrawn wr q.d) q.os) fun e' w'' => e' = .returned (.bool true) ∧ ∃ q : Regrown, w'' = grow (redrawn wr q.d) q.os := fun q => Calls.regrown_of (one_any x _)
      have hil : (i : Int) < l.length := by omega
      clear hca hcb hx
      go_upto_region 6 with fail
      refine wp_region_quiet_below (by kernel_rfl) (by kernel_rfl) ?_
      repeat (quiet_step (exact hone _))
      refine wpQuiet_nil ?_
      intro wq hw'
      have hbq := below_of_regrown hw'
      clear hw' a0 a1 a2 a3 a4 c0 c1 c2 c3 c4 hone
      go_wp2
      go_roundw
      case rel => exact ⟨i + 1, by go_num, hlt, hbw.trans (hbq.mono hbw.size)⟩
      case measure => simp [intOf]; omega
    · go_wp2
      go_ret
      exact ⟨rfl, hbw⟩

end Go.Proofs.Ytaieackeflmhgaa

namespace Go.Proofs.Ytaieackeflmhgaa
open Go.RowKit Go.Sort Go.Maps

theorem num_any (x : Int) (w : World) : Calls Try.prog 18 #[.int .i64 x] w fun e w' => e = .returned (.int .i64 x) ∧ w' = w := by
  go_enter Try.func18, Try.ntmps18
  go_wp2
  go_ret
  exact ⟨rfl, rfl⟩

set_option maxRecDepth 100000 in
set_option maxHeartbeats 4000000 in
theorem checks_any (w : World) (m : Mdl) (lv rv sv : Value) (R : List RuleV) (en : Int) (h : ModelAt w w.heap.size lv rv sv m R)
    (b1 : m.links.length * 24 ≤ 140737488351232) (b2 : m.rules.length * 56 ≤ 140737488351232) (b3 : m.starts.length * 24 ≤ 140737488351232) (b4 : ∀ r ∈ m.rules, r.es.length * 24 ≤ 140737488351232) :
    Calls Try.prog 3 #[.agg #[.int .i64 m.procs, .int .i64 m.states, .int .i64 m.loads, lv, rv, sv], .int .i64 en] w fun e w' => e = .returned (.bool true) ∧ Below w.heap.size w w' := by
  have hne : ∀ r ∈ m.rules, r.es.length ≤ 5864062014634 := fun r hr => by have := b4 r hr; omega
  obtain ⟨W0, hW0⟩ : ∃ W0, W0 = w.alloc (.cells #[.int .i64 m.procs, .int .i64 m.states, .int .i64 m.loads, lv, rv, sv] 26) := ⟨_, rfl⟩
  have HW0 : Hid (W0 = w.alloc (.cells #[.int .i64 m.procs, .int .i64 m.states, .int .i64 m.loads, lv, rv, sv] 26)) := hW0
  have hB0 : Below w.heap.size w W0 := by rw [hW0]; exact (Below.refl _ _).alloc (Nat.le_refl _) _
  have hmb : Blk W0 w.heap.size #[.int .i64 m.procs, .int .i64 m.states, .int .i64 m.loads, lv, rv, sv] 26 := by rw [hW0]; exact heap_alloc_new w _
  have k0 := Gr.cells (v := .int .i64 m.procs) (hmb.cell 0)
  have k1 := Gr.cells (v := .int .i64 m.states) (hmb.cell 1)
  have k2 := Gr.cells (v := .int .i64 m.loads) (hmb.cell 2)
  have k3 := Gr.cells (v := lv) (hmb.cell 3)
  have k4 := Gr.cells (v := rv) (hmb.cell 4)
  have k5 := Gr.cells (v := sv) (hmb.cell 5)
  have hg0 := Gr.refl W0
  have hlm := hmb.lt
  have hmade := made_any m lv rv sv R w.heap.size W0 (h.keep hB0) hB0.size b1 b2 b3 b4
  clear hW0
  go_enter Try.func3, Try.ntmps3
  go_upto_region 1 with fail
  rw [← HW0.out]
  clear HW0
  go_wp2_with fail
  refine hmade.mono ?_
  rintro e1 w1 ⟨lv', rv', sv', R', rfl, hM', g1⟩
  clear hmade
  obtain ⟨a1, c1, hf1, _⟩ := RowsAt.form hM'.links
  obtain ⟨a2, c2, hf2, _⟩ := RowsAt.form hM'.rules.1
  obtain ⟨a3, c3, hf3, _⟩ := RowsAt.form hM'.starts
  subst hf1 hf2 hf3
  have hg1 : Gr W0 (w1.alloc (.cells #[.int .i64 m.procs, .int .i64 m.states, .int .i64 m.loads, (.slice a1 m.links.length c1), (.slice a2 R'.length c2), (.slice a3 m.starts.length c3)] 31)) := Gr.alloc (W0 := W0) g1 _
  have hbA : Below w1.heap.size w1 (w1.alloc (.cells #[.int .i64 m.procs, .int .i64 m.states, .int .i64 m.loads, (.slice a1 m.links.length c1), (.slice a2 R'.length c2), (.slice a3 m.starts.length c3)] 31)) := (Below.refl _ _).alloc (Nat.le_refl _) _
  have hck := check_any m (.slice a1 m.links.length c1) (.slice a2 R'.length c2) (.slice a3 m.starts.length c3) R' w1.heap.size en (w1.alloc (.cells #[.int .i64 m.procs, .int .i64 m.states, .int .i64 m.loads, (.slice a1 m.links.length c1), (.slice a2 R'.length c2), (.slice a3 m.starts.length c3)] 31)) (hM'.keep hbA) hbA.size hne
  go_wp2_with fail
  refine hck.mono ?_
  rintro e2 w2 ⟨rfl, g2⟩
  clear hck
  have hg2 : Gr W0 w2 := Gr.trans hg1 g2
  have hbw2 : Below w.heap.size w w2 := Gr.below hg2 hB0
  have hrf := refCheck_any m lv rv sv R w.heap.size en w2 (h.keep hbw2) hbw2.size hne
  generalize answer m en = a at *
  go_wp2_with fail
  refine hrf.mono ?_
  rintro e3 w3 ⟨pv, rfl, g3, -⟩
  clear hrf
  have hbw3 : Below w.heap.size w w3 := hbw2.trans (g3.mono hbw2.size)
  have hnum := num_any a.1 w3
  go_wp2_with (go_at_call 18; refine hnum.mono ?_; rintro e4 w4 ⟨rfl, rfl⟩)
  go_ret
  exact ⟨rfl, hbw3⟩

end Go.Proofs.Ytaieackeflmhgaa

namespace Go.Proofs.Ytaieackeflmhgaa
open Go.RowKit Go.Sort Go.Maps

/-- rows that are read, in a block from lo on, below hi -/
def RowsW {α : Type} (sz : Nat) (enc : α → List Value) (lo hi : Nat) (w : World) (v : Value) (l : List α) : Prop :=
  ∃ ao cap, v = .slice ao l.length cap ∧ l.length ≤ cap ∧ (l ≠ [] → ∃ b off, ao = some ⟨b, off, none⟩ ∧ lo ≤ b ∧ b < hi ∧ ∀ (j : Nat) (x : α) (k : Nat) (u : Value), l[j]? = some x → (enc x)[k]? = some u → w.cell? ⟨b, off + j * sz + k, none⟩ = some u)
theorem RowsW.keep {α : Type} {sz : Nat} {enc : α → List Value} {lo hi : Nat} {w w' : World} {v : Value} {l : List α} {F : Nat → Prop} (h : RowsW sz enc lo hi w v l) (k : KeptF F w w') (hh : hi ≤ w.heap.size) (hF : ∀ i, lo ≤ i → i < hi → ¬ F i) : RowsW sz enc lo hi w' v l := by
  obtain ⟨ao, cap, h1, h2, h3⟩ := h
  refine ⟨ao, cap, h1, h2, fun hne => ?_⟩
  obtain ⟨b, off, h4, h5, h6, h7⟩ := h3 hne
  exact ⟨b, off, h4, h5, h6, fun j x k' u hx hu => by rw [k.cell (p := ⟨b, _, none⟩) (by exact Nat.lt_of_lt_of_le h6 hh) (hF b h5 h6)]; exact h7 j x k' u hx hu⟩
theorem RowsW.at {α : Type} {sz : Nat} {enc : α → List Value} {lo hi : Nat} {w : World} {v : Value} {l : List α} (h : RowsW sz enc lo hi w v l) (hh : hi ≤ w.heap.size) : RowsAt sz enc w w.heap.size v l := by
  obtain ⟨ao, cap, h1, h2, h3⟩ := h
  refine ⟨ao, cap, h1, h2, fun hne => ?_⟩
  obtain ⟨b, off, h4, h5, h6, h7⟩ := h3 hne
  exact ⟨b, off, h4, by omega, h7⟩
theorem Own.rowsW {α : Type} {E : Enc α} {w : World} {B : Nat} {v : Value} {l : List α} (h : Own E w B v l) : RowsW E.sz E.enc B w.heap.size w v l := by
  rcases h.form with ⟨h1, h2⟩ | ⟨g, cap, h1, h2⟩
  · subst h1 h2; exact ⟨none, 0, rfl, Nat.le_refl _, fun e => absurd rfl e⟩
  · subst h1
    refine ⟨_, _, rfl, h2, fun _ => ⟨g, 0, rfl, (h.lt rfl).1, (h.lt rfl).2, fun j x k u hx hu => ?_⟩⟩
    rw [Nat.zero_add]
    exact h.cell hx hu

/-- what is read of a course: all that happens -/
structure CRd (w : World) (lo hi cb db kb : Nat) (lv rv sv : Value) (m : Mdl) (D C : List Value) (c : Cs) : Prop where
  blk : ∃ b : Array Value, Blk w cb b 66 ∧ b[0]? = some (.int .i64 m.procs) ∧ b[3]? = some lv ∧ b[9]? = some (.slice (some ⟨db, 0, none⟩) (np m) (np m)) ∧ b[10]? = some (.slice (some ⟨kb, 0, none⟩) (np m) (np m)) ∧ b[11]? = some (.int .i64 (c.all : Int))
  dn : Blk w db D.toArray 61
  ca : Blk w kb C.toArray 55
  dl : D.length = np m
  cl : C.length = np m
  dns : ∀ (p : Nat) (v : Value) (l : List Dn), D[p]? = some v → c.done[p]? = some l → RowsW 5 dnC lo hi w v l
  cas : ∀ (p : Nat) (v : Value) (l : List Int), C[p]? = some v → c.causes[p]? = some l → RowsW 1 (fun x => [.int .i64 x]) lo hi w v l
  lc : lo ≤ cb ∧ cb < hi
  ld : lo ≤ db ∧ db < hi
  lk : lo ≤ kb ∧ kb < hi
  hi : hi ≤ w.heap.size
theorem CRd.keep {F : Nat → Prop} {w w' : World} {lo hi cb db kb : Nat} {lv rv sv : Value} {m : Mdl} {D C : List Value} {c : Cs} (h : CRd w lo hi cb db kb lv rv sv m D C c) (k : KeptF F w w') (hF : ∀ i, lo ≤ i → i < hi → ¬ F i) : CRd w' lo hi cb db kb lv rv sv m D C c := by
  obtain ⟨b, h1, h2⟩ := h.blk
  exact ⟨⟨b, h1.keep k (hF _ h.lc.1 h.lc.2), h2⟩, h.dn.keep k (hF _ h.ld.1 h.ld.2), h.ca.keep k (hF _ h.lk.1 h.lk.2), h.dl, h.cl, fun p v l hv hl => (h.dns p v l hv hl).keep k h.hi hF, fun p v l hv hl => (h.cas p v l hv hl).keep k h.hi hF, h.lc, h.ld, h.lk, Nat.le_trans h.hi k.size⟩
theorem CAt.rd {w : World} {B cb : Nat} {lv rv sv : Value} {m : Mdl} {wv : Value} {sb qb db kb : Nat} {D C : List Value} {c : Cs} (h : CAt w B cb lv rv sv m wv sb qb db kb D C c) : CRd w B w.heap.size cb db kb lv rv sv m D C c :=
  ⟨⟨_, h.blk, rfl, rfl, rfl, rfl, rfl⟩, h.dn, h.ca, h.dl, h.cl, fun p v l hv hl => (h.dns p v l hv hl).rowsW, fun p v l hv hl => (h.cas p v l hv hl).rowsW, ⟨h.lc, h.blk.lt⟩, ⟨h.ld, h.dn.lt⟩, ⟨h.lk, h.ca.lt⟩, Nat.le_refl _⟩

set_option maxRecDepth 100000 in
set_option maxHeartbeats 4000000 in
theorem begins_pre (w : World) (B : Nat) (va vb : Value) (l l2 : List Dn) (ha : RowsAt 5 dnC w B va l) (hb : RowsAt 5 dnC w B vb l2) (hB : B ≤ w.heap.size) (hl : l.length ≤ 5000) (hl2 : l.length ≤ l2.length) (hp : ∀ (i : Nat) (x : Dn), l[i]? = some x → l2[i]? = some x) :
    Calls Try.prog 23 #[va, vb] w fun e w' => e = .returned (.bool true) ∧ Below w.heap.size w w' := by
  obtain ⟨aoa, capa, rfl, hcapa⟩ := RowsAt.form ha
  obtain ⟨aob, capb, rfl, hcapb⟩ := RowsAt.form hb
  go_enter Try.func23, Try.ntmps23
  have hd : decide (l2.length < l.length) = false := by simp; omega
  have hll : ∀ i : Nat, i < l.length → i < l2.length := fun i hi => by omega
  go_wp2
  clear hd hl2
  go_loopw [5] (fun s5 wr => ∃ i : Nat, s5 = .int .i64 i ∧ i ≤ l.length ∧ Below w.heap.size w wr) (fun s5 _ => l.length - (intOf s5).toNat)
  case atStart => exact ⟨0, rfl, Nat.zero_le _, Below.refl _ _⟩
  case round =>
    obtain ⟨i, rfl, hi, hbw⟩ := hrel
    by_cases hlt : i < l.length
    · obtain ⟨x, hx⟩ := get_of_lt hlt
      obtain ⟨ba, oa, haa, hbaB, hca⟩ := RowsAt.at_ (ha.keep (hbw.mono hB)) hx
      obtain ⟨bb, ob, hab, hbbB, hcb⟩ := RowsAt.at_ (hb.keep (hbw.mono hB)) (hp i x hx)
      subst haa hab
      have a0 := cell_regrown (hca 0 (.int .i64 x.it.t) rfl)
      have a1 := cell_regrown (hca 1 (.int .i64 x.it.f) rfl)
      have a2 := cell_regrown (hca 2 (.int .i64 x.it.s) rfl)
      have a3 := cell_regrown (hca 3 (.int .i64 x.it.l) rfl)
      have a4 := cell_regrown (hca 4 (.int .i64 x.st) rfl)
      have c0 := cell_regrown (hcb 0 (.int .i64 x.it.t) rfl)
      have c1 := cell_regrown (hcb 1 (.int .i64 x.it.f) rfl)
      have c2 := cell_regrown (hcb 2 (.int .i64 x.it.s) rfl)
      have c3 := cell_regrown (hcb 3 (.int .i64 x.it.l) rfl)
      have c4 := cell_regrown (hcb 4 (.int .i64 x.st) rfl)
      simp only [Nat.add_zero] at a0 c0
      have hone : ∀ q : Regrown, Calls Try.prog 54 #[.agg #[.int .i64 x.it.t, .int .i64 x.it.f, .int .i64 x.it.s, .int .i64 x.it.l, .int .i64 x.st], .agg #[.int .i64 x.it.t, .int .i64 x.it.f, .int .i64 x.it.s, .int .i64 x.it.l, .int .i64 x.st]] (grow (redrawn wr q.d) q.os) fun e' w'' => e' = .returned (.bool true) ∧ ∃ q : Regrown, w'' = grow (redrawn wr q.d) q.os := fun q => Calls.regrown_of (one_any x _)
      have hil : (i : Int) < l.length := by omega
      have hil2 : (i : Int) < l2.length := by have := hll i hlt; omega
      clear hca hcb hx hll
      go_upto_region 6 with fail
      refine wp_region_quiet_below (by kernel_rfl) (by kernel_rfl) ?_
      repeat (quiet_step (exact hone _))
      refine wpQuiet_nil ?_
      intro wq hw'
      have hbq := below_of_regrown hw'
      clear hw' a0 a1 a2 a3 a4 c0 c1 c2 c3 c4 hone
      go_wp2
      go_roundw
      case rel => exact ⟨i + 1, by go_num, hlt, hbw.trans (hbq.mono hbw.size)⟩
      case measure => simp [intOf]; omega
    · go_wp2
      go_ret
      exact ⟨rfl, hbw⟩

end Go.Proofs.Ytaieackeflmhgaa

namespace Go.Proofs.Ytaieackeflmhgaa
open Go.RowKit Go.Sort Go.Maps

theorem answer_no {m : Mdl} {en : Int} (ha : answer m en ≠ (0, 0)) : (answer m en).1 ≠ 0 := by
  intro e
  apply ha
  unfold answer at e ⊢
  split at e
  · rename_i hv
    rw [if_pos hv]
    split at e
    · rename_i hf; rw [if_pos hf]
    · cases e
  · rename_i hv; exact absurd (valid_zero e) hv

set_option maxRecDepth 100000 in
set_option maxHeartbeats 8000000 in
theorem opened_any (w : World) (m : Mdl) (lv rv sv : Value) (R : List RuleV) (Bm : Nat) (en : Int) (h : ModelAt w Bm lv rv sv m R) (hBm : Bm ≤ w.heap.size)
    (b1 : m.links.length * 24 ≤ 140737488351232) (b2 : m.rules.length * 56 ≤ 140737488351232) (b3 : m.starts.length * 24 ≤ 140737488351232) (b4 : ∀ r ∈ m.rules, r.es.length * 24 ≤ 140737488351232) :
    Calls Try.prog 26 #[.agg #[.int .i64 m.procs, .int .i64 m.states, .int .i64 m.loads, lv, rv, sv], .int .i64 en] w fun e w' => Below w.heap.size w w' ∧ ((answer m en ≠ (0, 0) ∧ ∃ pv : Value, e = .returned (.tuple #[.pointer none, pv, .bool true])) ∨ (answer m en = (0, 0) ∧ ∃ (nb : Nat) (V : NV) (k lo cb db kb : Nat) (D C : List Value), e = .returned (.tuple #[.pointer (some ⟨nb, 0, none⟩), .pointer (some ⟨cb, 0, none⟩), .bool true]) ∧ NetAt w' nb m en (openN m) V ∧ CRd w' lo w'.heap.size cb db kb lv rv sv m D C (atK m en k) ∧ k ≤ 300 ∧ nx en (atK m en k).wait = none ∧ (∀ i, NF nb V i → i < lo) ∧ w.heap.size ≤ V.lo ∧ w.heap.size ≤ lo)) := by
  have hne : ∀ r ∈ m.rules, r.es.length ≤ 5864062014634 := fun r hr => by have := b4 r hr; omega
  obtain ⟨ao2, cap2, hsv, hcap2⟩ := RowsAt.form h.starts
  subst hsv
  obtain ⟨ao1, cap1, hlv, hcap1⟩ := RowsAt.form h.links
  subst hlv
  obtain ⟨ao3, cap3, hrv, hcap3⟩ := RowsAt.form h.rules.1
  subst hrv
  obtain ⟨W0, hW0⟩ : ∃ W0, W0 = w.alloc (.cells #[.int .i64 m.procs, .int .i64 m.states, .int .i64 m.loads, .slice ao1 m.links.length cap1, .slice ao3 R.length cap3, .slice ao2 m.starts.length cap2] 26) := ⟨_, rfl⟩
  have HW0 : Hid (W0 = w.alloc (.cells #[.int .i64 m.procs, .int .i64 m.states, .int .i64 m.loads, .slice ao1 m.links.length cap1, .slice ao3 R.length cap3, .slice ao2 m.starts.length cap2] 26)) := hW0
  have hB0 : Below w.heap.size w W0 := by rw [hW0]; exact (Below.refl _ _).alloc (Nat.le_refl _) _
  have hmb : Blk W0 w.heap.size #[.int .i64 m.procs, .int .i64 m.states, .int .i64 m.loads, .slice ao1 m.links.length cap1, .slice ao3 R.length cap3, .slice ao2 m.starts.length cap2] 26 := by rw [hW0]; exact heap_alloc_new w _
  have k0 := Gr.cells (v := .int .i64 m.procs) (hmb.cell 0)
  have k1 := Gr.cells (v := .int .i64 m.states) (hmb.cell 1)
  have k2 := Gr.cells (v := .int .i64 m.loads) (hmb.cell 2)
  have k3 := Gr.cells (v := .slice ao1 m.links.length cap1) (hmb.cell 3)
  have k4 := Gr.cells (v := .slice ao3 R.length cap3) (hmb.cell 4)
  have k5 := Gr.cells (v := .slice ao2 m.starts.length cap2) (hmb.cell 5)
  have hg0 := Gr.refl W0
  have hlm := hmb.lt
  have hmade := made_any m _ _ _ R Bm W0 (h.keep (hB0.mono hBm)) (Nat.le_trans hBm hB0.size) b1 b2 b3 b4
  clear hW0
  go_enter Try.func26, Try.ntmps26
  go_upto_region 1 with fail
  rw [← HW0.out]
  clear HW0
  go_wp2_with fail
  refine hmade.mono ?_
  rintro e1 w1 ⟨lv', rv', sv', R', rfl, hM', g1⟩
  clear hmade
  obtain ⟨a1, c1, hf1, _⟩ := RowsAt.form hM'.links
  obtain ⟨a2, c2, hf2, _⟩ := RowsAt.form hM'.rules.1
  obtain ⟨a3, c3, hf3, _⟩ := RowsAt.form hM'.starts
  subst hf1 hf2 hf3
  have hg1 : Gr W0 (w1.alloc (.cells #[.int .i64 m.procs, .int .i64 m.states, .int .i64 m.loads, (.slice a1 m.links.length c1), (.slice a2 R'.length c2), (.slice a3 m.starts.length c3)] 31)) := Gr.alloc (W0 := W0) g1 _
  have hbA : Below w1.heap.size w1 (w1.alloc (.cells #[.int .i64 m.procs, .int .i64 m.states, .int .i64 m.loads, (.slice a1 m.links.length c1), (.slice a2 R'.length c2), (.slice a3 m.starts.length c3)] 31)) := (Below.refl _ _).alloc (Nat.le_refl _) _
  have hck := open_any (w1.alloc (.cells #[.int .i64 m.procs, .int .i64 m.states, .int .i64 m.loads, (.slice a1 m.links.length c1), (.slice a2 R'.length c2), (.slice a3 m.starts.length c3)] 31)) w1.heap.size (.slice a1 m.links.length c1) (.slice a2 R'.length c2) (.slice a3 m.starts.length c3) m R' en (hM'.keep hbA) hbA.size hne
  go_wp2_with fail
  refine hck.mono ?_
  rintro e2 w2 ⟨g2, hcase⟩
  clear hck
  have hg2 : Gr W0 w2 := Gr.trans hg1 g2
  have hbw2 : Below w.heap.size w w2 := Gr.below hg2 hB0
  have hrf := refCheck_any m _ _ _ R Bm en w2 (h.keep (hbw2.mono hBm)) (Nat.le_trans hBm hbw2.size) hne
  have hszA : w.heap.size ≤ (w1.alloc (.cells #[.int .i64 m.procs, .int .i64 m.states, .int .i64 m.loads, (.slice a1 m.links.length c1), (.slice a2 R'.length c2), (.slice a3 m.starts.length c3)] 31)).heap.size := Nat.le_trans hB0.size hg1.size
  rcases hcase with ⟨ha, rfl⟩ | ⟨ha, nb, V, rfl, hN, hlo⟩
  · have h1 := answer_no ha
    have Ha : Hid (answer m en ≠ (0, 0)) := ha
    clear ha
    obtain ⟨an, han⟩ : ∃ an, an = answer m en := ⟨_, rfl⟩
    rw [← han] at hrf h1 ⊢
    clear han
    go_wp2_with fail
    refine hrf.mono ?_
    rintro e3 w3 ⟨pv, rfl, g3, -⟩
    clear hrf
    have hbw3 : Below w.heap.size w w3 := hbw2.trans (g3.mono hbw2.size)
    have hnum := num_any an.1 w3
    go_wp2_with (go_at_call 18; refine hnum.mono ?_; rintro e4 w4 ⟨rfl, rfl⟩)
    go_ret3
    refine ⟨hbw3, .inl ⟨Ha.out, pv, ?_⟩⟩
    simp [h1]
  · have Ha : Hid (answer m en = (0, 0)) := ha
    rw [ha] at hrf
    clear ha
    go_wp2_with fail
    refine hrf.mono ?_
    rintro e3 w3 ⟨pv, rfl, g3, hC⟩
    clear hrf
    obtain ⟨B', cb, k', wv, sb', qb, db, kb, D, C, rfl, hB', hk', hnx, hC⟩ := hC trivial
    have hbw3 : Below w.heap.size w w3 := hbw2.trans (g3.mono hbw2.size)
    have hnum := num_any 0 w3
    have hN3 := hN.grow (kept_of_below' g3)
    clear k0 k1 k2 k3 k4 k5
    go_wp2_with (go_at_call 18; refine hnum.mono ?_; rintro e4 w4 ⟨rfl, hw4⟩; rw [hw4]; clear hw4)
    go_ret3
    exact ⟨hbw3, .inr ⟨Ha.out, nb, V, k', B', cb, db, kb, D, C, rfl, hN3, hC.rd, hk', hnx, fun i hi => Nat.lt_of_lt_of_le (hN.lt hi).2 hB', by rw [hlo]; exact hszA, Nat.le_trans hbw2.size hB'⟩⟩

/-- what happens in all, as a course that is read tells it -/
structure Tells (m : Mdl) (en : Int) (k : Nat) : Prop where
  hm : Right m
  hen0 : 0 ≤ en
  hen : en ≤ 200
  nx : nx en (atK m en k).wait = none
  le : k ≤ 300
def FK (m : Mdl) (en : Int) (k : Nat) : Nat → List It := itsOf (atK m en k)
def CK (m : Mdl) (en : Int) (k : Nat) : Nat → List Int := fun p => (atK m en k).causes.getD p []
theorem Tells.all (m : Mdl) (en : Int) : ∀ k, (atK m en k).all ≤ k
  | 0 => Nat.le_refl _
  | k + 1 => by
    have ih := Tells.all m en k
    show (stepF m en (atK m en k)).all ≤ k + 1
    unfold stepF
    split
    · omega
    · split
      · omega
      · rw [doEv_all]; omega
theorem Tells.hist {m : Mdl} {en : Int} {k : Nat} (T : Tells m en k) {p : Nat} (hp : p < np m) : (atK m en k).done[p]? = some (hist m (p : Int) (FK m en k p)) := (G_atK T.hm T.hen k).hs p hp
theorem Tells.sum {m : Mdl} {en : Int} {k : Nat} (T : Tells m en k) : sumN ((List.range (np m)).map (fun p => (FK m en k p).length)) = (atK m en k).all := by
  have hI := atK_inv T.hm T.hen k
  rw [all_sum T.hm T.hen k]
  congr 1
  apply List.ext_getElem?
  intro i
  rw [List.getElem?_map, List.getElem?_map]
  by_cases hi : i < np m
  · rw [List.getElem?_range hi, T.hist hi]
    simp only [Option.map_some, hist_length]
  · rw [List.getElem?_eq_none (by simpa using hi), List.getElem?_eq_none (by rw [hI.ld]; omega)]
    rfl
theorem Tells.env {m : Mdl} {en : Int} {k : Nat} (T : Tells m en k) : Env m en (FK m en k) (CK m en k) := by
  refine ⟨T.hm, T.hen0, T.hen, full_atK T.hm T.hen T.nx, fun p _ => its_pos T.hm T.hen k p, ?_⟩
  rw [T.sum]
  exact Nat.le_trans (Tells.all m en k) T.le

set_option maxRecDepth 100000 in
set_option maxHeartbeats 8000000 in
theorem lists_any (w : World) (nb lo hi cb db kb : Nat) (lv rv sv : Value) (m : Mdl) (en : Int) (k : Nat) (D C : List Value) (N : Nat → Nat) (s : NS) (V : NV) (T : Tells m en k) (h : NetAt w nb m en s V) (hG : Good m en (FK m en k) N s) (hC : CRd w lo hi cb db kb lv rv sv m D C (atK m en k)) :
    Calls Try.prog 27 #[.pointer (some ⟨nb, 0, none⟩), .pointer (some ⟨cb, 0, none⟩)] w fun e w' => Below w.heap.size w w' ∧ ∃ v : Value, e = .returned (.tuple #[v, .bool true]) ∧ Own inE w' w.heap.size v ((List.range (np m)).map (fun p => (N p : Int))) := by
  have hp1 := T.hm.lim.p1
  have hp2 := T.hm.lim.p2
  obtain ⟨n, hn⟩ : ∃ n : Nat, m.procs = (n : Int) := ⟨m.procs.toNat, by omega⟩
  have hnp : np m = n := by unfold np; omega
  have Hnp : Hid (np m = n) := hnp
  have hn6 : n ≤ 6 := by omega
  obtain ⟨cc, hcb, hc0, hc3, hc9, hc10, hc11⟩ := hC.blk
  have c0 : w.cell? ⟨cb, 0, none⟩ = some (.int .i64 (n : Int)) := by rw [hcb.cell, hc0, hn]
  have c9 : w.cell? ⟨cb, 9, none⟩ = some (.slice (some ⟨db, 0, none⟩) n n) := by rw [hcb.cell, hc9, hnp]
  have hlc := hcb.lt
  obtain ⟨i0, hi0, hz0, hz1, hz2⟩ := info_parts info_in
  rw [hnp]
  clear hn hnp hc0 hc3 hc9 hc10 hc11
  go_enter Try.func27, Try.ntmps27
  go_wp2
  go_loopw [6, 7] (fun s6 s7 wr => ∃ (p : Nat) (v : Value), s6 = v ∧ s7 = .int .i64 p ∧ p ≤ n ∧ Own inE wr w.heap.size v ((List.range p).map (fun p => (N p : Int))) ∧ Below w.heap.size w wr) (fun _ s7 _ => n - (intOf s7).toNat)
  case atStart => exact ⟨0, _, rfl, rfl, Nat.zero_le _, Own.nil _ _ _, Below.refl _ _⟩
  case round =>
    obtain ⟨p, v, rfl, rfl, hp, hO, hbl⟩ := hrel
    have d0 : wr.cell? ⟨cb, 0, none⟩ = some (.int .i64 (n : Int)) := (hbl.cell (p := ⟨cb, 0, none⟩) hlc).trans c0
    have hlcr : cb < wr.heap.size := block_lt_of_cell d0
    by_cases hlt : p < n
    · have hNr := h.grow (kept_of_below' hbl)
      have hpn : p < np m := by rw [Hnp.out]; exact hlt
      obtain ⟨a, ha⟩ := get_of_lt (d := s.ps) (k := p) (by rw [h.slen]; exact hpn)
      have hdn : ∀ (i : Nat) (b : NP), s.ps[i]? = some b → b.dn.length ≤ 5000 := fun i b hb => by have := hG.1.waits_len T.env hb; omega
      have hsee := see_any wr nb m en s V (p : Int) hNr T.hm hdn
      have hpm : (p : Int) < m.procs := by unfold np at hpn; omega
      have hst := hG.1.state ha
      have hdone := hG.1.done ha
      have hdl := hG.1.dn_len ha
      have hdl5 := hdn p a ha
      have hhist := T.hist hpn
      have hbeg : ∀ (i : Nat) (x : Dn), a.dn[i]? = some x → (hist m (p : Int) (FK m en k p))[i]? = some x := fun i x hx => by
        rw [hdone] at hx
        exact (take_get.1 hx).2
      have hle2 : a.dn.length ≤ (hist m (p : Int) (FK m en k p)).length := by rw [hdone, List.length_take]; omega
      obtain ⟨u, hu⟩ := get_of_lt (d := D) (k := p) (by rw [hC.dl]; exact hpn)
      have hCr := hC.keep (kept_of_below' hbl) (fun _ _ _ e => e)
      have Ha : Hid (s.ps[p]? = some a) := ha
      clear ha hdone
      go_wp2_with fail
      refine hsee.mono ?_
      rintro e1 w1 ⟨hb1, ⟨hf, -⟩ | ⟨-, -, a', ao, cap, ha', rfl, hrow⟩⟩
      · exfalso
        have := isP_iff.2 ⟨(by omega : (0 : Int) ≤ (p : Int)), hpm⟩
        rw [this] at hf; cases hf
      · clear hsee
        have haa : a' = a := by
          have h1 := Ha.out
          rw [Int.toNat_natCast] at ha'
          rw [h1] at ha'; cases ha'; rfl
        subst haa
        clear ha'
        have hC1 := hCr.keep (kept_of_below' hb1) (fun _ _ _ e => e)
        have hbw1 : Below w.heap.size w w1 := hbl.trans (hb1.mono hbl.size)
        have hO1 := hO.keep (kept_of_below' hb1) (fun _ _ e => e)
        have e9 : w1.cell? ⟨cb, 9, none⟩ = some (.slice (some ⟨db, 0, none⟩) n n) := (hbw1.cell (p := ⟨cb, 9, none⟩) hlc).trans c9
        have hru := (hC1.dns p u _ hu hhist).at hC1.hi
        obtain ⟨au, cu, huf, _⟩ := RowsAt.form hru
        have eu : w1.cell? ⟨db, p, none⟩ = some (.slice au (hist m (p : Int) (FK m en k p)).length cu) := by rw [hC1.dn.cell, List.getElem?_toArray, hu, huf]
        have hra := hrow.at
        have hbegin := begins_pre w1 w1.heap.size _ u a'.dn _ hra hru (Nat.le_refl _) hdl5 hle2 hbeg
        rw [huf] at hbegin
        have hl1 : cb < w1.heap.size := block_lt_of_cell e9
        have hl2 : db < w1.heap.size := block_lt_of_cell eu
        have hpl : (p : Int) < (n : Int) := by omega
        have HN : Hid (a'.dn.length = N p) := hdl
        clear hdl hle2 hbeg huf hhist hru hu
        go_wp2_with fail
        refine hbegin.mono ?_
        rintro e2 w2 ⟨rfl, hb2⟩
        clear hbegin e9 eu
        have hbw2 : Below w.heap.size w w2 := hbw1.trans (hb2.mono hbw1.size)
        have hO2 := hO1.keep (kept_of_below' hb2) (fun _ _ e => e)
        have hra2 := hra.keep hb2
        clear hra hrow hO1 hO hC1 hCr
        rcases hst with ⟨hd0, hs0⟩ | ⟨l0, d, hd0, hs0⟩
        · have hLn : a'.dn.length = 0 := by rw [hd0]; rfl
          have HLn : Hid (0 = N p) := by show _ = _; rw [← HN.out, hLn]
          rw [hLn, hs0]
          clear hLn hd0 hs0 hra2
          have hcc := newCells w2 [.int .i64 (((0 : Nat)) : Int)] 3
          have hone : ∀ u ∈ ([.int .i64 (((0 : Nat)) : Int)] : List Value), u.oneCell' = true := inE.one (((0 : Nat)) : Int)
          have hWW : KeptF (fun _ => False) w2 (w2.alloc (.cells #[.int .i64 (((0 : Nat)) : Int)] 3)) := (KeptF.refl _ w2).alloc _
          have hlen1 : ((List.range p).map (fun p => (N p : Int))).length = p := by simp
          have hown0 : (w2.alloc (.cells #[.int .i64 (((0 : Nat)) : Int)] 3)).ownsRow w.heap.size 3 1 u6 p (flat inE ((List.range p).map (fun p => (N p : Int)))) := by
            have h1 := hO2.keep hWW (fun _ _ e => e)
            unfold Own at h1
            rw [hlen1] at h1
            exact h1
          clear hlen1
          go_wp2_with (at_builtin; (refine wpList_append_ownX rfl (.tmp 62) (.tmp 65) 55 rfl w.heap.size 3 i0 _ 1 8 Try.underlying55 hi0 hz0 hz1 hz2 rfl (by decide) u6 p (flat inE ((List.range p).map (fun p => (N p : Int)))) rfl ?_ ⟨w2.heap.size, 0, none⟩ 1 1 [.int .i64 (((0 : Nat)) : Int)] rfl ?_ ?_ ?_ ?_ ?_ ?_ ?_))
          · exact hown0
          · rfl
          · exact hcc
          · exact hone
          · unfold maxLen; omega
          · omega
          · exact Nat.le_trans hbw2.size hWW.size
          · intro v3 w3 hown3 hgr3 hfr3
            have hK3 : KeptF (fun r => u6.ownBlock = some r) w2 w3 := (hWW.weaken (fun _ _ e => e.elim)).trans (KeptF.of_grown hgr3 (fun k h _ => h))
            have hob : ∀ r, u6.ownBlock = some r → w.heap.size ≤ r := fun r hr => (hO2.lt hr).1
            have hbw3 : Below w.heap.size w w3 := hbw2.trans (KeptF.below hK3 hbw2.size hob)
            have hO3 : Own inE w3 w.heap.size v3 ((List.range (p + 1)).map (fun p => (N p : Int))) := by
              rw [List.range_succ, List.map_append]
              refine Own.snoc (x := (N p : Int)) ?_
              rw [show ((List.range p).map (fun p => (N p : Int))).length = p by simp, show inE.enc (N p : Int) = [.int .i64 (N p : Int)] from rfl, HLn.out.symm]
              exact hown3
            clear hown3 hgr3 hfr3 hown0 hcc hone hWW hO2
            go_wp2
            go_roundw
            case rel => exact ⟨p + 1, v3, rfl, by go_num, hlt, hO3, hbw3⟩
            case measure => simp [intOf]; omega
        · have hLn : a'.dn.length = l0.length + 1 := by rw [hd0]; simp
          have HLn : Hid (l0.length + 1 = N p) := by show _ = _; rw [← HN.out, hLn]
          have hget : a'.dn[l0.length]? = some d := by rw [hd0]; simp
          obtain ⟨bd, od, hbd, _, hcd⟩ := RowsAt.at_ hra2 hget
          subst hbd
          have x4 := hcd 4 (.int .i64 d.st) rfl
          have hlbd : bd < w2.heap.size := block_lt_of_cell x4
          obtain ⟨L, hL⟩ : ∃ L, L = l0.length := ⟨_, rfl⟩
          rw [← hL] at x4 HLn
          have hL5 : L ≤ 5000 := by omega
          rw [hLn, hs0, ← hL]
          clear hLn hd0 hs0 hra2 hget hcd hL hdl5
          have hcc := newCells w2 [.int .i64 (((L + 1 : Nat)) : Int)] 3
          have hone : ∀ u ∈ ([.int .i64 (((L + 1 : Nat)) : Int)] : List Value), u.oneCell' = true := inE.one (((L + 1 : Nat)) : Int)
          have hWW : KeptF (fun _ => False) w2 (w2.alloc (.cells #[.int .i64 (((L + 1 : Nat)) : Int)] 3)) := (KeptF.refl _ w2).alloc _
          have hlen1 : ((List.range p).map (fun p => (N p : Int))).length = p := by simp
          have hown0 : (w2.alloc (.cells #[.int .i64 (((L + 1 : Nat)) : Int)] 3)).ownsRow w.heap.size 3 1 u6 p (flat inE ((List.range p).map (fun p => (N p : Int)))) := by
            have h1 := hO2.keep hWW (fun _ _ e => e)
            unfold Own at h1
            rw [hlen1] at h1
            exact h1
          clear hlen1
          go_wp2_with (at_builtin; (refine wpList_append_ownX rfl (.tmp 62) (.tmp 65) 55 rfl w.heap.size 3 i0 _ 1 8 Try.underlying55 hi0 hz0 hz1 hz2 rfl (by decide) u6 p (flat inE ((List.range p).map (fun p => (N p : Int)))) rfl ?_ ⟨w2.heap.size, 0, none⟩ 1 1 [.int .i64 (((L + 1 : Nat)) : Int)] rfl ?_ ?_ ?_ ?_ ?_ ?_ ?_))
          · exact hown0
          · rfl
          · exact hcc
          · exact hone
          · unfold maxLen; omega
          · omega
          · exact Nat.le_trans hbw2.size hWW.size
          · intro v3 w3 hown3 hgr3 hfr3
            have hK3 : KeptF (fun r => u6.ownBlock = some r) w2 w3 := (hWW.weaken (fun _ _ e => e.elim)).trans (KeptF.of_grown hgr3 (fun k h _ => h))
            have hob : ∀ r, u6.ownBlock = some r → w.heap.size ≤ r := fun r hr => (hO2.lt hr).1
            have hbw3 : Below w.heap.size w w3 := hbw2.trans (KeptF.below hK3 hbw2.size hob)
            have hO3 : Own inE w3 w.heap.size v3 ((List.range (p + 1)).map (fun p => (N p : Int))) := by
              rw [List.range_succ, List.map_append]
              refine Own.snoc (x := (N p : Int)) ?_
              rw [show ((List.range p).map (fun p => (N p : Int))).length = p by simp, show inE.enc (N p : Int) = [.int .i64 (N p : Int)] from rfl, HLn.out.symm]
              exact hown3
            clear hown3 hgr3 hfr3 hown0 hcc hone hWW hO2
            go_wp2
            go_roundw
            case rel => exact ⟨p + 1, v3, rfl, by go_num, hlt, hO3, hbw3⟩
            case measure => simp [intOf]; omega
    · have hpe : p = n := by omega
      subst hpe
      go_wp2
      go_ret2
      exact ⟨hbl, _, rfl, hO⟩

end Go.Proofs.Ytaieackeflmhgaa

namespace Go.Proofs.Ytaieackeflmhgaa
open Go.RowKit Go.Sort Go.Maps

def intC (x : Int) : List Value := [.int .i64 x]

/-- what a law about a net holds in its hands -/
structure Law (w wr : World) (nb lo hi cb db kb : Nat) (lv rv sv : Value) (m : Mdl) (en : Int) (k : Nat) (D C : List Value) (N : Nat → Nat) (s : NS) (V : NV) : Prop where
  net : NetAt wr nb m en s V
  good : Good m en (FK m en k) N s
  crd : CRd wr lo hi cb db kb lv rv sv m D C (atK m en k)
  sep : ∀ i, NF nb V i → i < lo ∨ hi ≤ i
  vlo : w.heap.size < V.lo
  bel : Below w.heap.size w wr

section
variable {w wr w2 : World} {nb lo hi cb db kb : Nat} {lv rv sv : Value} {m : Mdl} {en : Int} {k : Nat} {D C : List Value} {N N' : Nat → Nat} {s s' : NS} {V V' : NV}
theorem Law.grow (L : Law w wr nb lo hi cb db kb lv rv sv m en k D C N s V) (hb : Below wr.heap.size wr w2) : Law w w2 nb lo hi cb db kb lv rv sv m en k D C N s V :=
  ⟨L.net.grow (kept_of_below' hb), L.good, L.crd.keep (kept_of_below' hb) (fun _ _ _ e => e), L.sep, L.vlo, L.bel.trans (hb.mono L.bel.size)⟩
theorem Law.step (L : Law w wr nb lo hi cb db kb lv rv sv m en k D C N s V) (hg : NGo wr w2 nb m en s' V V') (hG : Good m en (FK m en k) N' s') : Law w w2 nb lo hi cb db kb lv rv sv m en k D C N' s' V' := by
  refine ⟨hg.at_, hG, L.crd.keep hg.kept (fun i h1 h2 hf => ?_), fun i hi' => ?_, by rw [hg.bL]; exact L.vlo, L.bel.trans ((hg.below L.net).mono (Nat.le_of_lt L.vlo))⟩
  · rcases L.sep i hf with h3 | h3 <;> omega
  · rcases hg.foot i hi' with h3 | h3
    · exact L.sep i h3
    · exact .inr (Nat.le_trans L.crd.hi h3)
theorem Law.box (L : Law w wr nb lo hi cb db kb lv rv sv m en k D C N s V) (hg : NGo wr w2 nb m en s' V V') {c : Array Value} {T : TypeId} (hb : Blk wr w.heap.size c T) : Blk w2 w.heap.size c T :=
  hb.keep hg.kept (fun hf => by have h1 := (L.net.lt hf).1; have h2 := L.vlo; omega)
/-- a step, whatever its number -/
theorem Law.next (T : Tells m en k) (L : Law w wr nb lo hi cb db kb lv rv sv m en k D C N s V) {x : Int} {b : Bool} (hg : NGo wr w2 nb m en s' V V') (hc : (isP m x = false ∧ b = false ∧ s' = s) ∨ (0 ≤ x ∧ x < m.procs ∧ Stepped m en s s' x.toNat b)) : ∃ N', Law w w2 nb lo hi cb db kb lv rv sv m en k D C N' s' V' := by
  rcases hc with ⟨_, _, h1⟩ | ⟨h0, h1, hs⟩
  · subst h1; exact ⟨N, L.step hg L.good⟩
  · obtain ⟨N', _, hG⟩ := L.good.stepped T.env (p := x.toNat) (by unfold np; omega) hs
    exact ⟨N', L.step hg hG⟩
theorem Law.dns (T : Tells m en k) (L : Law w wr nb lo hi cb db kb lv rv sv m en k D C N s V) : ∀ (i : Nat) (b : NP), s.ps[i]? = some b → b.dn.length ≤ 5000 := fun i b hb => by have := L.good.1.waits_len T.env hb; omega
end

set_option maxRecDepth 100000 in
set_option maxHeartbeats 16000000 in
theorem safe_any (w : World) (m : Mdl) (lv rv sv tv : Value) (R : List RuleV) (steps : List Int) (en : Int) (h : ModelAt w w.heap.size lv rv sv m R) (hT : RowsAt 1 intC w w.heap.size tv steps)
    (b1 : m.links.length * 24 ≤ 140737488351232) (b2 : m.rules.length * 56 ≤ 140737488351232) (b3 : m.starts.length * 24 ≤ 140737488351232) (b4 : ∀ r ∈ m.rules, r.es.length * 24 ≤ 140737488351232) (b5 : steps.length * 8 ≤ 140737488351232) :
    Calls Try.prog 8 #[.agg #[.int .i64 m.procs, .int .i64 m.states, .int .i64 m.loads, lv, rv, sv], .int .i64 en, tv] w fun e w' => e = .returned (.bool true) ∧ Below w.heap.size w w' := by
  obtain ⟨aot, capt, htv, hcapt⟩ := RowsAt.form hT
  subst htv
  obtain ⟨ao2, cap2, hsv, hcap2⟩ := RowsAt.form h.starts
  subst hsv
  obtain ⟨ao1, cap1, hlv, hcap1⟩ := RowsAt.form h.links
  subst hlv
  obtain ⟨ao3, cap3, hrv, hcap3⟩ := RowsAt.form h.rules.1
  subst hrv
  obtain ⟨W0, hW0⟩ : ∃ W0, W0 = w.alloc (.cells #[.int .i64 m.procs, .int .i64 m.states, .int .i64 m.loads, .slice ao1 m.links.length cap1, .slice ao3 R.length cap3, .slice ao2 m.starts.length cap2] 26) := ⟨_, rfl⟩
  have HW0 : Hid (W0 = w.alloc (.cells #[.int .i64 m.procs, .int .i64 m.states, .int .i64 m.loads, .slice ao1 m.links.length cap1, .slice ao3 R.length cap3, .slice ao2 m.starts.length cap2] 26)) := hW0
  have hB0 : Below w.heap.size w W0 := by rw [hW0]; exact (Below.refl _ _).alloc (Nat.le_refl _) _
  have hmb : Blk W0 w.heap.size #[.int .i64 m.procs, .int .i64 m.states, .int .i64 m.loads, .slice ao1 m.links.length cap1, .slice ao3 R.length cap3, .slice ao2 m.starts.length cap2] 26 := by rw [hW0]; exact heap_alloc_new w _
  have hz0 : w.heap.size < W0.heap.size := hmb.lt
  have hop := opened_any W0 m _ _ _ R w.heap.size en (h.keep hB0) hB0.size b1 b2 b3 b4
  clear hW0
  have m0 : W0.cell? ⟨w.heap.size, 0, none⟩ = some (.int .i64 m.procs) := hmb.cell 0
  have m1 : W0.cell? ⟨w.heap.size, 1, none⟩ = some (.int .i64 m.states) := hmb.cell 1
  have m2 : W0.cell? ⟨w.heap.size, 2, none⟩ = some (.int .i64 m.loads) := hmb.cell 2
  have m3 : W0.cell? ⟨w.heap.size, 3, none⟩ = some (.slice ao1 m.links.length cap1) := hmb.cell 3
  have m4 : W0.cell? ⟨w.heap.size, 4, none⟩ = some (.slice ao3 R.length cap3) := hmb.cell 4
  have m5 : W0.cell? ⟨w.heap.size, 5, none⟩ = some (.slice ao2 m.starts.length cap2) := hmb.cell 5
  go_enter Try.func8, Try.ntmps8
  go_upto_region 1 with fail
  rw [← HW0.out]
  go_wp2_with fail
  refine hop.mono ?_
  rintro e1 w1 ⟨hb1, ⟨ha, pv, rfl⟩ | ⟨ha, nb, V, k, lo, cb, db, kb, D, C, rfl, hN, hC, hk, hnx, hsep, hlo1, hlo2⟩⟩
  · clear hop m0 m1 m2 m3 m4 m5
    have hbw : Below w.heap.size w w1 := hB0.trans (hb1.mono hB0.size)
    go_wp2
    go_ret
    exact ⟨rfl, hbw⟩
  · clear hop m0 m1 m2 m3 m4 m5
    have hbw : Below w.heap.size w w1 := hB0.trans (hb1.mono hB0.size)
    obtain ⟨hm, hen0, hen⟩ := right_of_valid (answer_valid ha)
    have T : Tells m en k := ⟨hm, hen0, hen, hnx, hk⟩
    have L1 : Law w w1 nb lo w1.heap.size cb db kb (.slice ao1 m.links.length cap1) (.slice ao3 R.length cap3) (.slice ao2 m.starts.length cap2) m en k D C (fun _ => 0) (openN m) V := ⟨hN, good_open T.env, hC, fun i hi => .inl (hsep i hi), by omega, hbw⟩
    have hmb1 := hmb.keep (kept_of_below' hb1) (fun e => e)
    obtain ⟨hi, hhi⟩ : ∃ hi, hi = w1.heap.size := ⟨_, rfl⟩
    rw [← hhi] at L1
    have hp1 := hm.lim.p1
    have hp2 := hm.lim.p2
    have hnp1 : 1 ≤ np m := by unfold np; omega
    have hnp6 : np m ≤ 6 := by unfold np; omega
    have hls := lists_any w1 nb lo hi cb db kb _ _ _ m en k D C (fun _ => 0) (openN m) V T L1.net L1.good L1.crd
    clear ha hN hC hsep hk hnx hhi hmb
    go_wp2_with fail
    refine hls.mono ?_
    rintro e2 w2 ⟨hb2, v2, rfl, hO2⟩
    clear hls
    have L2 := L1.grow hb2
    have hmb2 := hmb1.keep (kept_of_below' hb2) (fun e => e)
    obtain ⟨a2, c2, hv2, hc2⟩ := hO2.form'
    have hlen2 : ((List.range (np m)).map (fun p => (((fun _ => 0 : Nat → Nat) p : Nat) : Int))).length = np m := by simp
    rw [hlen2] at hv2 hc2
    subst hv2
    clear L1 hmb1 hlen2
    go_wp2
    go_loopw [12] (fun s12 wr => ∃ p : Nat, s12 = .int .i64 p ∧ p ≤ np m ∧ wr = w2) (fun s12 _ => np m - (intOf s12).toNat)
    case atStart => exact ⟨0, rfl, Nat.zero_le _, rfl⟩
    case round =>
      obtain ⟨p, rfl, hp, hwr⟩ := hrel
      subst hwr
      by_cases hlt : p < np m
      · have hx : ((List.range (np m)).map (fun p => (((fun _ => 0 : Nat → Nat) p : Nat) : Int)))[p]? = some 0 := by rw [List.getElem?_map, List.getElem?_range hlt]; rfl
        obtain ⟨g, cap', hg, _⟩ := Own.at_ hO2 hx
        simp only [Value.slice.injEq] at hg
        obtain ⟨rfl, -, -⟩ := hg
        have y0 : wr.cell? ⟨g, p, none⟩ = some (.int .i64 0) := by
          have := hO2.cell hx (k := 0) (u := .int .i64 0) rfl
          simpa [inE] using this
        have hlg : g < wr.heap.size := block_lt_of_cell y0
        have hpl : (p : Int) < (np m : Int) := by omega
        clear hx
        go_wp2
        go_roundw
        case rel => exact ⟨p + 1, by go_num, hlt, trivial⟩
        case measure => simp [intOf]; omega
      · clear hO2
        go_wp2
        go_loopw [13] (fun s13 wq => ∃ (i : Nat) (N : Nat → Nat) (s : NS) (V : NV), s13 = .int .i64 i ∧ i ≤ steps.length ∧ Law w wq nb lo hi cb db kb (.slice ao1 m.links.length cap1) (.slice ao3 R.length cap3) (.slice ao2 m.starts.length cap2) m en k D C N s V ∧ Blk wq w.heap.size #[.int .i64 m.procs, .int .i64 m.states, .int .i64 m.loads, .slice ao1 m.links.length cap1, .slice ao3 R.length cap3, .slice ao2 m.starts.length cap2] 26) (fun s13 _ => steps.length - (intOf s13).toNat)
        case atStart => exact ⟨0, _, _, V, rfl, Nat.zero_le _, L2, hmb2⟩
        case round =>
          clear L2 hmb2
          obtain ⟨i, N, s, V, rfl, hi', L, hbx⟩ := hrel
          by_cases hlt2 : i < steps.length
          · obtain ⟨x, hx⟩ := get_of_lt hlt2
            obtain ⟨tb, tof, hao, htbB, htc⟩ := RowsAt.at_ (hT.keep L.bel) hx
            subst hao
            have t0 := htc 0 (.int .i64 x) rfl
            simp only [Nat.add_zero, Nat.mul_one] at t0
            have hltb : tb < wr.heap.size := block_lt_of_cell t0
            have hstep := step_any wr nb m en (FK m en k) (CK m en k) N s V x T.env L.net L.good
            have hil : (i : Int) < steps.length := by omega
            clear hx htc
            go_wp2_with fail
            refine hstep.mono ?_
            rintro e3 w3 ⟨b, s3, V3, rfl, hg3, hc3⟩
            clear hstep t0
            obtain ⟨N3, L3⟩ := L.next T hg3 hc3
            have hbx3 := L.box hg3 hbx
            have hls3 := lists_any w3 nb lo hi cb db kb _ _ _ m en k D C N3 s3 V3 T L3.net L3.good L3.crd
            go_wp2_with fail
            refine hls3.mono ?_
            rintro e4 w4 ⟨hb4, v4, rfl, hO4⟩
            clear hls3
            have L4 := L3.grow hb4
            have hbx4 := hbx3.keep (kept_of_below' hb4) (fun e => e)
            clear L hbx L3 hbx3 hg3 hc3 hO4
            go_wp2
            go_roundw
            case rel => exact ⟨i + 1, N3, s3, V3, by go_num, hlt2, L4, hbx4⟩
            case measure => simp [intOf]; omega
          · have hsee1 := see_any wr nb m en s V (-1) L.net hm (L.dns T)
            have p0 : wr.cell? ⟨w.heap.size, 0, none⟩ = some (.int .i64 m.procs) := hbx.cell 0
            have hlb := hbx.lt
            clear hi'
            go_wp2_with fail
            refine hsee1.mono ?_
            rintro e3 w3 ⟨hb3, ⟨-, rfl⟩ | ⟨h0, -⟩⟩
            rotate_left
            · omega
            clear hsee1 p0
            have L3 := L.grow hb3
            have hbx3 := hbx.keep (kept_of_below' hb3) (fun e => e)
            have p0 : w3.cell? ⟨w.heap.size, 0, none⟩ = some (.int .i64 m.procs) := hbx3.cell 0
            have hlb3 := hbx3.lt
            have hsee2 := see_any w3 nb m en s V m.procs L3.net hm (L.dns T)
            clear L hbx
            go_wp2_with fail
            refine hsee2.mono ?_
            rintro e4 w4 ⟨hb4, ⟨-, rfl⟩ | ⟨-, h0, -⟩⟩
            rotate_left
            · omega
            clear hsee2 p0
            have L4 := L3.grow hb4
            have hbx4 := hbx3.keep (kept_of_below' hb4) (fun e => e)
            have hst1 := step_any w4 nb m en (FK m en k) (CK m en k) N s V (-1) T.env L4.net L4.good
            clear L3 hbx3
            go_wp2_with fail
            refine hst1.mono ?_
            rintro e5 w5 ⟨b5', s5, V5, rfl, hg5, hc5⟩
            clear hst1
            obtain ⟨N5, L5⟩ := L4.next T hg5 hc5
            have hbx5 := L4.box hg5 hbx4
            have hb5f : b5' = false := by
              rcases hc5 with ⟨_, h1, _⟩ | ⟨h1, _⟩
              · exact h1
              · omega
            subst hb5f
            have p0 : w5.cell? ⟨w.heap.size, 0, none⟩ = some (.int .i64 m.procs) := hbx5.cell 0
            have hlb5 := hbx5.lt
            have hst2 := step_any w5 nb m en (FK m en k) (CK m en k) N5 s5 V5 m.procs T.env L5.net L5.good
            clear L4 hbx4 hg5 hc5
            go_wp2_with fail
            refine hst2.mono ?_
            rintro e6 w6 ⟨b6, s6, V6, rfl, hg6, hc6⟩
            clear hst2 p0
            obtain ⟨N6, L6⟩ := L5.next T hg6 hc6
            have hb6f : b6 = false := by
              rcases hc6 with ⟨_, h1, _⟩ | ⟨_, h1, _⟩
              · exact h1
              · omega
            subst hb6f
            have n1 := fun W => eql_slice (P := Try.prog) Try.underlying60 W none 0 0
            have hbf := L6.bel
            clear L5 L6 hg6 hc6 hbx5
            go_wp2
            go_ret
            exact ⟨rfl, hbf⟩

end Go.Proofs.Ytaieackeflmhgaa

namespace Go.Proofs.Ytaieackeflmhgaa
open Go.ChangeShapes Go.WideShapes Go.ChangeAt Go.RowKit Go.Deep

theorem cellsI : Try.prog.cellsOf 3 = 1 := by kernel_rfl
theorem cellsLk : Try.prog.cellsOf 93 = 3 := by kernel_rfl
theorem cellsEt : Try.prog.cellsOf 100 = 3 := by kernel_rfl
theorem cellsSt : Try.prog.cellsOf 72 = 3 := by kernel_rfl
theorem cellsRl : Try.prog.cellsOf 97 = 5 := by kernel_rfl
theorem cellsMd : Try.prog.cellsOf 26 = 6 := by kernel_rfl
theorem cellsSl0 : Try.prog.cellsOf 95 = 1 := by kernel_rfl
theorem cellsSl1 : Try.prog.cellsOf 22 = 1 := by kernel_rfl
theorem cellsSl2 : Try.prog.cellsOf 23 = 1 := by kernel_rfl
theorem cellsSl3 : Try.prog.cellsOf 24 = 1 := by kernel_rfl
theorem bytesLk : Try.prog.bytesOf 93 = 24 := by kernel_rfl
theorem bytesEt : Try.prog.bytesOf 100 = 24 := by kernel_rfl
theorem bytesSt : Try.prog.bytesOf 72 = 24 := by kernel_rfl
theorem bytesRl : Try.prog.bytesOf 97 = 56 := by kernel_rfl

theorem list_of_fnR {α : Type} (n : Nat) (p : Nat → α → Prop) (h : ∀ i, i < n → ∃ x, p i x) : ∃ l : List α, l.length = n ∧ ∀ (j : Nat) (x : α), l[j]? = some x → p j x := by
  induction n with
  | zero => exact ⟨[], rfl, fun j x hx => by simp at hx⟩
  | succ n ih =>
    obtain ⟨l, h1, h2⟩ := ih (fun i hi => h i (by omega))
    obtain ⟨y, hy⟩ := h n (by omega)
    refine ⟨l ++ [y], by simp [h1], fun j x hx => ?_⟩
    by_cases hj : j < l.length
    · rw [List.getElem?_append_left hj] at hx; exact h2 j x hx
    · rw [List.getElem?_append_right (by omega)] at hx
      have : j = n := by
        have := get_lt hx
        simp at this; omega
      subst this
      have e : j - l.length = 0 := by omega
      rw [e] at hx
      simp at hx
      rw [← hx]; exact hy

theorem three {cs : List Value} (h : cs.length = 3) : ∃ a b c, cs = [a, b, c] := by
  match cs, h with
  | [a, b, c], _ => exact ⟨a, b, c, rfl⟩
theorem five {cs : List Value} (h : cs.length = 5) : ∃ a b c d e, cs = [a, b, c, d, e] := by
  match cs, h with
  | [a, b, c, d, e], _ => exact ⟨a, b, c, d, e, rfl⟩
theorem sixR {cs : List Value} (h : cs.length = 6) : ∃ a b c d e f, cs = [a, b, c, d, e, f] := by
  match cs, h with
  | [a, b, c, d, e, f], _ => exact ⟨a, b, c, d, e, f, rfl⟩

section
variable {H : Type} {enc : TypeId × Value → H} {w : World} {spare : Nat → Bool} {held : Bool}

theorem link_cells {fuel : Nat} {cs : List Value} {x : DataW H × List MemPlace} (h : DataW.trod enc Try.prog w 0 spare held fuel 93 cs = some x) : ∃ a : MLink, cs = linkC a := by
  obtain ⟨y0, y1, y2, n, _, hl, t0, t1, t2⟩ := trod_struct3 Try.underlying93 h
  rw [cellsLk] at hl
  obtain ⟨a, b, c, rfl⟩ := three hl
  simp only [cellsI] at t0 t1 t2
  obtain ⟨i0, e0, _, _⟩ := DataW.trod_int Try.underlying3 t0
  obtain ⟨i1, e1, _, _⟩ := DataW.trod_int Try.underlying3 t1
  obtain ⟨i2, e2, _, _⟩ := DataW.trod_int Try.underlying3 t2
  simp at e0 e1 e2
  subst e0 e1 e2
  exact ⟨⟨i0, i1, i2⟩, rfl⟩
theorem emit_cells {fuel : Nat} {cs : List Value} {x : DataW H × List MemPlace} (h : DataW.trod enc Try.prog w 0 spare held fuel 100 cs = some x) : ∃ a : MEmit, cs = emitC a := by
  obtain ⟨y0, y1, y2, n, _, hl, t0, t1, t2⟩ := trod_struct3 Try.underlying100 h
  rw [cellsEt] at hl
  obtain ⟨a, b, c, rfl⟩ := three hl
  simp only [cellsI] at t0 t1 t2
  obtain ⟨i0, e0, _, _⟩ := DataW.trod_int Try.underlying3 t0
  obtain ⟨i1, e1, _, _⟩ := DataW.trod_int Try.underlying3 t1
  obtain ⟨i2, e2, _, _⟩ := DataW.trod_int Try.underlying3 t2
  simp at e0 e1 e2
  subst e0 e1 e2
  exact ⟨⟨i0, i1, i2⟩, rfl⟩
theorem start_cells {fuel : Nat} {cs : List Value} {x : DataW H × List MemPlace} (h : DataW.trod enc Try.prog w 0 spare held fuel 72 cs = some x) : ∃ a : MStart, cs = startC a := by
  obtain ⟨y0, y1, y2, n, _, hl, t0, t1, t2⟩ := trod_struct3 Try.underlying72 h
  rw [cellsSt] at hl
  obtain ⟨a, b, c, rfl⟩ := three hl
  simp only [cellsI] at t0 t1 t2
  obtain ⟨i0, e0, _, _⟩ := DataW.trod_int Try.underlying3 t0
  obtain ⟨i1, e1, _, _⟩ := DataW.trod_int Try.underlying3 t1
  obtain ⟨i2, e2, _, _⟩ := DataW.trod_int Try.underlying3 t2
  simp at e0 e1 e2
  subst e0 e1 e2
  exact ⟨⟨i0, i1, i2⟩, rfl⟩

/-- a row, out of its reading -/
theorem rows_open {α : Type} {t e : TypeId} {sz : Nat} (en : α → List Value) (hpos : 0 < sz) (hlen : ∀ a, (en a).length = sz) (ht : Try.prog.underlying t = some (.slice e)) (hc : Try.prog.cellsOf e = sz) (Q : DataW H → α → Prop)
    (hel : ∀ (fuel : Nat) (cs : List Value) (y : DataW H × List MemPlace), DataW.trod enc Try.prog w 0 spare held fuel e cs = some y → ∃ a, cs = en a ∧ Q y.1 a)
    {fuel : Nat} {cs : List Value} {x : DataW H × List MemPlace} (h : DataW.trod enc Try.prog w 0 spare held fuel t cs = some x) :
    ∃ (v : Value) (l : List α), cs = [v] ∧ RowsAt sz en w w.heap.size v l ∧ (l = [] ∨ ∃ elems sp, x.1 = .slice elems sp ∧ elems.length = l.length ∧ ∀ a ∈ l, ∃ d ∈ elems, Q d a) := by
  rcases open_slice ht h with ⟨hcs, hx⟩ | ⟨a, len, cap, m, n, D, Pl, hcs, _, hl, hm, hmm, hx, hq⟩
  · exact ⟨_, [], hcs, ⟨none, 0, rfl, Nat.le_refl _, fun h => absurd rfl h⟩, .inl rfl⟩
  · have hlm : len ≤ m := by rw [hmm]; split <;> omega
    obtain ⟨ab, ao, asp⟩ := a
    rw [hc] at hq
    obtain ⟨l, hll, hlp⟩ := list_of_fnR (α := α) len (fun i o => w.cells? 0 ((⟨ab, ao, asp⟩ : Addr).add (i * sz)) sz = some (en o) ∧ Q (D i) o) (fun i hi => by
      obtain ⟨cs', c1, c2⟩ := hq i (by omega)
      obtain ⟨o, ho, hQ⟩ := hel _ _ _ c2
      exact ⟨o, by rw [c1, ho], hQ⟩)
    refine ⟨_, l, hcs, ⟨_, _, by rw [hll], by omega, fun hne => ?_⟩, .inr ⟨(List.range len).map D, _, by rw [hx], by simp [hll], fun o ho => ?_⟩⟩
    · have hp0 : 0 < l.length := List.length_pos_iff.2 hne
      obtain ⟨o0, ho0⟩ := get_of_lt hp0
      have c00 := (World.cells?_some (hlp 0 o0 ho0).1).2.2 0 hpos
      have hu : ∃ u, (en o0)[0]? = some u := ⟨_, List.getElem?_eq_getElem (by rw [hlen]; exact hpos)⟩
      obtain ⟨u, hu⟩ := hu
      have hspot : asp = none := by
        have := World.cell?_spot (c00.trans hu)
        simpa [Addr.add] using this
      subst hspot
      refine ⟨ab, ao, rfl, ?_, fun j o k u' ho hu' => ?_⟩
      · refine block_lt_of_cell (a := (⟨ab, ao, none⟩ : Addr)) (v := u) ?_
        rw [hu] at c00
        simpa [Addr.add] using c00
      · have hk : k < sz := by have := get_lt hu'; rw [hlen] at this; exact this
        have hcc := (World.cells?_some (hlp j o ho).1).2.2 k hk
        rw [add_plain, add_plain] at hcc
        rw [hcc]; exact hu'
    · obtain ⟨j, hj⟩ := List.getElem?_of_mem ho
      have hjl := get_lt hj
      exact ⟨D j, List.mem_map_of_mem (List.mem_range.2 (by omega)), (hlp j o hj).2⟩

theorem trod_struct5 {t : TypeId} {f0 f1 f2 f3 f4 : Field} {fuel : Nat} {cs : List Value} {x : DataW H × List MemPlace} (ht : Try.prog.underlying t = some (.struct #[f0, f1, f2, f3, f4])) (h : DataW.trod enc Try.prog w 0 spare held fuel t cs = some x) :
    ∃ y0 y1 y2 y3 y4 n, x.1 = .agg [y0.1, y1.1, y2.1, y3.1, y4.1] ∧ cs.length = Try.prog.cellsOf t ∧ DataW.trod enc Try.prog w 0 spare held n f0.type ((cs.drop f0.offset).take (Try.prog.cellsOf f0.type)) = some y0 ∧
      DataW.trod enc Try.prog w 0 spare held n f1.type ((cs.drop f1.offset).take (Try.prog.cellsOf f1.type)) = some y1 ∧ DataW.trod enc Try.prog w 0 spare held n f2.type ((cs.drop f2.offset).take (Try.prog.cellsOf f2.type)) = some y2 ∧
      DataW.trod enc Try.prog w 0 spare held n f3.type ((cs.drop f3.offset).take (Try.prog.cellsOf f3.type)) = some y3 ∧ DataW.trod enc Try.prog w 0 spare held n f4.type ((cs.drop f4.offset).take (Try.prog.cellsOf f4.type)) = some y4 := by
  obtain ⟨xs, n, _, rfl, hl, hlen, hf⟩ := DataW.trod_struct ht h
  match xs, hlen with
  | [y0, y1, y2, y3, y4], _ => exact ⟨y0, y1, y2, y3, y4, n, by simp, hl, by simpa using hf 0 f0 rfl, by simpa using hf 1 f1 rfl, by simpa using hf 2 f2 rfl, by simpa using hf 3 f3 rfl, by simpa using hf 4 f4 rfl⟩
theorem trod_struct6 {t : TypeId} {f0 f1 f2 f3 f4 f5 : Field} {fuel : Nat} {cs : List Value} {x : DataW H × List MemPlace} (ht : Try.prog.underlying t = some (.struct #[f0, f1, f2, f3, f4, f5])) (h : DataW.trod enc Try.prog w 0 spare held fuel t cs = some x) :
    ∃ y0 y1 y2 y3 y4 y5 n, x.1 = .agg [y0.1, y1.1, y2.1, y3.1, y4.1, y5.1] ∧ cs.length = Try.prog.cellsOf t ∧ DataW.trod enc Try.prog w 0 spare held n f0.type ((cs.drop f0.offset).take (Try.prog.cellsOf f0.type)) = some y0 ∧
      DataW.trod enc Try.prog w 0 spare held n f1.type ((cs.drop f1.offset).take (Try.prog.cellsOf f1.type)) = some y1 ∧ DataW.trod enc Try.prog w 0 spare held n f2.type ((cs.drop f2.offset).take (Try.prog.cellsOf f2.type)) = some y2 ∧
      DataW.trod enc Try.prog w 0 spare held n f3.type ((cs.drop f3.offset).take (Try.prog.cellsOf f3.type)) = some y3 ∧ DataW.trod enc Try.prog w 0 spare held n f4.type ((cs.drop f4.offset).take (Try.prog.cellsOf f4.type)) = some y4 ∧
      DataW.trod enc Try.prog w 0 spare held n f5.type ((cs.drop f5.offset).take (Try.prog.cellsOf f5.type)) = some y5 := by
  obtain ⟨xs, n, _, rfl, hl, hlen, hf⟩ := DataW.trod_struct ht h
  match xs, hlen with
  | [y0, y1, y2, y3, y4, y5], _ => exact ⟨y0, y1, y2, y3, y4, y5, n, by simp, hl, by simpa using hf 0 f0 rfl, by simpa using hf 1 f1 rfl, by simpa using hf 2 f2 rfl, by simpa using hf 3 f3 rfl, by simpa using hf 4 f4 rfl, by simpa using hf 5 f5 rfl⟩

/-- no weight of a reading passes the limit -/
def Small (t : TypeId) (d : DataW H) : Prop := ∀ n ∈ d.weights Try.prog t, n ≤ reachBytes

theorem Small.slice {t e : TypeId} {elems sp : List (DataW H)} (ht : Try.prog.underlying t = some (.slice e)) (h : Small t (.slice elems sp)) : elems.length * Try.prog.bytesOf e ≤ reachBytes ∧ ∀ d ∈ elems, Small e d := by
  unfold Small at h
  simp only [DataW.weights, ht] at h
  refine ⟨?_, fun d hd n hn => h n ?_⟩
  · have := h _ (List.mem_cons_self ..)
    rw [Nat.add_mul] at this
    omega
  · refine List.mem_cons_of_mem _ (List.mem_append_left _ ?_)
    clear h
    induction elems with
    | nil => simp at hd
    | cons a l ih =>
      simp only [DataW.weightsAll, List.mem_append]
      rcases List.mem_cons.1 hd with rfl | hd
      · exact .inl hn
      · exact .inr (ih hd)
theorem weights_each {ts : List TypeId} {ds : List (DataW H)} {j : Nat} {t : TypeId} {d : DataW H} (ht : ts[j]? = some t) (hd : ds[j]? = some d) (h : ∀ n ∈ DataW.weightsEach Try.prog ts ds, n ≤ reachBytes) : Small t d := by
  intro n hn
  exact h n (DataW.weights_mem_each ht hd n hn)

theorem rule_cells {fuel : Nat} {cs : List Value} {x : DataW H × List MemPlace} (h : DataW.trod enc Try.prog w 0 spare held fuel 97 cs = some x) :
    ∃ a : RuleV, cs = ruleC a ∧ EmitsAt w w.heap.size a.ev a.r.es ∧ (Small 97 x.1 → a.r.es.length * 24 ≤ reachBytes) := by
  obtain ⟨y0, y1, y2, y3, y4, n, hx, hl, t0, t1, t2, t3, t4⟩ := trod_struct5 Try.underlying97 h
  rw [cellsRl] at hl
  obtain ⟨a, b, c, d, e, rfl⟩ := five hl
  simp only [cellsI, cellsSl0] at t0 t1 t2 t3 t4
  obtain ⟨i0, e0, _, _⟩ := DataW.trod_int Try.underlying3 t0
  obtain ⟨i1, e1, _, _⟩ := DataW.trod_int Try.underlying3 t1
  obtain ⟨i2, e2, _, _⟩ := DataW.trod_int Try.underlying3 t2
  obtain ⟨i3, e3, _, _⟩ := DataW.trod_int Try.underlying3 t3
  obtain ⟨v, l, e4, hR, hs⟩ := rows_open emitC (by omega) (fun _ => rfl) Try.underlying95 cellsEt (fun _ _ => True) (fun f cs y hy => by obtain ⟨o, ho⟩ := emit_cells hy; exact ⟨o, ho, trivial⟩) t4
  simp at e0 e1 e2 e3 e4
  subst e0 e1 e2 e3 e4
  refine ⟨⟨⟨i0, i1, i2, i3, l⟩, _⟩, rfl, hR, fun hS => ?_⟩
  rcases hs with rfl | ⟨elems, sp, hd, hel, _⟩
  · simp
  · rw [hx] at hS
    have h4 : Small 95 y4.1 := by
      unfold Small at hS
      simp only [DataW.weights, Try.underlying97] at hS
      exact weights_each (j := 4) rfl rfl hS
    rw [hd] at h4
    have := (h4.slice Try.underlying95).1
    rw [bytesEt, hel] at this
    exact this

theorem model_cells {fuel : Nat} {cs : List Value} {x : DataW H × List MemPlace} (h : DataW.trod enc Try.prog w 0 spare held fuel 26 cs = some x) (hS : Small 26 x.1) :
    ∃ (m : Mdl) (lv rv sv : Value) (R : List RuleV), cs = [.int .i64 m.procs, .int .i64 m.states, .int .i64 m.loads, lv, rv, sv] ∧ ModelAt w w.heap.size lv rv sv m R ∧ m.links.length * 24 ≤ reachBytes ∧ m.rules.length * 56 ≤ reachBytes ∧ m.starts.length * 24 ≤ reachBytes ∧ ∀ r ∈ m.rules, r.es.length * 24 ≤ reachBytes := by
  obtain ⟨y0, y1, y2, y3, y4, y5, n, hx, hl, t0, t1, t2, t3, t4, t5⟩ := trod_struct6 Try.underlying26 h
  rw [cellsMd] at hl
  obtain ⟨a, b, c, d, e, f, rfl⟩ := sixR hl
  simp only [cellsI, cellsSl1, cellsSl2, cellsSl3] at t0 t1 t2 t3 t4 t5
  obtain ⟨i0, e0, _, _⟩ := DataW.trod_int Try.underlying3 t0
  obtain ⟨i1, e1, _, _⟩ := DataW.trod_int Try.underlying3 t1
  obtain ⟨i2, e2, _, _⟩ := DataW.trod_int Try.underlying3 t2
  obtain ⟨lv, l, e3, hL, hsL⟩ := rows_open linkC (by omega) (fun _ => rfl) Try.underlying22 cellsLk (fun _ _ => True) (fun f cs y hy => by obtain ⟨o, ho⟩ := link_cells hy; exact ⟨o, ho, trivial⟩) t3
  obtain ⟨rv, R, e4, hR, hsR⟩ := rows_open ruleC (by omega) (fun _ => rfl) Try.underlying23 cellsRl (fun d a => EmitsAt w w.heap.size a.ev a.r.es ∧ (Small 97 d → a.r.es.length * 24 ≤ reachBytes)) (fun f cs y hy => rule_cells hy) t4
  obtain ⟨sv, s, e5, hSt, hsS⟩ := rows_open startC (by omega) (fun _ => rfl) Try.underlying24 cellsSt (fun _ _ => True) (fun f cs y hy => by obtain ⟨o, ho⟩ := start_cells hy; exact ⟨o, ho, trivial⟩) t5
  simp at e0 e1 e2 e3 e4 e5
  subst e0 e1 e2 e3 e4 e5
  have hW : ∀ (j : Nat) (t : TypeId) (d : DataW H), ([3, 3, 3, 22, 23, 24] : List TypeId)[j]? = some t → [y0.1, y1.1, y2.1, y3.1, y4.1, y5.1][j]? = some d → Small t d := by
    intro j t d ht hd
    rw [hx] at hS
    unfold Small at hS
    simp only [DataW.weights, Try.underlying26] at hS
    exact weights_each ht hd hS
  refine ⟨⟨i0, i1, i2, l, R.map RuleV.r, s⟩, _, _, _, R, rfl, ⟨hL, ⟨hR, fun z hz => ?_⟩, hSt, rfl⟩, ?_, ?_, ?_, ?_⟩
  · rcases hsR with rfl | ⟨elems, sp, hd, hel, hq⟩
    · simp at hz
    · obtain ⟨_, _, h1, _⟩ := hq z hz
      exact h1
  · rcases hsL with rfl | ⟨elems, sp, hd, hel, _⟩
    · simp
    · have h1 := hW 3 _ _ rfl rfl
      rw [hd] at h1
      have := (h1.slice Try.underlying22).1
      rw [bytesLk, hel] at this
      exact this
  · rcases hsR with rfl | ⟨elems, sp, hd, hel, _⟩
    · simp
    · have h1 := hW 4 _ _ rfl rfl
      rw [hd] at h1
      have := (h1.slice Try.underlying23).1
      rw [bytesRl, hel] at this
      simpa using this
  · rcases hsS with rfl | ⟨elems, sp, hd, hel, _⟩
    · simp
    · have h1 := hW 5 _ _ rfl rfl
      rw [hd] at h1
      have := (h1.slice Try.underlying24).1
      rw [bytesSt, hel] at this
      exact this
  · intro r hr
    obtain ⟨z, hz, rfl⟩ := List.mem_map.1 hr
    rcases hsR with rfl | ⟨elems, sp, hd, hel, hq⟩
    · simp at hz
    · obtain ⟨d, hdm, _, h2⟩ := hq z hz
      have h1 := hW 4 _ _ rfl rfl
      rw [hd] at h1
      exact h2 ((h1.slice Try.underlying23).2 d hdm)

end
end Go.Proofs.Ytaieackeflmhgaa

