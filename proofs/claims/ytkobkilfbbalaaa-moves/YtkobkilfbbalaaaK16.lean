/-
  The program: a model, kept.
  The program: Open.
  The law's own: one, begins.
  The net's laws: what they share: a course that is read, begins.
  The net's laws: opened, lists.
-/
import Derived.Test.YtkobkilfbbalaaaK15
import Derived.Test.YtkobkilfbbalaaaK10
import Derived.Test.YtkobkilfbbalaaaK11
namespace Go.Proofs.Ytkobkilfbbalaaa
open Go.RowKit Go.Sort Go.Maps

theorem ruleS_of : ∀ {R : List RuleV}, (∀ x ∈ R, ∃ ao n c, x.ev = .slice ao n c) → ∃ RS : List RuleS, RS.map RuleS.v = R
  | [], _ => ⟨[], rfl⟩
  | x :: R, h => by
    obtain ⟨RS, hRS⟩ := ruleS_of (R := R) (fun y hy => h y (by simp [hy]))
    obtain ⟨ao, n, c, hx⟩ := h x (by simp)
    refine ⟨⟨x.r, ao, n, c⟩ :: RS, ?_⟩
    rw [List.map_cons, hRS]
    have : RuleS.v ⟨x.r, ao, n, c⟩ = x := by
      obtain ⟨r, ev⟩ := x
      simp only at hx
      subst hx
      rfl
    rw [this]

set_option maxRecDepth 100000 in
set_option maxHeartbeats 16000000 in
theorem kept_any (w : World) (Bm : Nat) (lv rv sv : Value) (m : Mdl) (R : List RuleV) (hM : ModelAt w Bm lv rv sv m R) (hBm : Bm ≤ w.heap.size) (hm : Right m) :
    Calls Try.prog 64 #[.agg #[.int .i64 m.procs, .int .i64 m.states, .int .i64 m.loads, lv, rv, sv]] w fun e w' => ∃ (lv' rv' : Value) (RS : List RuleS), e = .returned (.agg #[.int .i64 m.procs, .int .i64 m.states, .int .i64 m.loads, lv', rv', .slice none 0 0]) ∧ ModOwn w' w.heap.size lv' rv' m RS ∧ Below w.heap.size w w' := by
  obtain ⟨ao2, cap2, hsv, hcap2⟩ := RowsAt.form hM.starts
  subst hsv
  obtain ⟨ao1, cap1, hlv, hcap1⟩ := RowsAt.form hM.links
  subst hlv
  obtain ⟨ao3, cap3, hrv, hcap3⟩ := RowsAt.form hM.rules.1
  subst hrv
  obtain ⟨RS, hRS⟩ := ruleS_of (R := R) (fun x hx => by
    obtain ⟨ao, cap, h1, _⟩ := RowsAt.form (hM.rules.2 x hx)
    exact ⟨ao, _, cap, h1⟩)
  have hRr : RS.map RuleS.r = m.rules := by rw [← hM.same, ← hRS, List.map_map]; rfl
  have hRlen : RS.length = R.length := by rw [← hRS, List.length_map]
  have hnl := hm.lim.nl
  have hnr : R.length ≤ 40 := by rw [hM.rlen]; exact hm.lim.nr
  have hrows : RowsAt rlE.sz rlE.enc w Bm (.slice ao3 R.length cap3) RS := by
    obtain ⟨ao, cap, h1, h2, h3⟩ := hM.rules.1
    refine ⟨ao, cap, by rw [hRlen]; exact h1, by rw [hRlen]; exact h2, fun hne => ?_⟩
    obtain ⟨b, off, h4, h5, h6⟩ := h3 (fun e => hne (by rw [e] at hRlen; exact List.eq_nil_of_length_eq_zero hRlen))
    refine ⟨b, off, h4, h5, fun j x k u hx hu => h6 j x.v k u (by rw [← hRS, List.getElem?_map, hx]; rfl) hu⟩
  have hems : ∀ x ∈ RS, EmitsAt w Bm x.ev x.r.es := fun x hx => hM.rules.2 x.v (by rw [← hRS]; exact List.mem_map_of_mem hx)
  have heml : ∀ x ∈ RS, x.r.es.length ≤ 4 := fun x hx => by
    have h1 : x.r ∈ m.rules := by rw [← hRr]; exact List.mem_map_of_mem hx
    obtain ⟨j, hj⟩ := List.getElem?_of_mem h1
    exact (ruleOk_iff (hm.rule hj)).2.2.2.2.1
  obtain ⟨W0, hW0⟩ : ∃ W0, W0 = (w.alloc (.cells #[.int .i64 m.procs, .int .i64 m.states, .int .i64 m.loads, .slice ao1 m.links.length cap1, .slice ao3 R.length cap3, .slice ao2 m.starts.length cap2] 31)).alloc (.cells #[.int .i64 0, .int .i64 0, .int .i64 0, .slice none 0 0, .slice none 0 0, .slice none 0 0] 31) := ⟨_, rfl⟩
  have HW0 : Hid (W0 = (w.alloc (.cells #[.int .i64 m.procs, .int .i64 m.states, .int .i64 m.loads, .slice ao1 m.links.length cap1, .slice ao3 R.length cap3, .slice ao2 m.starts.length cap2] 31)).alloc (.cells #[.int .i64 0, .int .i64 0, .int .i64 0, .slice none 0 0, .slice none 0 0, .slice none 0 0] 31)) := hW0
  have hB0 : Below w.heap.size w W0 := by rw [hW0]; exact KeptF.below (F := fun _ => False) (((KeptF.refl _ w).alloc _).alloc _) (Nat.le_refl _) (fun _ e => e.elim)
  have hb0 : Blk W0 w.heap.size #[.int .i64 m.procs, .int .i64 m.states, .int .i64 m.loads, .slice ao1 m.links.length cap1, .slice ao3 R.length cap3, .slice ao2 m.starts.length cap2] 31 := by rw [hW0]; exact Blk.alloc (blk_newP rfl) _
  have hb1 : Blk W0 (w.heap.size + 1) #[.int .i64 0, .int .i64 0, .int .i64 0, .slice none 0 0, .slice none 0 0, .slice none 0 0] 31 := by rw [hW0]; exact blk_newP (by simp)
  have hz : W0.heap.size = w.heap.size + 2 := by rw [hW0]; simp
  have Hz : Hid (W0.heap.size = w.heap.size + 2) := hz
  clear hW0 hz
  have hc1 := clone_lk W0 Bm (.slice ao1 m.links.length cap1) m.links (RowsAt.keep hM.links (hB0.mono hBm)) (Nat.le_trans hBm hB0.size) (by omega)
  have m3 : W0.cell? ⟨w.heap.size, 3, none⟩ = some (.slice ao1 m.links.length cap1) := hb0.cell 3
  have hl0 := hb0.lt
  go_enter Try.func64, Try.ntmps64
  go_upto_region 1 with fail
  rw [← HW0.out]
  go_wp2_with fail
  refine hc1.mono ?_
  rintro e1 w1 ⟨v1, rfl, hL1, hbl1⟩
  clear hc1 m3
  rw [Hz.out] at hL1
  have hk1 : KeptF (fun _ => False) W0 w1 := kept_of_below' hbl1
  have hb01 := hb0.keep hk1 (fun e => e)
  have hb11 := hb1.keep hk1 (fun e => e)
  have hB1 : Below w.heap.size w w1 := hB0.trans (hbl1.mono hB0.size)
  obtain ⟨a1, n1, c1, hv1⟩ : ∃ a n c, v1 = .slice a n c := by obtain ⟨a, c, h1, _⟩ := hL1.form'; exact ⟨a, _, c, h1⟩
  subst hv1
  have g3 : w1.cell? ⟨w.heap.size, 3, none⟩ = some (.slice ao1 m.links.length cap1) := hb01.cell 3
  have f3 : w1.frozen? ⟨w.heap.size, 3, none⟩ = false := hb01.frozen 3
  have g4 : w1.cell? ⟨w.heap.size, 4, none⟩ = some (.slice ao3 R.length cap3) := hb01.cell 4
  have hl1 := hb01.lt
  have hkA : KeptF (fun r => r = w.heap.size) w1 (w1.setCell ⟨w.heap.size, 3, none⟩ (.slice a1 n1 c1)) := (KeptF.refl (fun r => r = w.heap.size) w1).setCell (p := ⟨w.heap.size, 3, none⟩) (.inl rfl) _
  have hbA := hb01.set 3 (.slice a1 n1 c1)
  have hb1A := hb11.keep hkA (by omega)
  have hLA := hL1.keep hkA (fun g hg e => by have := (hL1.lt hg).1; omega)
  have hBA : Below w.heap.size w (w1.setCell ⟨w.heap.size, 3, none⟩ (.slice a1 n1 c1)) := hB1.trans (KeptF.below hkA hB1.size (fun r e => by omega))
  go_upto_region 2 with fail
  clear g3 f3 g4 hb0 hb1 hb01 hb11 hL1 hB1 hbl1 hk1 hkA HW0 Hz hB0
  generalize w1.setCell ⟨w.heap.size, 3, none⟩ (.slice a1 n1 c1) = WA at *
  have hc2 := clone_rl WA Bm (.slice ao3 R.length cap3) RS (RowsAt.keep hrows (hBA.mono hBm)) (Nat.le_trans hBm hBA.size) (by omega)
  have g4 : WA.cell? ⟨w.heap.size, 4, none⟩ = some (.slice ao3 R.length cap3) := hbA.cell 4
  have hlA := hbA.lt
  have hlA1 := hb1A.lt
  go_wp2_with fail
  refine hc2.mono ?_
  rintro e2 w2 ⟨v2, rfl, hR2, hbl2⟩
  clear hc2 g4
  have hk2 : KeptF (fun _ => False) WA w2 := kept_of_below' hbl2
  have hbA2 := hbA.keep hk2 (fun e => e)
  have hb1A2 := hb1A.keep hk2 (fun e => e)
  have hLA2 := hLA.keep hk2 (fun _ _ e => e)
  have hBA2 : Below w.heap.size w w2 := hBA.trans (hbl2.mono hBA.size)
  have hlap : ∀ g, (Value.slice a1 n1 c1).ownBlock = some g → g < WA.heap.size := fun g hg => (hLA.lt hg).2
  obtain ⟨a2, c2, hv2, hc2⟩ := hR2.form'
  rw [hRlen] at hv2 hc2
  subst hv2
  have g4 : w2.cell? ⟨w.heap.size, 4, none⟩ = some (.slice ao3 R.length cap3) := hbA2.cell 4
  have f4 : w2.frozen? ⟨w.heap.size, 4, none⟩ = false := hbA2.frozen 4
  have hl2 := hbA2.lt
  have hkB : KeptF (fun r => r = w.heap.size) w2 (w2.setCell ⟨w.heap.size, 4, none⟩ (.slice a2 R.length c2)) := (KeptF.refl (fun r => r = w.heap.size) w2).setCell (p := ⟨w.heap.size, 4, none⟩) (.inl rfl) _
  have hbB := hbA2.set 4 (.slice a2 R.length c2)
  have hb1B := hb1A2.keep hkB (by omega)
  have hLB := hLA2.keep hkB (fun g hg e => by have := (hLA.lt hg).1; omega)
  have hRB := hR2.keep hkB (fun g hg e => by have := (hR2.lt hg).1; omega)
  have hBB : Below w.heap.size w (w2.setCell ⟨w.heap.size, 4, none⟩ (.slice a2 R.length c2)) := hBA2.trans (KeptF.below hkB hBA2.size (fun r e => by omega))
  have hrap : ∀ g, (Value.slice a2 R.length c2).ownBlock = some g → WA.heap.size ≤ g := fun g hg => (hR2.lt hg).1
  go_upto_region 3 with fail
  clear g4 f4 hbA hb1A hLA hBA hR2 hbl2 hk2 hbA2 hb1A2 hLA2 hBA2 hkB
  generalize w2.setCell ⟨w.heap.size, 4, none⟩ (.slice a2 R.length c2) = WB at *
  have g4 : WB.cell? ⟨w.heap.size, 4, none⟩ = some (.slice a2 R.length c2) := hbB.cell 4
  have hlB := hbB.lt
  go_wp2
  clear g4
  have hrlt : ∀ g, (Value.slice a2 R.length c2).ownBlock = some g → g < WB.heap.size := fun g hg => (hRB.lt hg).2
  have hWBl : w.heap.size + 1 < WB.heap.size := hb1B.lt
  have hRB' := hRB.mono (show w.heap.size ≤ WA.heap.size by omega)
  go_loopw [15] (fun s15 wr => ∃ (k : Nat) (RK : List RuleS), s15 = .int .i64 k ∧ k ≤ R.length ∧ RK.map RuleS.r = m.rules ∧ (∀ j, k ≤ j → RK[j]? = RS[j]?) ∧ (∀ (j : Nat) (x : RuleS), j < k → RK[j]? = some x → Own etE wr w.heap.size x.ev x.r.es ∧ (∀ g, x.ev.ownBlock = some g → WB.heap.size ≤ g)) ∧ Own rlE wr WA.heap.size (.slice a2 R.length c2) RK ∧ Own lkE wr (w.heap.size + 2) (.slice a1 n1 c1) m.links ∧ Blk wr w.heap.size (((#[.int .i64 m.procs, .int .i64 m.states, .int .i64 m.loads, .slice ao1 m.links.length cap1, .slice ao3 R.length cap3, .slice ao2 m.starts.length cap2]).setIfInBounds 3 (.slice a1 n1 c1)).setIfInBounds 4 (.slice a2 R.length c2)) 31 ∧ Blk wr (w.heap.size + 1) #[.int .i64 0, .int .i64 0, .int .i64 0, .slice none 0 0, .slice none 0 0, .slice none 0 0] 31 ∧ Below w.heap.size w wr ∧ WB.heap.size ≤ wr.heap.size) (fun s15 _ => R.length - (intOf s15).toNat)
  case atStart => exact ⟨0, RS, rfl, Nat.zero_le _, hRr, fun _ _ => rfl, fun j x hj => by omega, hRB, hLB, hbB, hb1B, hBB, Nat.le_refl _⟩
  case round =>
    clear hRB hLB hbB hb1B hBB hRB'
    obtain ⟨k, RK, rfl, hk, hKr, hKe, hKo, hO, hL, hbm, hbz, hbl, hsz⟩ := hrel
    have hKl : RK.length = R.length := by
      have := congrArg List.length hKr
      rw [List.length_map] at this
      rw [this, ← hRr, List.length_map, hRlen]
    by_cases hlt : k < R.length
    · obtain ⟨x, hx⟩ := get_of_lt (d := RK) (k := k) (by omega)
      have hxS : RS[k]? = some x := by rw [← hKe k (Nat.le_refl _)]; exact hx
      have hxm := List.mem_of_getElem? hxS
      obtain ⟨g, cap', hg, _⟩ := Own.at_ hO hx
      simp only [Value.slice.injEq] at hg
      obtain ⟨rfl, -, -⟩ := hg
      have hgl := hO.lt (g := g) rfl
      have x4 : wr.cell? ⟨g, k * 5 + 4, none⟩ = some (.slice x.ao x.len x.cap) := hO.cell hx (k := 4) (u := .slice x.ao x.len x.cap) rfl
      have xf : wr.frozen? ⟨g, k * 5 + 4, none⟩ = false := by obtain ⟨c, hc⟩ := hO.blkC; exact hc.frozen _
      have g4 : wr.cell? ⟨w.heap.size, 4, none⟩ = some (.slice (some ⟨g, 0, none⟩) R.length c2) := hbm.cell 4
      have g4d : wr.drew.cell? ⟨w.heap.size, 4, none⟩ = some (.slice (some ⟨g, 0, none⟩) R.length c2) := g4
      have hlm : w.heap.size < wr.heap.size := hbm.lt
      have hlg : g < wr.heap.size := hgl.2
      have hgm : g ≠ w.heap.size := by omega
      have hkl : (k : Int) < R.length := by omega
      have hbd : Below w.heap.size w wr.drew := hbl.trans ⟨rfl, rfl, rfl, Nat.le_refl _, fun _ _ => rfl⟩
      have hcl := clone_et wr.drew Bm x.ev x.r.es (RowsAt.keep (hems x hxm) (hbd.mono hBm)) (Nat.le_trans hBm hbd.size) (by have := heml x hxm; omega)
      have hcl : Calls Try.prog 91 #[.slice x.ao x.len x.cap] wr.drew fun e w' => ∃ v' : Value, e = .returned v' ∧ Own etE w' wr.drew.heap.size v' x.r.es ∧ Below wr.drew.heap.size wr.drew w' := hcl
      have Hx : Hid (RK[k]? = some x) := hx
      clear hx hxS
      go_wp2
      refine wp_region_held_drew (S := (fun W => W.cell? ⟨w.heap.size, 4, none⟩ = some (.slice (some ⟨g, 0, none⟩) R.length c2))) (by kernel_rfl) ?_ (fun hHeld => ?_)
      · (try dsimp only)
        assumption
      refine takeL 0 (v := ?_) rfl (by kernel_rfl) (by kernel_rfl) (by kernel_rfl) (fun _ _ _ h => h) (by rfl) ?_ (by assumption) ?_
      rotate_left
      · intro w hSw
        (try dsimp only at hSw)
        go_simp
        all_goals with_reducible rfl
      try simp only [Act.put, List.setIfInBounds_toArray, List.set_cons_zero, List.set_cons_succ]
      refine takeL 1 (v := ?_) rfl (by kernel_rfl) (by kernel_rfl) (by kernel_rfl) (fun _ _ _ h => h) (by rfl) ?_ (by assumption) ?_
      rotate_left
      · intro w hSw
        (try dsimp only at hSw)
        go_simp
        all_goals with_reducible rfl
      try simp only [Act.put, List.setIfInBounds_toArray, List.set_cons_zero, List.set_cons_succ]
      refine takeL 2 (v := ?_) rfl (by kernel_rfl) (by kernel_rfl) (by kernel_rfl) (fun _ _ _ h => h) (by rfl) ?_ (by assumption) ?_
      rotate_left
      · intro w hSw
        (try dsimp only at hSw)
        go_simp
        all_goals with_reducible rfl
      try simp only [Act.put, List.setIfInBounds_toArray, List.set_cons_zero, List.set_cons_succ]
      refine takeL 3 (v := ?_) rfl (by kernel_rfl) (by kernel_rfl) (by kernel_rfl) (fun _ _ _ h => h) (by rfl) ?_ (by assumption) ?_
      rotate_left
      · intro w hSw
        (try dsimp only at hSw)
        go_simp
        all_goals with_reducible rfl
      try simp only [Act.put, List.setIfInBounds_toArray, List.set_cons_zero, List.set_cons_succ]
      refine takeL 4 (v := ?_) rfl (by kernel_rfl) (by kernel_rfl) (by kernel_rfl) (fun _ _ _ h => h) (by rfl) ?_ (by assumption) ?_
      rotate_left
      · intro w hSw
        (try dsimp only at hSw)
        go_simp
        all_goals with_reducible rfl
      try simp only [Act.put, List.setIfInBounds_toArray, List.set_cons_zero, List.set_cons_succ]
      refine takeL 5 (v := ?_) rfl (by kernel_rfl) (by kernel_rfl) (by kernel_rfl) (fun _ _ _ h => h) (by rfl) ?_ (by assumption) ?_
      rotate_left
      · intro w hSw
        (try dsimp only at hSw)
        go_simp
        all_goals with_reducible rfl
      try simp only [Act.put, List.setIfInBounds_toArray, List.set_cons_zero, List.set_cons_succ]
      refine takeL 6 (v := ?_) rfl (by kernel_rfl) (by kernel_rfl) (by kernel_rfl) (fun _ _ _ h => h) (by rfl) ?_ (by assumption) ?_
      rotate_left
      · intro w hSw
        (try dsimp only at hSw)
        go_simp
        all_goals with_reducible rfl
      try simp only [Act.put, List.setIfInBounds_toArray, List.set_cons_zero, List.set_cons_succ]
      refine takeL 7 (v := ?_) rfl (by kernel_rfl) (by kernel_rfl) (by kernel_rfl) (fun _ _ _ h => h) (by rfl) ?_ (by assumption) ?_
      rotate_left
      · intro w hSw
        (try dsimp only at hSw)
        go_simp
        all_goals with_reducible rfl
      try simp only [Act.put, List.setIfInBounds_toArray, List.set_cons_zero, List.set_cons_succ]
      refine wpAnyH_ready (rs := [8]) (by kernel_rfl) (by simp) ?_
      refine consL rfl (fun K hK => ?_) AllReadyH.nil
      go_simp
      refine hK.out _ _ ?_ (fun hHeld => ?_)
      · (try dsimp only)
        assumption
      clear hK K
      try simp only [Act.put, List.setIfInBounds_toArray, List.set_cons_zero, List.set_cons_succ]
      refine wpAnyH_ready (rs := [9]) (by kernel_rfl) (by simp) ?_
      refine consL rfl (fun K hK => ?_) AllReadyH.nil
      go_simp
      refine hcl.mono ?_
      rintro e4 w4 ⟨v4, rfl, hO4, hb4⟩
      clear hcl
      have hk4 : KeptF (fun _ => False) wr.drew w4 := kept_of_below' hb4
      have d4 : w4.cell? ⟨w.heap.size, 4, none⟩ = some (.slice (some ⟨g, 0, none⟩) R.length c2) := (hk4.cell (p := ⟨w.heap.size, 4, none⟩) hlm (fun e => e)).trans g4
      have de : w4.cell? ⟨g, k * 5 + 4, none⟩ = some (.slice x.ao x.len x.cap) := (hk4.cell (p := ⟨g, k * 5 + 4, none⟩) hlg (fun e => e)).trans x4
      have df : w4.frozen? ⟨g, k * 5 + 4, none⟩ = false := (hk4.frozen (p := ⟨g, k * 5 + 4, none⟩) hlg (fun e => e)).trans xf
      obtain ⟨ae, ne, ce, hve⟩ : ∃ a n c, v4 = .slice a n c := by obtain ⟨a, c, h1, _⟩ := hO4.form'; exact ⟨a, _, c, h1⟩
      subst hve
      have dS : (w4.setCell ⟨g, k * 5 + 4, none⟩ (.slice ae ne ce)).cell? ⟨w.heap.size, 4, none⟩ = some (.slice (some ⟨g, 0, none⟩) R.length c2) := (((KeptF.refl (fun r => r = g) w4).setCell (p := ⟨g, k * 5 + 4, none⟩) (.inl rfl) _).cell (p := ⟨w.heap.size, 4, none⟩) (block_lt_of_cell d4) (fun e => hgm e.symm)).trans d4
      go_wp2_with fail
      refine hK.out _ _ ?_ (fun hHeld => ?_)
      · (try dsimp only)
        assumption
      clear hK K
      try simp only [Act.put, List.setIfInBounds_toArray, List.set_cons_zero, List.set_cons_succ]
      refine takeL 10 (v := ?_) rfl (by kernel_rfl) (by kernel_rfl) (by kernel_rfl) (fun _ _ _ h => h) (by rfl) ?_ (by assumption) ?_
      rotate_left
      · intro w hSw
        (try dsimp only at hSw)
        go_simp
        all_goals with_reducible rfl
      try simp only [Act.put, List.setIfInBounds_toArray, List.set_cons_zero, List.set_cons_succ]
      refine takeL 11 (v := ?_) rfl (by kernel_rfl) (by kernel_rfl) (by kernel_rfl) (fun _ _ _ h => h) (by rfl) ?_ (by assumption) ?_
      rotate_left
      · intro w hSw
        (try dsimp only at hSw)
        go_simp
        all_goals with_reducible rfl
      try simp only [Act.put, List.setIfInBounds_toArray, List.set_cons_zero, List.set_cons_succ]
      refine wpAnyH_ready (rs := [12]) (by kernel_rfl) (by simp) ?_
      refine consL rfl (fun K hK => ?_) AllReadyH.nil
      go_simp
      refine hK.out _ _ ?_ (fun hHeld => ?_)
      · (try dsimp only)
        assumption
      clear hK K
      try simp only [Act.put, List.setIfInBounds_toArray, List.set_cons_zero, List.set_cons_succ]
      refine wpAnyH_done (by kernel_rfl) ?_ _
      have hk5 : KeptF (fun r => r = g) w4 (w4.setCell ⟨g, k * 5 + 4, none⟩ (.slice ae ne ce)) := (KeptF.refl (fun r => r = g) w4).setCell (p := ⟨g, k * 5 + 4, none⟩) (.inl rfl) _
      have hkw4 : KeptF (fun _ => False) wr w4 := (KeptF.drew (KeptF.refl (fun _ => False) wr)).trans hk4
      have hO5 := (hO.keep hkw4 (fun _ _ e => e)).setAt Hx.out (k := 4) (u := .slice ae ne ce) (y := ⟨x.r, ae, ne, ce⟩) (by decide) rfl
      have hO5 : Own rlE (w4.setCell ⟨g, k * 5 + 4, none⟩ (.slice ae ne ce)) WA.heap.size (.slice (some ⟨g, 0, none⟩) R.length c2) (RK.set k ⟨x.r, ae, ne, ce⟩) := hO5
      have hge : ∀ r, (Value.slice ae ne ce).ownBlock = some r → wr.heap.size ≤ r := fun r hr => (hO4.lt hr).1
      have hE5 : Own etE (w4.setCell ⟨g, k * 5 + 4, none⟩ (.slice ae ne ce)) w.heap.size (.slice ae ne ce) x.r.es := (hO4.keep hk5 (fun r hr e => by have := hge r hr; omega)).mono (show w.heap.size ≤ wr.heap.size by omega)
      have hL5 := (hL.keep hkw4 (fun _ _ e => e)).keep hk5 (fun r hr e => by have := hlap r hr; omega)
      have hbm5 := (hbm.keep hkw4 (fun e => e)).keep hk5 (fun e => hgm e.symm)
      have hbz5 := (hbz.keep hkw4 (fun e => e)).keep hk5 (by omega)
      have hbl5 : Below w.heap.size w (w4.setCell ⟨g, k * 5 + 4, none⟩ (.slice ae ne ce)) := (hbl.trans (KeptF.below hkw4 hbl.size (fun _ e => e.elim))).trans (KeptF.below hk5 (Nat.le_trans hbl.size hkw4.size) (fun r e => by omega))
      have hsz5 : WB.heap.size ≤ (w4.setCell ⟨g, k * 5 + 4, none⟩ (.slice ae ne ce)).heap.size := Nat.le_trans hsz (Nat.le_trans hkw4.size hk5.size)
      have hKo5 : ∀ (j : Nat) (y : RuleS), j < k + 1 → (RK.set k ⟨x.r, ae, ne, ce⟩)[j]? = some y → Own etE (w4.setCell ⟨g, k * 5 + 4, none⟩ (.slice ae ne ce)) w.heap.size y.ev y.r.es ∧ (∀ r, y.ev.ownBlock = some r → WB.heap.size ≤ r) := by
        intro j y hj hy
        rcases set_get hy with ⟨_, e2⟩ | ⟨e1, e2⟩
        · subst e2
          exact ⟨hE5, fun r hr => Nat.le_trans hsz (hge r hr)⟩
        · obtain ⟨h1, h2⟩ := hKo j y (by omega) e2
          exact ⟨(h1.keep hkw4 (fun _ _ e => e)).keep hk5 (fun r hr e => by have := h2 r hr; have := hrlt g rfl; omega), h2⟩
      have hKr5 : (RK.set k ⟨x.r, ae, ne, ce⟩).map RuleS.r = m.rules := by
        rw [List.map_set, ← hKr]
        exact set_same (by rw [List.getElem?_map, Hx.out]; rfl)
      have hKe5 : ∀ j, k + 1 ≤ j → (RK.set k ⟨x.r, ae, ne, ce⟩)[j]? = RS[j]? := fun j hj => by
        rw [List.getElem?_set_ne (by omega)]; exact hKe j (by omega)
      clear hO hL hbm hbz hbl hKo hKr hKe x4 xf g4 g4d d4 de df dS hO4 hb4 hk4
      go_wp2
      go_roundw
      case rel => exact ⟨k + 1, _, by go_num, hlt, hKr5, hKe5, hKo5, hO5, hL5, hbm5, hbz5, hbl5, hsz5⟩
      case measure => simp [intOf]; omega
    · have hke : k = R.length := by omega
      subst hke
      have c0 : wr.cell? ⟨w.heap.size, 0, none⟩ = some (.int .i64 m.procs) := hbm.cell 0
      have c1' : wr.cell? ⟨w.heap.size, 1, none⟩ = some (.int .i64 m.states) := hbm.cell 1
      have c2' : wr.cell? ⟨w.heap.size, 2, none⟩ = some (.int .i64 m.loads) := hbm.cell 2
      have c3 : wr.cell? ⟨w.heap.size, 3, none⟩ = some (.slice a1 n1 c1) := hbm.cell 3
      have c4 : wr.cell? ⟨w.heap.size, 4, none⟩ = some (.slice a2 R.length c2) := hbm.cell 4
      have c5 : wr.cell? ⟨w.heap.size, 5, none⟩ = some (.slice ao2 m.starts.length cap2) := hbm.cell 5
      have f5 : wr.frozen? ⟨w.heap.size, 5, none⟩ = false := hbm.frozen 5
      have hlm := hbm.lt
      have hlz := hbz.lt
      have hk5 : KeptF (fun r => r = w.heap.size) wr (wr.setCell ⟨w.heap.size, 5, none⟩ (.slice none 0 0)) := (KeptF.refl (fun r => r = w.heap.size) wr).setCell (p := ⟨w.heap.size, 5, none⟩) (.inl rfl) _
      have hbm5 := hbm.set 5 (.slice none 0 0)
      have hbz5 := hbz.keep hk5 (by omega)
      have hO5 := hO.keep hk5 (fun r hr e => by have := hrap r hr; omega)
      have hL5 := hL.keep hk5 (fun r hr e => by have := (hL.lt hr).1; omega)
      have hE5 : ∀ x ∈ RK, Own etE (wr.setCell ⟨w.heap.size, 5, none⟩ (.slice none 0 0)) w.heap.size x.ev x.r.es ∧ ∀ r, x.ev.ownBlock = some r → WB.heap.size ≤ r := fun x hx => by
        obtain ⟨j, hj⟩ := List.getElem?_of_mem hx
        obtain ⟨h1, h2⟩ := hKo j x (by have := get_lt hj; omega) hj
        exact ⟨h1.keep hk5 (fun r hr e => by have := h2 r hr; omega), h2⟩
      have hbl5 : Below w.heap.size w (wr.setCell ⟨w.heap.size, 5, none⟩ (.slice none 0 0)) := hbl.trans (KeptF.below hk5 hbl.size (fun r e => by omega))
      go_upto_region 9 with fail
      clear c0 c1' c2' c3 c4 c5 f5 hbm hbz hO hL hKo hbl hk5
      generalize wr.setCell ⟨w.heap.size, 5, none⟩ (.slice none 0 0) = WC at *
      have c0 : WC.cell? ⟨w.heap.size, 0, none⟩ = some (.int .i64 m.procs) := hbm5.cell 0
      have c1' : WC.cell? ⟨w.heap.size, 1, none⟩ = some (.int .i64 m.states) := hbm5.cell 1
      have c2' : WC.cell? ⟨w.heap.size, 2, none⟩ = some (.int .i64 m.loads) := hbm5.cell 2
      have c3 : WC.cell? ⟨w.heap.size, 3, none⟩ = some (.slice a1 n1 c1) := hbm5.cell 3
      have c4 : WC.cell? ⟨w.heap.size, 4, none⟩ = some (.slice a2 R.length c2) := hbm5.cell 4
      have c5 : WC.cell? ⟨w.heap.size, 5, none⟩ = some (.slice none 0 0) := hbm5.cell 5
      have z0 : WC.cell? ⟨w.heap.size + 1, 0, none⟩ = some (.int .i64 0) := hbz5.cell 0
      have z1 : WC.cell? ⟨w.heap.size + 1, 1, none⟩ = some (.int .i64 0) := hbz5.cell 1
      have z2 : WC.cell? ⟨w.heap.size + 1, 2, none⟩ = some (.int .i64 0) := hbz5.cell 2
      have z3 : WC.cell? ⟨w.heap.size + 1, 3, none⟩ = some (.slice none 0 0) := hbz5.cell 3
      have z4 : WC.cell? ⟨w.heap.size + 1, 4, none⟩ = some (.slice none 0 0) := hbz5.cell 4
      have z5 : WC.cell? ⟨w.heap.size + 1, 5, none⟩ = some (.slice none 0 0) := hbz5.cell 5
      have y0 : WC.frozen? ⟨w.heap.size + 1, 0, none⟩ = false := hbz5.frozen 0
      have y1 : WC.frozen? ⟨w.heap.size + 1, 1, none⟩ = false := hbz5.frozen 1
      have y2 : WC.frozen? ⟨w.heap.size + 1, 2, none⟩ = false := hbz5.frozen 2
      have y3 : WC.frozen? ⟨w.heap.size + 1, 3, none⟩ = false := hbz5.frozen 3
      have y4 : WC.frozen? ⟨w.heap.size + 1, 4, none⟩ = false := hbz5.frozen 4
      have y5 : WC.frozen? ⟨w.heap.size + 1, 5, none⟩ = false := hbz5.frozen 5
      have hlm5 := hbm5.lt
      have hlz5 := hbz5.lt
      have hk6 : KeptF (fun r => r = w.heap.size + 1) WC ((((((WC.setCell ⟨w.heap.size + 1, 0, none⟩ (.int .i64 m.procs)).setCell ⟨w.heap.size + 1, 1, none⟩ (.int .i64 m.states)).setCell ⟨w.heap.size + 1, 2, none⟩ (.int .i64 m.loads)).setCell ⟨w.heap.size + 1, 3, none⟩ (.slice a1 n1 c1)).setCell ⟨w.heap.size + 1, 4, none⟩ (.slice a2 R.length c2)).setCell ⟨w.heap.size + 1, 5, none⟩ (.slice none 0 0)) := ((((((KeptF.refl (fun r => r = w.heap.size + 1) WC).setCell (p := ⟨w.heap.size + 1, 0, none⟩) (.inl rfl) _).setCell (p := ⟨w.heap.size + 1, 1, none⟩) (.inl rfl) _).setCell (p := ⟨w.heap.size + 1, 2, none⟩) (.inl rfl) _).setCell (p := ⟨w.heap.size + 1, 3, none⟩) (.inl rfl) _).setCell (p := ⟨w.heap.size + 1, 4, none⟩) (.inl rfl) _).setCell (p := ⟨w.heap.size + 1, 5, none⟩) (.inl rfl) _
      have hbz6 := (((((hbz5.set 0 (.int .i64 m.procs)).set 1 (.int .i64 m.states)).set 2 (.int .i64 m.loads)).set 3 (.slice a1 n1 c1)).set 4 (.slice a2 R.length c2)).set 5 (.slice none 0 0)
      have q0 : ((((((WC.setCell ⟨w.heap.size + 1, 0, none⟩ (.int .i64 m.procs)).setCell ⟨w.heap.size + 1, 1, none⟩ (.int .i64 m.states)).setCell ⟨w.heap.size + 1, 2, none⟩ (.int .i64 m.loads)).setCell ⟨w.heap.size + 1, 3, none⟩ (.slice a1 n1 c1)).setCell ⟨w.heap.size + 1, 4, none⟩ (.slice a2 R.length c2)).setCell ⟨w.heap.size + 1, 5, none⟩ (.slice none 0 0)).cell? ⟨w.heap.size + 1, 0, none⟩ = some (.int .i64 m.procs) := hbz6.cell 0
      have q1 : ((((((WC.setCell ⟨w.heap.size + 1, 0, none⟩ (.int .i64 m.procs)).setCell ⟨w.heap.size + 1, 1, none⟩ (.int .i64 m.states)).setCell ⟨w.heap.size + 1, 2, none⟩ (.int .i64 m.loads)).setCell ⟨w.heap.size + 1, 3, none⟩ (.slice a1 n1 c1)).setCell ⟨w.heap.size + 1, 4, none⟩ (.slice a2 R.length c2)).setCell ⟨w.heap.size + 1, 5, none⟩ (.slice none 0 0)).cell? ⟨w.heap.size + 1, 1, none⟩ = some (.int .i64 m.states) := hbz6.cell 1
      have q2 : ((((((WC.setCell ⟨w.heap.size + 1, 0, none⟩ (.int .i64 m.procs)).setCell ⟨w.heap.size + 1, 1, none⟩ (.int .i64 m.states)).setCell ⟨w.heap.size + 1, 2, none⟩ (.int .i64 m.loads)).setCell ⟨w.heap.size + 1, 3, none⟩ (.slice a1 n1 c1)).setCell ⟨w.heap.size + 1, 4, none⟩ (.slice a2 R.length c2)).setCell ⟨w.heap.size + 1, 5, none⟩ (.slice none 0 0)).cell? ⟨w.heap.size + 1, 2, none⟩ = some (.int .i64 m.loads) := hbz6.cell 2
      have q3 : ((((((WC.setCell ⟨w.heap.size + 1, 0, none⟩ (.int .i64 m.procs)).setCell ⟨w.heap.size + 1, 1, none⟩ (.int .i64 m.states)).setCell ⟨w.heap.size + 1, 2, none⟩ (.int .i64 m.loads)).setCell ⟨w.heap.size + 1, 3, none⟩ (.slice a1 n1 c1)).setCell ⟨w.heap.size + 1, 4, none⟩ (.slice a2 R.length c2)).setCell ⟨w.heap.size + 1, 5, none⟩ (.slice none 0 0)).cell? ⟨w.heap.size + 1, 3, none⟩ = some (.slice a1 n1 c1) := hbz6.cell 3
      have q4 : ((((((WC.setCell ⟨w.heap.size + 1, 0, none⟩ (.int .i64 m.procs)).setCell ⟨w.heap.size + 1, 1, none⟩ (.int .i64 m.states)).setCell ⟨w.heap.size + 1, 2, none⟩ (.int .i64 m.loads)).setCell ⟨w.heap.size + 1, 3, none⟩ (.slice a1 n1 c1)).setCell ⟨w.heap.size + 1, 4, none⟩ (.slice a2 R.length c2)).setCell ⟨w.heap.size + 1, 5, none⟩ (.slice none 0 0)).cell? ⟨w.heap.size + 1, 4, none⟩ = some (.slice a2 R.length c2) := hbz6.cell 4
      have q5 : ((((((WC.setCell ⟨w.heap.size + 1, 0, none⟩ (.int .i64 m.procs)).setCell ⟨w.heap.size + 1, 1, none⟩ (.int .i64 m.states)).setCell ⟨w.heap.size + 1, 2, none⟩ (.int .i64 m.loads)).setCell ⟨w.heap.size + 1, 3, none⟩ (.slice a1 n1 c1)).setCell ⟨w.heap.size + 1, 4, none⟩ (.slice a2 R.length c2)).setCell ⟨w.heap.size + 1, 5, none⟩ (.slice none 0 0)).cell? ⟨w.heap.size + 1, 5, none⟩ = some (.slice none 0 0) := hbz6.cell 5
      have hlow : ∀ r, (Value.slice a1 n1 c1).ownBlock = some r → w.heap.size + 2 ≤ r := fun r hr => (hL5.lt hr).1
      have hOf : ModOwn ((((((WC.setCell ⟨w.heap.size + 1, 0, none⟩ (.int .i64 m.procs)).setCell ⟨w.heap.size + 1, 1, none⟩ (.int .i64 m.states)).setCell ⟨w.heap.size + 1, 2, none⟩ (.int .i64 m.loads)).setCell ⟨w.heap.size + 1, 3, none⟩ (.slice a1 n1 c1)).setCell ⟨w.heap.size + 1, 4, none⟩ (.slice a2 R.length c2)).setCell ⟨w.heap.size + 1, 5, none⟩ (.slice none 0 0)) w.heap.size (.slice a1 n1 c1) (.slice a2 R.length c2) m RK := by
        refine ⟨(hL5.keep hk6 (fun r hr e => by have := hlow r hr; omega)).mono (by omega), (hO5.keep hk6 (fun r hr e => by have := hrap r hr; omega)).mono (by omega), hKr, fun x hx => ?_⟩
        obtain ⟨h1, h2⟩ := hE5 x hx
        exact h1.keep hk6 (fun r hr e => by have := h2 r hr; omega)
      have hbf : Below w.heap.size w ((((((WC.setCell ⟨w.heap.size + 1, 0, none⟩ (.int .i64 m.procs)).setCell ⟨w.heap.size + 1, 1, none⟩ (.int .i64 m.states)).setCell ⟨w.heap.size + 1, 2, none⟩ (.int .i64 m.loads)).setCell ⟨w.heap.size + 1, 3, none⟩ (.slice a1 n1 c1)).setCell ⟨w.heap.size + 1, 4, none⟩ (.slice a2 R.length c2)).setCell ⟨w.heap.size + 1, 5, none⟩ (.slice none 0 0)) := hbl5.trans (KeptF.below hk6 hbl5.size (fun r e => by omega))
      have HOf : Hid (ModOwn ((((((WC.setCell ⟨w.heap.size + 1, 0, none⟩ (.int .i64 m.procs)).setCell ⟨w.heap.size + 1, 1, none⟩ (.int .i64 m.states)).setCell ⟨w.heap.size + 1, 2, none⟩ (.int .i64 m.loads)).setCell ⟨w.heap.size + 1, 3, none⟩ (.slice a1 n1 c1)).setCell ⟨w.heap.size + 1, 4, none⟩ (.slice a2 R.length c2)).setCell ⟨w.heap.size + 1, 5, none⟩ (.slice none 0 0)) w.heap.size (.slice a1 n1 c1) (.slice a2 R.length c2) m RK) := hOf
      clear hOf hO5 hL5 hE5
      go_wp2
      refine bodyPost_ret (v := .agg #[.int .i64 m.procs, .int .i64 m.states, .int .i64 m.loads, .slice a1 n1 c1, .slice a2 R.length c2, .slice none 0 0]) (by simp [results, Try.results64, go_sem, q0, q1, q2, q3, q4, q5]) rfl ⟨.slice a1 n1 c1, .slice a2 R.length c2, RK, rfl, HOf.out, hbf⟩

end Go.Proofs.Ytkobkilfbbalaaa

namespace Go.Proofs.Ytkobkilfbbalaaa
open Go.RowKit Go.Sort Go.Maps

theorem info_lks : (Try.prog.info? 131).map (fun i => (i.zero, i.size, i.bytes)) = some (some (.slice none 0 0), 1, 24) := by kernel_rfl
theorem und_lkss : Try.prog.underlying 117 = some (.slice 131) := by kernel_rfl
theorem ModOwn.low {w : World} {lo lo' : Nat} {lv rv : Value} {m : Mdl} {RS : List RuleS} (h : ModOwn w lo lv rv m RS) (hl : lo' ≤ lo) : ModOwn w lo' lv rv m RS :=
  ⟨h.links.mono hl, h.rules.mono hl, h.same, fun x hx => (h.ems x hx).mono hl⟩
theorem answer_valid {m : Mdl} {en : Int} (h : answer m en = (0, 0)) : valid m en = (0, 0) := by
  unfold answer at h
  split at h
  · assumption
  · exact h

/-- a new net in memory -/
theorem net_open {w : World} {lo Bm B nb pb gb : Nat} {lv rv : Value} {RS : List RuleS} {ps : List Pr} {m : Mdl} {en : Int} (hmo : ModOwn w lo lv rv m RS) (hmf : ∀ k, MF lv rv RS k → k < Bm ∧ k ≠ gb) (hBm : Bm ≤ B) (hlo : lo ≤ B) (hgl : lo ≤ gb)
    (hP : Procs w B pb (np m) ps) (hS : Sim (np m) (c0 m).wait (c0 m).states (c0 m).seqs (c0 m).done ps) (hC : ∀ (i : Nat) (p : Pr), ps[i]? = some p → Clock0 m en i p) (hG : Blk w gb (madeCells #[.slice none 0 0] m.links.length) 131) (hpg : ¬ AllF pb ps gb)
    (hN : Blk w nb #[.int .i64 m.procs, .int .i64 m.states, .int .i64 m.loads, lv, rv, .slice none 0 0, .slice (some ⟨pb, 0, none⟩) (np m) (np m), .slice (some ⟨gb, 0, none⟩) m.links.length m.links.length] 119) (hnb : B ≤ nb) (hng : nb ≠ gb) (hpn : ¬ AllF pb ps nb) :
    NetAt w nb m en (openN m) ⟨lo, Bm, B, lv, rv, RS, pb, ps, gb, List.replicate m.links.length (.slice none 0 0)⟩ := by
  have hrep : ∀ (k : Nat) (v : Value), (List.replicate m.links.length (Value.slice none 0 0))[k]? = some v → v = .slice none 0 0 := fun k v hv => (List.mem_replicate.1 (List.mem_of_getElem? hv)).2
  refine ⟨hN, hmo, hmf, hBm, hlo, hP, hS.len, by simp [openN], fun i p a hp ha => ?_, ?_, by simp, by simp [openN], fun k v hv => ?_, fun i j v v' g hv _ _ hg => ?_, hnb, hgl, hng, hpn, hpg, fun v hv => ?_⟩
  · obtain ⟨hi, rfl⟩ := openN_get ha
    have hc := hC i p hp
    have hst := hS.st i p hp
    have hsq := hS.sent i p hp
    have hdn := hS.dn i p hp
    simp only [c0, List.getElem?_replicate, hi, if_true, Option.some.injEq] at hst hsq hdn
    have hit := hS.items i p hp
    refine ⟨hS.num i p hp, hc.en, hc.hr, hc.ws, hst.symm, hsq.symm, hdn.symm, hit, ?_⟩
    rw [hc.pu, hit.length_eq]
    show _ = 0 + _
    rw [Nat.zero_add]; rfl
  · rw [made_nils] at hG; exact hG
  · rw [hrep k v hv, openN_links]; exact Own.nil _ _ _
  · rw [hrep i v hv] at hg; cases hg
  · rw [(List.mem_replicate.1 hv).2]
    exact ⟨by simp [Value.ownBlock], by simp [Value.ownBlock], fun g hg => by cases hg⟩

set_option maxRecDepth 100000 in
set_option maxHeartbeats 16000000 in
theorem open_any (w : World) (Bm : Nat) (lv rv sv : Value) (m : Mdl) (R : List RuleV) (en : Int) (hM : ModelAt w Bm lv rv sv m R) (hBm : Bm ≤ w.heap.size) (hne : ∀ r ∈ m.rules, r.es.length ≤ 5864062014634) :
    Calls Try.prog 36 #[.agg #[.int .i64 m.procs, .int .i64 m.states, .int .i64 m.loads, lv, rv, sv], .int .i64 en] w fun e w' => Below w.heap.size w w' ∧ ((answer m en ≠ (0, 0) ∧ e = .returned (.tuple #[.pointer none, .int .i64 (answer m en).1, .int .i64 (answer m en).2])) ∨ (answer m en = (0, 0) ∧ ∃ (nb : Nat) (V : NV), e = .returned (.tuple #[.pointer (some ⟨nb, 0, none⟩), .int .i64 0, .int .i64 0]) ∧ NetAt w' nb m en (openN m) V ∧ V.lo = w.heap.size)) := by
  obtain ⟨ao2, cap2, hsv, hcap2⟩ := RowsAt.form hM.starts
  subst hsv
  obtain ⟨ao1, cap1, hlv, hcap1⟩ := RowsAt.form hM.links
  subst hlv
  obtain ⟨ao3, cap3, hrv, hcap3⟩ := RowsAt.form hM.rules.1
  subst hrv
  obtain ⟨W0, hW0⟩ : ∃ W0, W0 = w.alloc (.cells #[.int .i64 m.procs, .int .i64 m.states, .int .i64 m.loads, .slice ao1 m.links.length cap1, .slice ao3 R.length cap3, .slice ao2 m.starts.length cap2] 31) := ⟨_, rfl⟩
  have HW0 : Hid (W0 = w.alloc (.cells #[.int .i64 m.procs, .int .i64 m.states, .int .i64 m.loads, .slice ao1 m.links.length cap1, .slice ao3 R.length cap3, .slice ao2 m.starts.length cap2] 31)) := hW0
  have hB0 : Below w.heap.size w W0 := by rw [hW0]; exact (Below.refl _ _).alloc (Nat.le_refl _) _
  have hb0 : Blk W0 w.heap.size #[.int .i64 m.procs, .int .i64 m.states, .int .i64 m.loads, .slice ao1 m.links.length cap1, .slice ao3 R.length cap3, .slice ao2 m.starts.length cap2] 31 := by rw [hW0]; exact heap_alloc_new w _
  have hchk := check_any m (.slice ao1 m.links.length cap1) (.slice ao3 R.length cap3) (.slice ao2 m.starts.length cap2) R Bm en W0 (hM.keep (hB0.mono hBm)) (Nat.le_trans hBm hB0.size) hne
  clear hW0
  have m0 : W0.cell? ⟨w.heap.size, 0, none⟩ = some (.int .i64 m.procs) := hb0.cell 0
  have m1 : W0.cell? ⟨w.heap.size, 1, none⟩ = some (.int .i64 m.states) := hb0.cell 1
  have m2 : W0.cell? ⟨w.heap.size, 2, none⟩ = some (.int .i64 m.loads) := hb0.cell 2
  have m3 : W0.cell? ⟨w.heap.size, 3, none⟩ = some (.slice ao1 m.links.length cap1) := hb0.cell 3
  have m4 : W0.cell? ⟨w.heap.size, 4, none⟩ = some (.slice ao3 R.length cap3) := hb0.cell 4
  have m5 : W0.cell? ⟨w.heap.size, 5, none⟩ = some (.slice ao2 m.starts.length cap2) := hb0.cell 5
  have hl0 := hb0.lt
  go_enter Try.func36, Try.ntmps36
  go_upto_region 1 with fail
  rw [← HW0.out]
  go_wp2_with fail
  refine hchk.mono ?_
  rintro e1 w1 ⟨rfl, hb1⟩
  clear hchk m0 m1 m2 m3 m4 m5
  have hbl1 : Below w.heap.size w w1 := hB0.trans (hb1.mono hB0.size)
  by_cases ha : answer m en = (0, 0)
  · have Ha : Hid (answer m en = (0, 0)) := ha
    obtain ⟨hm, hen0, hen⟩ := right_of_valid (answer_valid ha)
    rw [ha]
    have hb01 := hb0.keep (kept_of_below' hb1) (fun e => e)
    have hS1d : MC6 w1.drew w.heap.size (.int .i64 m.procs) (.int .i64 m.states) (.int .i64 m.loads) (.slice ao1 m.links.length cap1) (.slice ao3 R.length cap3) (.slice ao2 m.starts.length cap2) := ⟨hb01.cell 0, hb01.cell 1, hb01.cell 2, hb01.cell 3, hb01.cell 4, hb01.cell 5⟩
    have hb1d : Below w.heap.size w w1.drew := hbl1.trans ⟨rfl, rfl, rfl, Nat.le_refl _, fun _ _ => rfl⟩
    have hnl := hm.lim.nl
    have hmk := fun W => run_make_row' (P := Try.prog) 117 131 (.slice none 0 0) 24 und_lkss info_lks rfl .i64 .i64 m.links.length (by omega) (by omega) W
    have hlw : w.heap.size < w1.heap.size := hb01.lt
    clear ha hb0 hb01
    go_wp2
    refine wp_region_held_drew (S := (fun W => MC6 W w.heap.size (.int .i64 m.procs) (.int .i64 m.states) (.int .i64 m.loads) (.slice ao1 m.links.length cap1) (.slice ao3 R.length cap3) (.slice ao2 m.starts.length cap2))) (by kernel_rfl) ?_ (fun hHeld => ?_)
    · (try dsimp only)
      assumption
    refine takeL 0 (v := ?_) rfl (by kernel_rfl) (by kernel_rfl) (by kernel_rfl) (fun _ _ _ h => h) (by rfl) ?_ (by assumption) ?_
    rotate_left
    · intro w hSw
      (try simp only [MC6] at hSw)
      go_simp
      all_goals with_reducible rfl
    try simp only [Act.put, List.setIfInBounds_toArray, List.set_cons_zero, List.set_cons_succ]
    refine takeL 2 (v := ?_) rfl (by kernel_rfl) (by kernel_rfl) (by kernel_rfl) (fun _ _ _ h => h) (by rfl) ?_ (by assumption) ?_
    rotate_left
    · intro w hSw
      (try simp only [MC6] at hSw)
      go_simp
      all_goals with_reducible rfl
    try simp only [Act.put, List.setIfInBounds_toArray, List.set_cons_zero, List.set_cons_succ]
    refine takeL 3 (v := ?_) rfl (by kernel_rfl) (by kernel_rfl) (by kernel_rfl) (fun _ _ _ h => h) (by rfl) ?_ (by assumption) ?_
    rotate_left
    · intro w hSw
      (try simp only [MC6] at hSw)
      go_simp
      all_goals with_reducible rfl
    try simp only [Act.put, List.setIfInBounds_toArray, List.set_cons_zero, List.set_cons_succ]
    refine takeL 5 (v := ?_) rfl (by kernel_rfl) (by kernel_rfl) (by kernel_rfl) (fun _ _ _ h => h) (by rfl) ?_ (by assumption) ?_
    rotate_left
    · intro w hSw
      (try simp only [MC6] at hSw)
      go_simp
      all_goals with_reducible rfl
    try simp only [Act.put, List.setIfInBounds_toArray, List.set_cons_zero, List.set_cons_succ]
    refine takeL 6 (v := ?_) rfl (by kernel_rfl) (by kernel_rfl) (by kernel_rfl) (fun _ _ _ h => h) (by rfl) ?_ (by assumption) ?_
    rotate_left
    · intro w hSw
      (try simp only [MC6] at hSw)
      go_simp
      all_goals with_reducible rfl
    try simp only [Act.put, List.setIfInBounds_toArray, List.set_cons_zero, List.set_cons_succ]
    refine takeL 7 (v := ?_) rfl (by kernel_rfl) (by kernel_rfl) (by kernel_rfl) (fun _ _ _ h => h) (by rfl) ?_ (by assumption) ?_
    rotate_left
    · intro w hSw
      (try simp only [MC6] at hSw)
      go_simp
      all_goals with_reducible rfl
    try simp only [Act.put, List.setIfInBounds_toArray, List.set_cons_zero, List.set_cons_succ]
    refine wpAnyH_ready (rs := [1, 8]) (by kernel_rfl) (by simp) ?_
    refine consL rfl (fun K hK => ?_) (consL rfl (fun K hK => ?_) AllReadyH.nil)
    have hk1 := kept_any w1.drew Bm (.slice ao1 m.links.length cap1) (.slice ao3 R.length cap3) (.slice ao2 m.starts.length cap2) m R (hM.keep (hb1d.mono hBm)) (Nat.le_trans hBm hb1d.size) hm
    go_simp
    refine hk1.mono ?_
    rintro ek wk ⟨lv1, rv1, RS, rfl, hMO, hbk⟩
    clear hk1
    have hbK : Below w.heap.size w wk := hb1d.trans (hbk.mono hb1d.size)
    have hSk := hS1d.keep (kept_of_below' hbk) (fun e => e)
    obtain ⟨la, ln, lc, hlv⟩ : ∃ a n c, lv1 = .slice a n c := by obtain ⟨a, c, h1, _⟩ := hMO.links.form'; exact ⟨a, _, c, h1⟩
    obtain ⟨ra, rn, rc, hrv⟩ : ∃ a n c, rv1 = .slice a n c := by obtain ⟨a, c, h1, _⟩ := hMO.rules.form'; exact ⟨a, _, c, h1⟩
    subst hlv hrv
    have hMO := ModOwn.low hMO (show w.heap.size ≤ _ from hb1d.size)
    go_wp2_with fail
    refine hK.out _ _ ?_ (fun hHeld => ?_)
    · (try dsimp only)
      assumption
    clear hK K
    try simp only [Act.put, List.setIfInBounds_toArray, List.set_cons_zero, List.set_cons_succ]
    refine wpAnyH_ready (rs := [4, 8]) (by kernel_rfl) (by simp) ?_
    refine consL rfl (fun K hK => ?_) (consL rfl (fun K hK => ?_) AllReadyH.nil)
    have hn1 := newProcs_any wk Bm (.slice ao1 m.links.length cap1) (.slice ao3 R.length cap3) (.slice ao2 m.starts.length cap2) m R en (hM.keep (hbK.mono hBm)) (Nat.le_trans hBm hbK.size) hm
    go_simp
    refine hn1.mono ?_
    rintro en1 wn ⟨pb, ps, rfl, hPr, hSim, hpu, hbn, hC0⟩
    clear hn1
    have hbN : Below w.heap.size w wn := hbK.trans (hbn.mono hbK.size)
    have hSn := hSk.keep (kept_of_below' hbn) (fun e => e)
    have hMOn := hMO.keep (kept_of_below' hbn) (fun _ _ e => e)
    have hB1 : wk.heap.size ≤ wk.heap.size := Nat.le_refl _
    obtain ⟨B, hBe⟩ : ∃ B, B = wk.heap.size + 1 := ⟨_, rfl⟩
    rw [← hBe] at hPr
    have hBk : wk.heap.size ≤ B := by omega
    have hwB : w.heap.size ≤ B := Nat.le_trans hbK.size hBk
    have hBg : wk.heap.size < B := by omega
    clear hBe
    go_wp2_with fail
    refine hK.out _ _ ?_ (fun hHeld => ?_)
    · (try dsimp only)
      assumption
    clear hK K
    try simp only [Act.put, List.setIfInBounds_toArray, List.set_cons_zero, List.set_cons_succ]
    refine wpAnyH_ready (rs := [8]) (by kernel_rfl) (by simp) ?_
    refine consL rfl (fun K hK => ?_) AllReadyH.nil
    obtain ⟨gb, hgz⟩ : ∃ gb, gb = wn.heap.size := ⟨_, rfl⟩
    obtain ⟨wz, hwg⟩ : ∃ wg, wg = wn.alloc (.cells (madeCells #[.slice none 0 0] m.links.length) 131) := ⟨_, rfl⟩
    have hGg : Blk wz gb (madeCells #[.slice none 0 0] m.links.length) 131 := by rw [hwg, hgz]; exact blk_newP rfl
    have hkg : KeptF (fun _ => False) wn wz := by rw [hwg]; exact ((KeptF.refl _ _).alloc _)
    have hgs1 : gb < wz.heap.size := hGg.lt
    have hge : wn.heap.size ≤ gb := by rw [hgz]; exact Nat.le_refl _
    have hbG : Below w.heap.size w wz := hbN.trans (KeptF.below hkg hbN.size (fun _ e => e.elim))
    have hSg := hSn.keep hkg (fun e => e)
    have hgw : w.heap.size ≤ gb := by rw [hgz]; exact hbN.size
    go_simp
    rw [← hwg, ← hgz]
    clear hgz hwg
    have hMOz := hMOn.keep hkg (fun _ _ e => e)
    have hPz := hPr.grow hkg
    have hGz := hGg
    have hbz := hbG
    have hSz := hSg
    have hgMF : ∀ k, MF (.slice la ln lc) (.slice ra rn rc) RS k → k ≠ gb := fun k hk e => by have h1 := (hMO.lt hk).2; have h2 := hbn.size; omega
    have hpgz : ¬ AllF pb ps gb := fun hf => by have := (hPr.lt hf).2; omega
    have hSy := hSz.keep ((KeptF.refl (fun _ => False) wz).alloc (.cells #[.int .i64 m.procs, .int .i64 m.states, .int .i64 m.loads, .slice la ln lc, .slice ra rn rc, .slice none 0 0, .slice (some ⟨pb, 0, none⟩) (np m) (np m), .slice (some ⟨gb, 0, none⟩) m.links.length m.links.length] 119)) (fun e => e)
    refine hK.out _ _ ?_ (fun hHeld => ?_)
    · (try dsimp only)
      assumption
    clear hK K
    try simp only [Act.put, List.setIfInBounds_toArray, List.set_cons_zero, List.set_cons_succ]
    refine takeL 9 (v := ?_) rfl (by kernel_rfl) (by kernel_rfl) (by kernel_rfl) (fun _ _ _ h => h) (by rfl) ?_ (by assumption) ?_
    rotate_left
    · intro w hSw
      (try simp only [MC6] at hSw)
      go_simp
      all_goals with_reducible rfl
    try simp only [Act.put, List.setIfInBounds_toArray, List.set_cons_zero, List.set_cons_succ]
    refine wpAnyH_ready (rs := [10]) (by kernel_rfl) (by simp) ?_
    refine consL rfl (fun K hK => ?_) AllReadyH.nil
    go_simp
    refine hK.out _ _ ?_ (fun hHeld => ?_)
    · (try dsimp only)
      assumption
    clear hK K
    try simp only [Act.put, List.setIfInBounds_toArray, List.set_cons_zero, List.set_cons_succ]
    refine wpAnyH_ready (rs := [11]) (by kernel_rfl) (by simp) ?_
    refine consL rfl (fun K hK => ?_) AllReadyH.nil
    go_simp
    refine hK.out _ _ ?_ (fun hHeld => ?_)
    · (try dsimp only)
      assumption
    clear hK K
    try simp only [Act.put, List.setIfInBounds_toArray, List.set_cons_zero, List.set_cons_succ]
    refine wpAnyH_ready (rs := [12]) (by kernel_rfl) (by simp) ?_
    refine consL rfl (fun K hK => ?_) AllReadyH.nil
    go_simp
    refine hK.out _ _ ?_ (fun hHeld => ?_)
    · (try dsimp only)
      assumption
    clear hK K
    try simp only [Act.put, List.setIfInBounds_toArray, List.set_cons_zero, List.set_cons_succ]
    refine wpAnyH_ready (rs := [13]) (by kernel_rfl) (by simp) ?_
    refine consL rfl (fun K hK => ?_) AllReadyH.nil
    go_simp
    refine hK.out _ _ ?_ (fun hHeld => ?_)
    · (try dsimp only)
      assumption
    clear hK K
    try simp only [Act.put, List.setIfInBounds_toArray, List.set_cons_zero, List.set_cons_succ]
    refine wpAnyH_done (by kernel_rfl) ?_ _
    rotate_left 1
    obtain ⟨gb, hgz⟩ : ∃ gb, gb = wk.heap.size := ⟨_, rfl⟩
    obtain ⟨wg, hwg⟩ : ∃ wg, wg = wk.alloc (.cells (madeCells #[.slice none 0 0] m.links.length) 131) := ⟨_, rfl⟩
    have hGg : Blk wg gb (madeCells #[.slice none 0 0] m.links.length) 131 := by rw [hwg, hgz]; exact blk_newP rfl
    have hkg : KeptF (fun _ => False) wk wg := by rw [hwg]; exact ((KeptF.refl _ _).alloc _)
    have hgs1 : gb < wg.heap.size := hGg.lt
    have hge : wk.heap.size ≤ gb := by rw [hgz]; exact Nat.le_refl _
    have hbG : Below w.heap.size w wg := hbK.trans (KeptF.below hkg hbK.size (fun _ e => e.elim))
    have hSg := hSk.keep hkg (fun e => e)
    have hgw : w.heap.size ≤ gb := by rw [hgz]; exact hbK.size
    go_simp
    rw [← hwg, ← hgz]
    clear hgz hwg
    have hMOg := hMO.keep hkg (fun _ _ e => e)
    have hgMF : ∀ k, MF (.slice la ln lc) (.slice ra rn rc) RS k → k ≠ gb := fun k hk e => by have := (hMO.lt hk).2; omega
    refine hK.out _ _ ?_ (fun hHeld => ?_)
    · (try dsimp only)
      assumption
    clear hK K
    try simp only [Act.put, List.setIfInBounds_toArray, List.set_cons_zero, List.set_cons_succ]
    refine wpAnyH_ready (rs := [4]) (by kernel_rfl) (by simp) ?_
    refine consL rfl (fun K hK => ?_) AllReadyH.nil
    have hn1 := newProcs_any wg Bm (.slice ao1 m.links.length cap1) (.slice ao3 R.length cap3) (.slice ao2 m.starts.length cap2) m R en (hM.keep (hbG.mono hBm)) (Nat.le_trans hBm hbG.size) hm
    go_simp
    refine hn1.mono ?_
    rintro en1 wn ⟨pb, ps, rfl, hPr, hSim, hpu, hbn, hC0⟩
    clear hn1
    have hbN : Below w.heap.size w wn := hbG.trans (hbn.mono hbG.size)
    have hSn := hSg.keep (kept_of_below' hbn) (fun e => e)
    have hGn := hGg.keep (kept_of_below' hbn) (fun e => e)
    have hMOn := hMOg.keep (kept_of_below' hbn) (fun _ _ e => e)
    have hB1 : wk.heap.size ≤ wg.heap.size := hkg.size
    obtain ⟨B, hBe⟩ : ∃ B, B = wg.heap.size + 1 := ⟨_, rfl⟩
    rw [← hBe] at hPr
    have hBk : wk.heap.size ≤ B := by omega
    have hwB : w.heap.size ≤ B := Nat.le_trans hbK.size hBk
    have hBg : wg.heap.size < B := by omega
    clear hBe
    have hpgz : ¬ AllF pb ps gb := fun hf => by have h1 := (hPr.lt hf).1; skip; omega
    obtain ⟨wz, hwz⟩ : ∃ wz, wz = wn := ⟨_, rfl⟩
    have hMOz := hMOn
    have hPz := hPr
    have hGz := hGn
    have hbz := hbN
    have hSz := hSn
    rw [← hwz] at hMOz hPz hGz hbz hSz
    rw [← hwz]
    clear hwz
    have hSy := hSz.keep ((KeptF.refl (fun _ => False) wz).alloc (.cells #[.int .i64 m.procs, .int .i64 m.states, .int .i64 m.loads, .slice la ln lc, .slice ra rn rc, .slice none 0 0, .slice (some ⟨pb, 0, none⟩) (np m) (np m), .slice (some ⟨gb, 0, none⟩) m.links.length m.links.length] 119)) (fun e => e)
    go_wp2_with fail
    refine hK.out _ _ ?_ (fun hHeld => ?_)
    · (try dsimp only)
      assumption
    clear hK K
    try simp only [Act.put, List.setIfInBounds_toArray, List.set_cons_zero, List.set_cons_succ]
    refine takeL 9 (v := ?_) rfl (by kernel_rfl) (by kernel_rfl) (by kernel_rfl) (fun _ _ _ h => h) (by rfl) ?_ (by assumption) ?_
    rotate_left
    · intro w hSw
      (try simp only [MC6] at hSw)
      go_simp
      all_goals with_reducible rfl
    try simp only [Act.put, List.setIfInBounds_toArray, List.set_cons_zero, List.set_cons_succ]
    refine wpAnyH_ready (rs := [10]) (by kernel_rfl) (by simp) ?_
    refine consL rfl (fun K hK => ?_) AllReadyH.nil
    go_simp
    refine hK.out _ _ ?_ (fun hHeld => ?_)
    · (try dsimp only)
      assumption
    clear hK K
    try simp only [Act.put, List.setIfInBounds_toArray, List.set_cons_zero, List.set_cons_succ]
    refine wpAnyH_ready (rs := [11]) (by kernel_rfl) (by simp) ?_
    refine consL rfl (fun K hK => ?_) AllReadyH.nil
    go_simp
    refine hK.out _ _ ?_ (fun hHeld => ?_)
    · (try dsimp only)
      assumption
    clear hK K
    try simp only [Act.put, List.setIfInBounds_toArray, List.set_cons_zero, List.set_cons_succ]
    refine wpAnyH_ready (rs := [12]) (by kernel_rfl) (by simp) ?_
    refine consL rfl (fun K hK => ?_) AllReadyH.nil
    go_simp
    refine hK.out _ _ ?_ (fun hHeld => ?_)
    · (try dsimp only)
      assumption
    clear hK K
    try simp only [Act.put, List.setIfInBounds_toArray, List.set_cons_zero, List.set_cons_succ]
    refine wpAnyH_ready (rs := [13]) (by kernel_rfl) (by simp) ?_
    refine consL rfl (fun K hK => ?_) AllReadyH.nil
    go_simp
    refine hK.out _ _ ?_ (fun hHeld => ?_)
    · (try dsimp only)
      assumption
    clear hK K
    try simp only [Act.put, List.setIfInBounds_toArray, List.set_cons_zero, List.set_cons_succ]
    refine wpAnyH_done (by kernel_rfl) ?_ _
    rotate_left 1
    obtain ⟨gb, hgz⟩ : ∃ gb, gb = w1.heap.size := ⟨_, rfl⟩
    obtain ⟨wg, hwg⟩ : ∃ wg, wg = (w1.alloc (.cells (madeCells #[.slice none 0 0] m.links.length) 131)).drew := ⟨_, rfl⟩
    have hGg : Blk wg gb (madeCells #[.slice none 0 0] m.links.length) 131 := by rw [hwg, hgz]; exact (blk_newP rfl : Blk (w1.alloc _) _ _ _).drew
    have hkg : KeptF (fun _ => False) w1.drew wg := by rw [hwg]; exact (⟨rfl, rfl, rfl, by simp, fun k hk _ => Below.heap_alloc w1 _ k hk⟩)
    have hgs1 : gb < wg.heap.size := hGg.lt
    have hge : w1.heap.size ≤ gb := by rw [hgz]; exact Nat.le_refl _
    have hbG : Below w.heap.size w wg := hb1d.trans (KeptF.below hkg hb1d.size (fun _ e => e.elim))
    have hSg := hS1d.keep hkg (fun e => e)
    have hgw : w.heap.size ≤ gb := by rw [hgz]; exact hb1d.size
    go_simp
    rw [← hwg, ← hgz]
    clear hgz hwg
    refine hK.out _ _ ?_ (fun hHeld => ?_)
    · (try dsimp only)
      assumption
    clear hK K
    try simp only [Act.put, List.setIfInBounds_toArray, List.set_cons_zero, List.set_cons_succ]
    refine wpAnyH_ready (rs := [1]) (by kernel_rfl) (by simp) ?_
    refine consL rfl (fun K hK => ?_) AllReadyH.nil
    have hk1 := kept_any wg Bm (.slice ao1 m.links.length cap1) (.slice ao3 R.length cap3) (.slice ao2 m.starts.length cap2) m R (hM.keep (hbG.mono hBm)) (Nat.le_trans hBm hbG.size) hm
    go_simp
    refine hk1.mono ?_
    rintro ek wk ⟨lv1, rv1, RS, rfl, hMO, hbk⟩
    clear hk1
    have hbK : Below w.heap.size w wk := hbG.trans (hbk.mono hbG.size)
    have hSk := hSg.keep (kept_of_below' hbk) (fun e => e)
    obtain ⟨la, ln, lc, hlv⟩ : ∃ a n c, lv1 = .slice a n c := by obtain ⟨a, c, h1, _⟩ := hMO.links.form'; exact ⟨a, _, c, h1⟩
    obtain ⟨ra, rn, rc, hrv⟩ : ∃ a n c, rv1 = .slice a n c := by obtain ⟨a, c, h1, _⟩ := hMO.rules.form'; exact ⟨a, _, c, h1⟩
    subst hlv hrv
    have hGk := hGg.keep (kept_of_below' hbk) (fun e => e)
    have hgMF : ∀ k, MF (.slice la ln lc) (.slice ra rn rc) RS k → k ≠ gb := fun k hk e => by have := (hMO.lt hk).1; omega
    have hMO := ModOwn.low hMO (show w.heap.size ≤ _ from hbG.size)
    go_wp2_with fail
    refine hK.out _ _ ?_ (fun hHeld => ?_)
    · (try dsimp only)
      assumption
    clear hK K
    try simp only [Act.put, List.setIfInBounds_toArray, List.set_cons_zero, List.set_cons_succ]
    refine wpAnyH_ready (rs := [4]) (by kernel_rfl) (by simp) ?_
    refine consL rfl (fun K hK => ?_) AllReadyH.nil
    have hn1 := newProcs_any wk Bm (.slice ao1 m.links.length cap1) (.slice ao3 R.length cap3) (.slice ao2 m.starts.length cap2) m R en (hM.keep (hbK.mono hBm)) (Nat.le_trans hBm hbK.size) hm
    go_simp
    refine hn1.mono ?_
    rintro en1 wn ⟨pb, ps, rfl, hPr, hSim, hpu, hbn, hC0⟩
    clear hn1
    have hbN : Below w.heap.size w wn := hbK.trans (hbn.mono hbK.size)
    have hSn := hSk.keep (kept_of_below' hbn) (fun e => e)
    have hGn := hGk.keep (kept_of_below' hbn) (fun e => e)
    have hMOn := hMO.keep (kept_of_below' hbn) (fun _ _ e => e)
    have hB1 : wk.heap.size ≤ wk.heap.size := Nat.le_refl _
    obtain ⟨B, hBe⟩ : ∃ B, B = wk.heap.size + 1 := ⟨_, rfl⟩
    rw [← hBe] at hPr
    have hBk : wk.heap.size ≤ B := by omega
    have hwB : w.heap.size ≤ B := Nat.le_trans hbK.size hBk
    have hBg : wk.heap.size < B := by omega
    clear hBe
    have hpgz : ¬ AllF pb ps gb := fun hf => by have h1 := (hPr.lt hf).1; have h2 := hGk.lt; omega
    obtain ⟨wz, hwz⟩ : ∃ wz, wz = wn := ⟨_, rfl⟩
    have hMOz := hMOn
    have hPz := hPr
    have hGz := hGn
    have hbz := hbN
    have hSz := hSn
    rw [← hwz] at hMOz hPz hGz hbz hSz
    rw [← hwz]
    clear hwz
    have hSy := hSz.keep ((KeptF.refl (fun _ => False) wz).alloc (.cells #[.int .i64 m.procs, .int .i64 m.states, .int .i64 m.loads, .slice la ln lc, .slice ra rn rc, .slice none 0 0, .slice (some ⟨pb, 0, none⟩) (np m) (np m), .slice (some ⟨gb, 0, none⟩) m.links.length m.links.length] 119)) (fun e => e)
    go_wp2_with fail
    refine hK.out _ _ ?_ (fun hHeld => ?_)
    · (try dsimp only)
      assumption
    clear hK K
    try simp only [Act.put, List.setIfInBounds_toArray, List.set_cons_zero, List.set_cons_succ]
    refine takeL 9 (v := ?_) rfl (by kernel_rfl) (by kernel_rfl) (by kernel_rfl) (fun _ _ _ h => h) (by rfl) ?_ (by assumption) ?_
    rotate_left
    · intro w hSw
      (try simp only [MC6] at hSw)
      go_simp
      all_goals with_reducible rfl
    try simp only [Act.put, List.setIfInBounds_toArray, List.set_cons_zero, List.set_cons_succ]
    refine wpAnyH_ready (rs := [10]) (by kernel_rfl) (by simp) ?_
    refine consL rfl (fun K hK => ?_) AllReadyH.nil
    go_simp
    refine hK.out _ _ ?_ (fun hHeld => ?_)
    · (try dsimp only)
      assumption
    clear hK K
    try simp only [Act.put, List.setIfInBounds_toArray, List.set_cons_zero, List.set_cons_succ]
    refine wpAnyH_ready (rs := [11]) (by kernel_rfl) (by simp) ?_
    refine consL rfl (fun K hK => ?_) AllReadyH.nil
    go_simp
    refine hK.out _ _ ?_ (fun hHeld => ?_)
    · (try dsimp only)
      assumption
    clear hK K
    try simp only [Act.put, List.setIfInBounds_toArray, List.set_cons_zero, List.set_cons_succ]
    refine wpAnyH_ready (rs := [12]) (by kernel_rfl) (by simp) ?_
    refine consL rfl (fun K hK => ?_) AllReadyH.nil
    go_simp
    refine hK.out _ _ ?_ (fun hHeld => ?_)
    · (try dsimp only)
      assumption
    clear hK K
    try simp only [Act.put, List.setIfInBounds_toArray, List.set_cons_zero, List.set_cons_succ]
    refine wpAnyH_ready (rs := [13]) (by kernel_rfl) (by simp) ?_
    refine consL rfl (fun K hK => ?_) AllReadyH.nil
    go_simp
    refine hK.out _ _ ?_ (fun hHeld => ?_)
    · (try dsimp only)
      assumption
    clear hK K
    try simp only [Act.put, List.setIfInBounds_toArray, List.set_cons_zero, List.set_cons_succ]
    refine wpAnyH_done (by kernel_rfl) ?_ _
    rotate_left 1
    all_goals
      have hkx : KeptF (fun _ => False) wz (wz.alloc (.cells #[.int .i64 m.procs, .int .i64 m.states, .int .i64 m.loads, .slice la ln lc, .slice ra rn rc, .slice none 0 0, .slice (some ⟨pb, 0, none⟩) (np m) (np m), .slice (some ⟨gb, 0, none⟩) m.links.length m.links.length] 119)) := (KeptF.refl _ wz).alloc _
      have hNx : Blk (wz.alloc (.cells #[.int .i64 m.procs, .int .i64 m.states, .int .i64 m.loads, .slice la ln lc, .slice ra rn rc, .slice none 0 0, .slice (some ⟨pb, 0, none⟩) (np m) (np m), .slice (some ⟨gb, 0, none⟩) m.links.length m.links.length] 119)) wz.heap.size #[.int .i64 m.procs, .int .i64 m.states, .int .i64 m.loads, .slice la ln lc, .slice ra rn rc, .slice none 0 0, .slice (some ⟨pb, 0, none⟩) (np m) (np m), .slice (some ⟨gb, 0, none⟩) m.links.length m.links.length] 119 := heap_alloc_new wz _
      have hbf : Below w.heap.size w (wz.alloc (.cells #[.int .i64 m.procs, .int .i64 m.states, .int .i64 m.loads, .slice la ln lc, .slice ra rn rc, .slice none 0 0, .slice (some ⟨pb, 0, none⟩) (np m) (np m), .slice (some ⟨gb, 0, none⟩) m.links.length m.links.length] 119)) := hbz.alloc hbz.size _
      have hnet := net_open (en := en) (hMOz.keep hkx (fun _ _ e => e)) (fun k hk => ⟨(hMO.lt hk).2, hgMF k hk⟩) hBk hwB hgw (hPz.grow hkx) hSim hC0 (hGz.keep hkx (fun e => e)) hpgz hNx (Nat.le_trans hPz.low (Nat.le_of_lt hPz.arr.lt)) (fun e => by have := hGz.lt; omega) (fun hf => by have := (hPz.lt hf).2; omega)
      have Hnet : Hid (NetAt (wz.alloc (.cells #[.int .i64 m.procs, .int .i64 m.states, .int .i64 m.loads, .slice la ln lc, .slice ra rn rc, .slice none 0 0, .slice (some ⟨pb, 0, none⟩) (np m) (np m), .slice (some ⟨gb, 0, none⟩) m.links.length m.links.length] 119)) wz.heap.size m en (openN m) ⟨w.heap.size, wk.heap.size, B, .slice la ln lc, .slice ra rn rc, RS, pb, ps, gb, List.replicate m.links.length (.slice none 0 0)⟩) := hnet
      clear hnet hmk
      go_wp2
      go_ret3
      exact ⟨hbf, .inr ⟨Ha.out, _, _, rfl, Hnet.out, rfl⟩⟩
  · have hne0 : (answer m en).1 ≠ 0 := by
      intro e
      apply ha
      unfold answer at e ⊢
      split at e
      · rename_i hv
        rw [if_pos hv]
        split at e
        · rename_i hf; rw [if_pos hf]
        · cases e
      · rename_i hv; exact absurd (valid_zero e) hv
    have Ha : Hid (answer m en ≠ (0, 0)) := ha
    clear ha
    go_wp2
    go_ret3
    exact ⟨hbl1, .inl ⟨Ha.out, rfl⟩⟩

end Go.Proofs.Ytkobkilfbbalaaa

namespace Go.Proofs.Ytkobkilfbbalaaa
open Go.RowKit Go.Sort Go.Maps

theorem Own.rowsB {α : Type} {E : Enc α} {w : World} {B : Nat} {v : Value} {l : List α} (h : Own E w B v l) : RowsAt E.sz E.enc w w.heap.size v l := by
  rcases h.form with ⟨h1, h2⟩ | ⟨g, cap, h1, h2⟩
  · subst h1 h2; exact ⟨none, 0, rfl, Nat.le_refl _, fun e => absurd rfl e⟩
  · subst h1; exact (h.rowsIn cap h2).at

set_option maxRecDepth 100000 in
set_option maxHeartbeats 2000000 in
theorem one_any (x : Dn) (w : World) : Calls Try.prog 65 #[.agg #[.int .i64 x.it.t, .int .i64 x.it.f, .int .i64 x.it.s, .int .i64 x.it.l, .int .i64 x.st], .agg #[.int .i64 x.it.t, .int .i64 x.it.f, .int .i64 x.it.s, .int .i64 x.it.l, .int .i64 x.st]] w fun e w' => e = .returned (.bool true) ∧ Below w.heap.size w w' := by
  have hB0 : Below w.heap.size w ((w.alloc (.cells #[.int .i64 x.it.t, .int .i64 x.it.f, .int .i64 x.it.s, .int .i64 x.it.l, .int .i64 x.st] 113)).alloc (.cells #[.int .i64 x.it.t, .int .i64 x.it.f, .int .i64 x.it.s, .int .i64 x.it.l, .int .i64 x.st] 127)) := ((Below.refl _ _).alloc (Nat.le_refl _) _).alloc (by simp) _
  go_enter Try.func65, Try.ntmps65
  go_wp2
  go_ret
  exact ⟨rfl, hB0⟩

set_option maxRecDepth 100000 in
set_option maxHeartbeats 4000000 in
theorem begins_any (w : World) (B : Nat) (va vb : Value) (l : List Dn) (ha : RowsAt 5 dnC w B va l) (hb : RowsAt 5 dnC w B vb l) (hB : B ≤ w.heap.size) (hl : l.length ≤ 5000) :
    Calls Try.prog 37 #[va, vb] w fun e w' => e = .returned (.bool true) ∧ Below w.heap.size w w' := by
  obtain ⟨aoa, capa, rfl, hcapa⟩ := RowsAt.form ha
  obtain ⟨aob, capb, rfl, hcapb⟩ := RowsAt.form hb
  go_enter Try.func37, Try.ntmps37
  go_wp2
  go_loopw [5] (fun s5 wr => ∃ i : Nat, s5 = .int .i64 i ∧ i ≤ l.length ∧ Below w.heap.size w wr) (fun s5 _ => l.length - (intOf s5).toNat)
  case atStart => exact ⟨0, rfl, Nat.zero_le _, Below.refl _ _⟩
  case round =>
    obtain ⟨i, rfl, hi, hbw⟩ := hrel
    by_cases hlt : i < l.length
    · obtain ⟨x, hx⟩ := get_of_lt hlt
      obtain ⟨ba, oa, haa, hbaB, hca⟩ := RowsAt.at_ (ha.keep (hbw.mono hB)) hx
      obtain ⟨bb, ob, hab, hbbB, hcb⟩ := RowsAt.at_ (hb.keep (hbw.mono hB)) hx
      subst haa hab
      have a0 := cell_regrown (hca 0 (.int .i64 x.it.t) rfl)
      have a1 := cell_regrown (hca 1 (.int .i64 x.it.f) rfl)
      have a2 := cell_regrown (hca 2 (.int .i64 x.it.s) rfl)
      have a3 := cell_regrown (hca 3 (.int .i64 x.it.l) rfl)
      have a4 := cell_regrown (hca 4 (.int .i64 x.st) rfl)
      have c0 := cell_regrown (hcb 0 (.int .i64 x.it.t) rfl)
      have c1 := cell_regrown (hcb 1 (.int .i64 x.it.f) rfl)
      have c2 := cell_regrown (hcb 2 (.int .i64 x.it.s) rfl)
      have c3 := cell_regrown (hcb 3 (.int .i64 x.it.l) rfl)
      have c4 := cell_regrown (hcb 4 (.int .i64 x.st) rfl)
      simp only [Nat.add_zero] at a0 c0
      have hone : ∀ q : Regrown, Calls Try.prog 65 #[.agg #[.int .i64 x.it.t, .int .i64 x.it.f, .int .i64 x.it.s, .int .i64 x.it.l, .int .i64 x.st], .agg #[.int .i64 x.it.t, .int .i64 x.it.f, .int .i64 x.it.s, .int .i64 x.it.l, .int .i64 x.st]] (grow (redrawn wr q.d) q.os) fun e' w'' => e' = .returned (.bool true) ∧ ∃ q : Regrown, w'' = grow (redrawn wr q.d) q.os := fun q => Calls.regrown_of (one_any x _)
      have hil : (i : Int) < l.length := by omega
      clear hca hcb hx
      go_upto_region 6 with fail
      refine wp_region_quiet_below (by kernel_rfl) (by kernel_rfl) ?_
      repeat (quiet_step (exact hone _))
      refine wpQuiet_nil ?_
      intro wq hw'
      have hbq := below_of_regrown hw'
      clear hw' a0 a1 a2 a3 a4 c0 c1 c2 c3 c4 hone
      go_wp2
      go_roundw
      case rel => exact ⟨i + 1, by go_num, hlt, hbw.trans (hbq.mono hbw.size)⟩
      case measure => simp [intOf]; omega
    · go_wp2
      go_ret
      exact ⟨rfl, hbw⟩

end Go.Proofs.Ytkobkilfbbalaaa

namespace Go.Proofs.Ytkobkilfbbalaaa
open Go.RowKit Go.Sort Go.Maps

/-- rows that are read, in a block from lo on, below hi -/
def RowsW {α : Type} (sz : Nat) (enc : α → List Value) (lo hi : Nat) (w : World) (v : Value) (l : List α) : Prop :=
  ∃ ao cap, v = .slice ao l.length cap ∧ l.length ≤ cap ∧ (l ≠ [] → ∃ b off, ao = some ⟨b, off, none⟩ ∧ lo ≤ b ∧ b < hi ∧ ∀ (j : Nat) (x : α) (k : Nat) (u : Value), l[j]? = some x → (enc x)[k]? = some u → w.cell? ⟨b, off + j * sz + k, none⟩ = some u)
theorem RowsW.keep {α : Type} {sz : Nat} {enc : α → List Value} {lo hi : Nat} {w w' : World} {v : Value} {l : List α} {F : Nat → Prop} (h : RowsW sz enc lo hi w v l) (k : KeptF F w w') (hh : hi ≤ w.heap.size) (hF : ∀ i, lo ≤ i → i < hi → ¬ F i) : RowsW sz enc lo hi w' v l := by
  obtain ⟨ao, cap, h1, h2, h3⟩ := h
  refine ⟨ao, cap, h1, h2, fun hne => ?_⟩
  obtain ⟨b, off, h4, h5, h6, h7⟩ := h3 hne
  exact ⟨b, off, h4, h5, h6, fun j x k' u hx hu => by rw [k.cell (p := ⟨b, _, none⟩) (by exact Nat.lt_of_lt_of_le h6 hh) (hF b h5 h6)]; exact h7 j x k' u hx hu⟩
theorem RowsW.at {α : Type} {sz : Nat} {enc : α → List Value} {lo hi : Nat} {w : World} {v : Value} {l : List α} (h : RowsW sz enc lo hi w v l) (hh : hi ≤ w.heap.size) : RowsAt sz enc w w.heap.size v l := by
  obtain ⟨ao, cap, h1, h2, h3⟩ := h
  refine ⟨ao, cap, h1, h2, fun hne => ?_⟩
  obtain ⟨b, off, h4, h5, h6, h7⟩ := h3 hne
  exact ⟨b, off, h4, by omega, h7⟩
theorem Own.rowsW {α : Type} {E : Enc α} {w : World} {B : Nat} {v : Value} {l : List α} (h : Own E w B v l) : RowsW E.sz E.enc B w.heap.size w v l := by
  rcases h.form with ⟨h1, h2⟩ | ⟨g, cap, h1, h2⟩
  · subst h1 h2; exact ⟨none, 0, rfl, Nat.le_refl _, fun e => absurd rfl e⟩
  · subst h1
    refine ⟨_, _, rfl, h2, fun _ => ⟨g, 0, rfl, (h.lt rfl).1, (h.lt rfl).2, fun j x k u hx hu => ?_⟩⟩
    rw [Nat.zero_add]
    exact h.cell hx hu

/-- what is read of a course: all that happens -/
structure CRd (w : World) (lo hi cb db kb : Nat) (lv rv sv : Value) (m : Mdl) (D C : List Value) (c : Cs) : Prop where
  blk : ∃ b : Array Value, Blk w cb b 73 ∧ b[0]? = some (.int .i64 m.procs) ∧ b[3]? = some lv ∧ b[9]? = some (.slice (some ⟨db, 0, none⟩) (np m) (np m)) ∧ b[10]? = some (.slice (some ⟨kb, 0, none⟩) (np m) (np m)) ∧ b[11]? = some (.int .i64 (c.all : Int))
  dn : Blk w db D.toArray 74
  ca : Blk w kb C.toArray 55
  dl : D.length = np m
  cl : C.length = np m
  dns : ∀ (p : Nat) (v : Value) (l : List Dn), D[p]? = some v → c.done[p]? = some l → RowsW 5 dnC lo hi w v l
  cas : ∀ (p : Nat) (v : Value) (l : List Int), C[p]? = some v → c.causes[p]? = some l → RowsW 1 (fun x => [.int .i64 x]) lo hi w v l
  lc : lo ≤ cb ∧ cb < hi
  ld : lo ≤ db ∧ db < hi
  lk : lo ≤ kb ∧ kb < hi
  hi : hi ≤ w.heap.size
theorem CRd.keep {F : Nat → Prop} {w w' : World} {lo hi cb db kb : Nat} {lv rv sv : Value} {m : Mdl} {D C : List Value} {c : Cs} (h : CRd w lo hi cb db kb lv rv sv m D C c) (k : KeptF F w w') (hF : ∀ i, lo ≤ i → i < hi → ¬ F i) : CRd w' lo hi cb db kb lv rv sv m D C c := by
  obtain ⟨b, h1, h2⟩ := h.blk
  exact ⟨⟨b, h1.keep k (hF _ h.lc.1 h.lc.2), h2⟩, h.dn.keep k (hF _ h.ld.1 h.ld.2), h.ca.keep k (hF _ h.lk.1 h.lk.2), h.dl, h.cl, fun p v l hv hl => (h.dns p v l hv hl).keep k h.hi hF, fun p v l hv hl => (h.cas p v l hv hl).keep k h.hi hF, h.lc, h.ld, h.lk, Nat.le_trans h.hi k.size⟩
theorem CAt.rd {w : World} {B cb : Nat} {lv rv sv : Value} {m : Mdl} {wv : Value} {sb qb db kb : Nat} {D C : List Value} {c : Cs} (h : CAt w B cb lv rv sv m wv sb qb db kb D C c) : CRd w B w.heap.size cb db kb lv rv sv m D C c :=
  ⟨⟨_, h.blk, rfl, rfl, rfl, rfl, rfl⟩, h.dn, h.ca, h.dl, h.cl, fun p v l hv hl => (h.dns p v l hv hl).rowsW, fun p v l hv hl => (h.cas p v l hv hl).rowsW, ⟨h.lc, h.blk.lt⟩, ⟨h.ld, h.dn.lt⟩, ⟨h.lk, h.ca.lt⟩, Nat.le_refl _⟩

set_option maxRecDepth 100000 in
set_option maxHeartbeats 4000000 in
theorem begins_pre (w : World) (B : Nat) (va vb : Value) (l l2 : List Dn) (ha : RowsAt 5 dnC w B va l) (hb : RowsAt 5 dnC w B vb l2) (hB : B ≤ w.heap.size) (hl : l.length ≤ 5000) (hl2 : l.length ≤ l2.length) (hp : ∀ (i : Nat) (x : Dn), l[i]? = some x → l2[i]? = some x) :
    Calls Try.prog 37 #[va, vb] w fun e w' => e = .returned (.bool true) ∧ Below w.heap.size w w' := by
  obtain ⟨aoa, capa, rfl, hcapa⟩ := RowsAt.form ha
  obtain ⟨aob, capb, rfl, hcapb⟩ := RowsAt.form hb
  go_enter Try.func37, Try.ntmps37
  have hd : decide (l2.length < l.length) = false := by simp; omega
  have hll : ∀ i : Nat, i < l.length → i < l2.length := fun i hi => by omega
  go_wp2
  clear hd hl2
  go_loopw [5] (fun s5 wr => ∃ i : Nat, s5 = .int .i64 i ∧ i ≤ l.length ∧ Below w.heap.size w wr) (fun s5 _ => l.length - (intOf s5).toNat)
  case atStart => exact ⟨0, rfl, Nat.zero_le _, Below.refl _ _⟩
  case round =>
    obtain ⟨i, rfl, hi, hbw⟩ := hrel
    by_cases hlt : i < l.length
    · obtain ⟨x, hx⟩ := get_of_lt hlt
      obtain ⟨ba, oa, haa, hbaB, hca⟩ := RowsAt.at_ (ha.keep (hbw.mono hB)) hx
      obtain ⟨bb, ob, hab, hbbB, hcb⟩ := RowsAt.at_ (hb.keep (hbw.mono hB)) (hp i x hx)
      subst haa hab
      have a0 := cell_regrown (hca 0 (.int .i64 x.it.t) rfl)
      have a1 := cell_regrown (hca 1 (.int .i64 x.it.f) rfl)
      have a2 := cell_regrown (hca 2 (.int .i64 x.it.s) rfl)
      have a3 := cell_regrown (hca 3 (.int .i64 x.it.l) rfl)
      have a4 := cell_regrown (hca 4 (.int .i64 x.st) rfl)
      have c0 := cell_regrown (hcb 0 (.int .i64 x.it.t) rfl)
      have c1 := cell_regrown (hcb 1 (.int .i64 x.it.f) rfl)
      have c2 := cell_regrown (hcb 2 (.int .i64 x.it.s) rfl)
      have c3 := cell_regrown (hcb 3 (.int .i64 x.it.l) rfl)
      have c4 := cell_regrown (hcb 4 (.int .i64 x.st) rfl)
      simp only [Nat.add_zero] at a0 c0
      have hone : ∀ q : Regrown, Calls Try.prog 65 #[.agg #[.int .i64 x.it.t, .int .i64 x.it.f, .int .i64 x.it.s, .int .i64 x.it.l, .int .i64 x.st], .agg #[.int .i64 x.it.t, .int .i64 x.it.f, .int .i64 x.it.s, .int .i64 x.it.l, .int .i64 x.st]] (grow (redrawn wr q.d) q.os) fun e' w'' => e' = .returned (.bool true) ∧ ∃ q : Regrown, w'' = grow (redrawn wr q.d) q.os := fun q => Calls.regrown_of (one_any x _)
      have hil : (i : Int) < l.length := by omega
      have hil2 : (i : Int) < l2.length := by have := hll i hlt; omega
      clear hca hcb hx hll
      go_upto_region 6 with fail
      refine wp_region_quiet_below (by kernel_rfl) (by kernel_rfl) ?_
      repeat (quiet_step (exact hone _))
      refine wpQuiet_nil ?_
      intro wq hw'
      have hbq := below_of_regrown hw'
      clear hw' a0 a1 a2 a3 a4 c0 c1 c2 c3 c4 hone
      go_wp2
      go_roundw
      case rel => exact ⟨i + 1, by go_num, hlt, hbw.trans (hbq.mono hbw.size)⟩
      case measure => simp [intOf]; omega
    · go_wp2
      go_ret
      exact ⟨rfl, hbw⟩

end Go.Proofs.Ytkobkilfbbalaaa

namespace Go.Proofs.Ytkobkilfbbalaaa
open Go.RowKit Go.Sort Go.Maps

theorem answer_no {m : Mdl} {en : Int} (ha : answer m en ≠ (0, 0)) : (answer m en).1 ≠ 0 := by
  intro e
  apply ha
  unfold answer at e ⊢
  split at e
  · rename_i hv
    rw [if_pos hv]
    split at e
    · rename_i hf; rw [if_pos hf]
    · cases e
  · rename_i hv; exact absurd (valid_zero e) hv

set_option maxRecDepth 100000 in
set_option maxHeartbeats 8000000 in
theorem opened_any (w : World) (m : Mdl) (lv rv sv : Value) (R : List RuleV) (Bm : Nat) (en : Int) (h : ModelAt w Bm lv rv sv m R) (hBm : Bm ≤ w.heap.size)
    (b1 : m.links.length * 24 ≤ 140737488351232) (b2 : m.rules.length * 56 ≤ 140737488351232) (b3 : m.starts.length * 24 ≤ 140737488351232) (b4 : ∀ r ∈ m.rules, r.es.length * 24 ≤ 140737488351232) :
    Calls Try.prog 17 #[.agg #[.int .i64 m.procs, .int .i64 m.states, .int .i64 m.loads, lv, rv, sv], .int .i64 en] w fun e w' => Below w.heap.size w w' ∧ ((answer m en ≠ (0, 0) ∧ ∃ pv : Value, e = .returned (.tuple #[.pointer none, pv, .bool true])) ∨ (answer m en = (0, 0) ∧ ∃ (nb : Nat) (V : NV) (k lo cb db kb : Nat) (D C : List Value), e = .returned (.tuple #[.pointer (some ⟨nb, 0, none⟩), .pointer (some ⟨cb, 0, none⟩), .bool true]) ∧ NetAt w' nb m en (openN m) V ∧ CRd w' lo w'.heap.size cb db kb lv rv sv m D C (atK m en k) ∧ k ≤ 300 ∧ nx en (atK m en k).wait = none ∧ (∀ i, NF nb V i → i < lo) ∧ w.heap.size ≤ V.lo ∧ w.heap.size ≤ lo)) := by
  have hne : ∀ r ∈ m.rules, r.es.length ≤ 5864062014634 := fun r hr => by have := b4 r hr; omega
  obtain ⟨ao2, cap2, hsv, hcap2⟩ := RowsAt.form h.starts
  subst hsv
  obtain ⟨ao1, cap1, hlv, hcap1⟩ := RowsAt.form h.links
  subst hlv
  obtain ⟨ao3, cap3, hrv, hcap3⟩ := RowsAt.form h.rules.1
  subst hrv
  obtain ⟨W0, hW0⟩ : ∃ W0, W0 = w.alloc (.cells #[.int .i64 m.procs, .int .i64 m.states, .int .i64 m.loads, .slice ao1 m.links.length cap1, .slice ao3 R.length cap3, .slice ao2 m.starts.length cap2] 26) := ⟨_, rfl⟩
  have HW0 : Hid (W0 = w.alloc (.cells #[.int .i64 m.procs, .int .i64 m.states, .int .i64 m.loads, .slice ao1 m.links.length cap1, .slice ao3 R.length cap3, .slice ao2 m.starts.length cap2] 26)) := hW0
  have hB0 : Below w.heap.size w W0 := by rw [hW0]; exact (Below.refl _ _).alloc (Nat.le_refl _) _
  have hmb : Blk W0 w.heap.size #[.int .i64 m.procs, .int .i64 m.states, .int .i64 m.loads, .slice ao1 m.links.length cap1, .slice ao3 R.length cap3, .slice ao2 m.starts.length cap2] 26 := by rw [hW0]; exact heap_alloc_new w _
  have k0 := Gr.cells (v := .int .i64 m.procs) (hmb.cell 0)
  have k1 := Gr.cells (v := .int .i64 m.states) (hmb.cell 1)
  have k2 := Gr.cells (v := .int .i64 m.loads) (hmb.cell 2)
  have k3 := Gr.cells (v := .slice ao1 m.links.length cap1) (hmb.cell 3)
  have k4 := Gr.cells (v := .slice ao3 R.length cap3) (hmb.cell 4)
  have k5 := Gr.cells (v := .slice ao2 m.starts.length cap2) (hmb.cell 5)
  have hg0 := Gr.refl W0
  have hlm := hmb.lt
  have hmade := made_any m _ _ _ R Bm W0 (h.keep (hB0.mono hBm)) (Nat.le_trans hBm hB0.size) b1 b2 b3 b4
  clear hW0
  go_enter Try.func17, Try.ntmps17
  go_upto_region 1 with fail
  rw [← HW0.out]
  clear HW0
  go_wp2_with fail
  refine hmade.mono ?_
  rintro e1 w1 ⟨lv', rv', sv', R', rfl, hM', g1⟩
  clear hmade
  obtain ⟨a1, c1, hf1, _⟩ := RowsAt.form hM'.links
  obtain ⟨a2, c2, hf2, _⟩ := RowsAt.form hM'.rules.1
  obtain ⟨a3, c3, hf3, _⟩ := RowsAt.form hM'.starts
  subst hf1 hf2 hf3
  have hg1 : Gr W0 (w1.alloc (.cells #[.int .i64 m.procs, .int .i64 m.states, .int .i64 m.loads, (.slice a1 m.links.length c1), (.slice a2 R'.length c2), (.slice a3 m.starts.length c3)] 31)) := Gr.alloc (W0 := W0) g1 _
  have hbA : Below w1.heap.size w1 (w1.alloc (.cells #[.int .i64 m.procs, .int .i64 m.states, .int .i64 m.loads, (.slice a1 m.links.length c1), (.slice a2 R'.length c2), (.slice a3 m.starts.length c3)] 31)) := (Below.refl _ _).alloc (Nat.le_refl _) _
  have hck := open_any (w1.alloc (.cells #[.int .i64 m.procs, .int .i64 m.states, .int .i64 m.loads, (.slice a1 m.links.length c1), (.slice a2 R'.length c2), (.slice a3 m.starts.length c3)] 31)) w1.heap.size (.slice a1 m.links.length c1) (.slice a2 R'.length c2) (.slice a3 m.starts.length c3) m R' en (hM'.keep hbA) hbA.size hne
  go_wp2_with fail
  refine hck.mono ?_
  rintro e2 w2 ⟨g2, hcase⟩
  clear hck
  have hg2 : Gr W0 w2 := Gr.trans hg1 g2
  have hbw2 : Below w.heap.size w w2 := Gr.below hg2 hB0
  have hrf := refCheck_any m _ _ _ R Bm en w2 (h.keep (hbw2.mono hBm)) (Nat.le_trans hBm hbw2.size) hne
  have hszA : w.heap.size ≤ (w1.alloc (.cells #[.int .i64 m.procs, .int .i64 m.states, .int .i64 m.loads, (.slice a1 m.links.length c1), (.slice a2 R'.length c2), (.slice a3 m.starts.length c3)] 31)).heap.size := Nat.le_trans hB0.size hg1.size
  rcases hcase with ⟨ha, rfl⟩ | ⟨ha, nb, V, rfl, hN, hlo⟩
  · have h1 := answer_no ha
    have Ha : Hid (answer m en ≠ (0, 0)) := ha
    clear ha
    obtain ⟨an, han⟩ : ∃ an, an = answer m en := ⟨_, rfl⟩
    rw [← han] at hrf h1 ⊢
    clear han
    go_wp2_with fail
    refine hrf.mono ?_
    rintro e3 w3 ⟨pv, rfl, g3, -⟩
    clear hrf
    have hbw3 : Below w.heap.size w w3 := hbw2.trans (g3.mono hbw2.size)
    have hnum := num_any an.1 w3
    go_wp2_with (go_at_call 13; refine hnum.mono ?_; rintro e4 w4 ⟨rfl, rfl⟩)
    go_ret3
    refine ⟨hbw3, .inl ⟨Ha.out, pv, ?_⟩⟩
    simp [h1]
  · have Ha : Hid (answer m en = (0, 0)) := ha
    rw [ha] at hrf
    clear ha
    go_wp2_with fail
    refine hrf.mono ?_
    rintro e3 w3 ⟨pv, rfl, g3, hC⟩
    clear hrf
    obtain ⟨B', cb, k', wv, sb', qb, db, kb, D, C, rfl, hB', hk', hnx, hC⟩ := hC trivial
    have hbw3 : Below w.heap.size w w3 := hbw2.trans (g3.mono hbw2.size)
    have hnum := num_any 0 w3
    have hN3 := hN.grow (kept_of_below' g3)
    clear k0 k1 k2 k3 k4 k5
    go_wp2_with (go_at_call 13; refine hnum.mono ?_; rintro e4 w4 ⟨rfl, hw4⟩; rw [hw4]; clear hw4)
    go_ret3
    exact ⟨hbw3, .inr ⟨Ha.out, nb, V, k', B', cb, db, kb, D, C, rfl, hN3, hC.rd, hk', hnx, fun i hi => Nat.lt_of_lt_of_le (hN.lt hi).2 hB', by rw [hlo]; exact hszA, Nat.le_trans hbw2.size hB'⟩⟩

/-- what happens in all, as a course that is read tells it -/
structure Tells (m : Mdl) (en : Int) (k : Nat) : Prop where
  hm : Right m
  hen0 : 0 ≤ en
  hen : en ≤ 200
  nx : nx en (atK m en k).wait = none
  le : k ≤ 300
def FK (m : Mdl) (en : Int) (k : Nat) : Nat → List It := itsOf (atK m en k)
def CK (m : Mdl) (en : Int) (k : Nat) : Nat → List Int := fun p => (atK m en k).causes.getD p []
theorem Tells.all (m : Mdl) (en : Int) : ∀ k, (atK m en k).all ≤ k
  | 0 => Nat.le_refl _
  | k + 1 => by
    have ih := Tells.all m en k
    show (stepF m en (atK m en k)).all ≤ k + 1
    unfold stepF
    split
    · omega
    · split
      · omega
      · rw [doEv_all]; omega
theorem Tells.hist {m : Mdl} {en : Int} {k : Nat} (T : Tells m en k) {p : Nat} (hp : p < np m) : (atK m en k).done[p]? = some (hist m (p : Int) (FK m en k p)) := (G_atK T.hm T.hen k).hs p hp
theorem Tells.sum {m : Mdl} {en : Int} {k : Nat} (T : Tells m en k) : sumN ((List.range (np m)).map (fun p => (FK m en k p).length)) = (atK m en k).all := by
  have hI := atK_inv T.hm T.hen k
  rw [all_sum T.hm T.hen k]
  congr 1
  apply List.ext_getElem?
  intro i
  rw [List.getElem?_map, List.getElem?_map]
  by_cases hi : i < np m
  · rw [List.getElem?_range hi, T.hist hi]
    simp only [Option.map_some, hist_length]
  · rw [List.getElem?_eq_none (by simpa using hi), List.getElem?_eq_none (by rw [hI.ld]; omega)]
    rfl
theorem Tells.env {m : Mdl} {en : Int} {k : Nat} (T : Tells m en k) : Env m en (FK m en k) (CK m en k) := by
  refine ⟨T.hm, T.hen0, T.hen, full_atK T.hm T.hen T.nx, fun p _ => its_pos T.hm T.hen k p, ?_⟩
  rw [T.sum]
  exact Nat.le_trans (Tells.all m en k) T.le

set_option maxRecDepth 100000 in
set_option maxHeartbeats 8000000 in
theorem lists_any (w : World) (nb lo hi cb db kb : Nat) (lv rv sv : Value) (m : Mdl) (en : Int) (k : Nat) (D C : List Value) (N : Nat → Nat) (s : NS) (V : NV) (T : Tells m en k) (h : NetAt w nb m en s V) (hG : Good m en (FK m en k) N s) (hC : CRd w lo hi cb db kb lv rv sv m D C (atK m en k)) :
    Calls Try.prog 18 #[.pointer (some ⟨nb, 0, none⟩), .pointer (some ⟨cb, 0, none⟩)] w fun e w' => Below w.heap.size w w' ∧ ∃ v : Value, e = .returned (.tuple #[v, .bool true]) ∧ Own inE w' w.heap.size v ((List.range (np m)).map (fun p => (N p : Int))) := by
  have hp1 := T.hm.lim.p1
  have hp2 := T.hm.lim.p2
  obtain ⟨n, hn⟩ : ∃ n : Nat, m.procs = (n : Int) := ⟨m.procs.toNat, by omega⟩
  have hnp : np m = n := by unfold np; omega
  have Hnp : Hid (np m = n) := hnp
  have hn6 : n ≤ 6 := by omega
  obtain ⟨cc, hcb, hc0, hc3, hc9, hc10, hc11⟩ := hC.blk
  have c0 : w.cell? ⟨cb, 0, none⟩ = some (.int .i64 (n : Int)) := by rw [hcb.cell, hc0, hn]
  have c9 : w.cell? ⟨cb, 9, none⟩ = some (.slice (some ⟨db, 0, none⟩) n n) := by rw [hcb.cell, hc9, hnp]
  have hlc := hcb.lt
  obtain ⟨i0, hi0, hz0, hz1, hz2⟩ := info_parts info_in
  rw [hnp]
  clear hn hnp hc0 hc3 hc9 hc10 hc11
  go_enter Try.func18, Try.ntmps18
  go_wp2
  go_loopw [6, 7] (fun s6 s7 wr => ∃ (p : Nat) (v : Value), s6 = v ∧ s7 = .int .i64 p ∧ p ≤ n ∧ Own inE wr w.heap.size v ((List.range p).map (fun p => (N p : Int))) ∧ Below w.heap.size w wr) (fun _ s7 _ => n - (intOf s7).toNat)
  case atStart => exact ⟨0, _, rfl, rfl, Nat.zero_le _, Own.nil _ _ _, Below.refl _ _⟩
  case round =>
    obtain ⟨p, v, rfl, rfl, hp, hO, hbl⟩ := hrel
    have d0 : wr.cell? ⟨cb, 0, none⟩ = some (.int .i64 (n : Int)) := (hbl.cell (p := ⟨cb, 0, none⟩) hlc).trans c0
    have hlcr : cb < wr.heap.size := block_lt_of_cell d0
    by_cases hlt : p < n
    · have hNr := h.grow (kept_of_below' hbl)
      have hpn : p < np m := by rw [Hnp.out]; exact hlt
      obtain ⟨a, ha⟩ := get_of_lt (d := s.ps) (k := p) (by rw [h.slen]; exact hpn)
      have hdn : ∀ (i : Nat) (b : NP), s.ps[i]? = some b → b.dn.length ≤ 5000 := fun i b hb => by have := hG.1.waits_len T.env hb; omega
      have hsee := see_any wr nb m en s V (p : Int) hNr T.hm hdn
      have hpm : (p : Int) < m.procs := by unfold np at hpn; omega
      have hst := hG.1.state ha
      have hdone := hG.1.done ha
      have hdl := hG.1.dn_len ha
      have hdl5 := hdn p a ha
      have hhist := T.hist hpn
      have hbeg : ∀ (i : Nat) (x : Dn), a.dn[i]? = some x → (hist m (p : Int) (FK m en k p))[i]? = some x := fun i x hx => by
        rw [hdone] at hx
        exact (take_get.1 hx).2
      have hle2 : a.dn.length ≤ (hist m (p : Int) (FK m en k p)).length := by rw [hdone, List.length_take]; omega
      obtain ⟨u, hu⟩ := get_of_lt (d := D) (k := p) (by rw [hC.dl]; exact hpn)
      have hCr := hC.keep (kept_of_below' hbl) (fun _ _ _ e => e)
      have Ha : Hid (s.ps[p]? = some a) := ha
      clear ha hdone
      go_wp2_with fail
      refine hsee.mono ?_
      rintro e1 w1 ⟨hb1, ⟨hf, -⟩ | ⟨-, -, a', ao, cap, ha', rfl, hrow⟩⟩
      · exfalso
        have := isP_iff.2 ⟨(by omega : (0 : Int) ≤ (p : Int)), hpm⟩
        rw [this] at hf; cases hf
      · clear hsee
        have haa : a' = a := by
          have h1 := Ha.out
          rw [Int.toNat_natCast] at ha'
          rw [h1] at ha'; cases ha'; rfl
        subst haa
        clear ha'
        have hC1 := hCr.keep (kept_of_below' hb1) (fun _ _ _ e => e)
        have hbw1 : Below w.heap.size w w1 := hbl.trans (hb1.mono hbl.size)
        have hO1 := hO.keep (kept_of_below' hb1) (fun _ _ e => e)
        have e9 : w1.cell? ⟨cb, 9, none⟩ = some (.slice (some ⟨db, 0, none⟩) n n) := (hbw1.cell (p := ⟨cb, 9, none⟩) hlc).trans c9
        have hru := (hC1.dns p u _ hu hhist).at hC1.hi
        obtain ⟨au, cu, huf, _⟩ := RowsAt.form hru
        have eu : w1.cell? ⟨db, p, none⟩ = some (.slice au (hist m (p : Int) (FK m en k p)).length cu) := by rw [hC1.dn.cell, List.getElem?_toArray, hu, huf]
        have hra := hrow.at
        have hbegin := begins_pre w1 w1.heap.size _ u a'.dn _ hra hru (Nat.le_refl _) hdl5 hle2 hbeg
        rw [huf] at hbegin
        have hl1 : cb < w1.heap.size := block_lt_of_cell e9
        have hl2 : db < w1.heap.size := block_lt_of_cell eu
        have hpl : (p : Int) < (n : Int) := by omega
        have HN : Hid (a'.dn.length = N p) := hdl
        clear hdl hle2 hbeg huf hhist hru hu
        go_wp2_with fail
        refine hbegin.mono ?_
        rintro e2 w2 ⟨rfl, hb2⟩
        clear hbegin e9 eu
        have hbw2 : Below w.heap.size w w2 := hbw1.trans (hb2.mono hbw1.size)
        have hO2 := hO1.keep (kept_of_below' hb2) (fun _ _ e => e)
        have hra2 := hra.keep hb2
        clear hra hrow hO1 hO hC1 hCr
        rcases hst with ⟨hd0, hs0⟩ | ⟨l0, d, hd0, hs0⟩
        · have hLn : a'.dn.length = 0 := by rw [hd0]; rfl
          have HLn : Hid (0 = N p) := by show _ = _; rw [← HN.out, hLn]
          rw [hLn, hs0]
          clear hLn hd0 hs0 hra2
          have hcc := newCells w2 [.int .i64 (((0 : Nat)) : Int)] 3
          have hone : ∀ u ∈ ([.int .i64 (((0 : Nat)) : Int)] : List Value), u.oneCell' = true := inE.one (((0 : Nat)) : Int)
          have hWW : KeptF (fun _ => False) w2 (w2.alloc (.cells #[.int .i64 (((0 : Nat)) : Int)] 3)) := (KeptF.refl _ w2).alloc _
          have hlen1 : ((List.range p).map (fun p => (N p : Int))).length = p := by simp
          have hown0 : (w2.alloc (.cells #[.int .i64 (((0 : Nat)) : Int)] 3)).ownsRow w.heap.size 3 1 u6 p (flat inE ((List.range p).map (fun p => (N p : Int)))) := by
            have h1 := hO2.keep hWW (fun _ _ e => e)
            unfold Own at h1
            rw [hlen1] at h1
            exact h1
          clear hlen1
          go_wp2_with (at_builtin; (refine wpList_append_ownX rfl (.tmp 62) (.tmp 65) 55 rfl w.heap.size 3 i0 _ 1 8 Try.underlying55 hi0 hz0 hz1 hz2 rfl (by decide) u6 p (flat inE ((List.range p).map (fun p => (N p : Int)))) rfl ?_ ⟨w2.heap.size, 0, none⟩ 1 1 [.int .i64 (((0 : Nat)) : Int)] rfl ?_ ?_ ?_ ?_ ?_ ?_ ?_))
          · exact hown0
          · rfl
          · exact hcc
          · exact hone
          · unfold maxLen; omega
          · omega
          · exact Nat.le_trans hbw2.size hWW.size
          · intro v3 w3 hown3 hgr3 hfr3
            have hK3 : KeptF (fun r => u6.ownBlock = some r) w2 w3 := (hWW.weaken (fun _ _ e => e.elim)).trans (KeptF.of_grown hgr3 (fun k h _ => h))
            have hob : ∀ r, u6.ownBlock = some r → w.heap.size ≤ r := fun r hr => (hO2.lt hr).1
            have hbw3 : Below w.heap.size w w3 := hbw2.trans (KeptF.below hK3 hbw2.size hob)
            have hO3 : Own inE w3 w.heap.size v3 ((List.range (p + 1)).map (fun p => (N p : Int))) := by
              rw [List.range_succ, List.map_append]
              refine Own.snoc (x := (N p : Int)) ?_
              rw [show ((List.range p).map (fun p => (N p : Int))).length = p by simp, show inE.enc (N p : Int) = [.int .i64 (N p : Int)] from rfl, HLn.out.symm]
              exact hown3
            clear hown3 hgr3 hfr3 hown0 hcc hone hWW hO2
            go_wp2
            go_roundw
            case rel => exact ⟨p + 1, v3, rfl, by go_num, hlt, hO3, hbw3⟩
            case measure => simp [intOf]; omega
        · have hLn : a'.dn.length = l0.length + 1 := by rw [hd0]; simp
          have HLn : Hid (l0.length + 1 = N p) := by show _ = _; rw [← HN.out, hLn]
          have hget : a'.dn[l0.length]? = some d := by rw [hd0]; simp
          obtain ⟨bd, od, hbd, _, hcd⟩ := RowsAt.at_ hra2 hget
          subst hbd
          have x4 := hcd 4 (.int .i64 d.st) rfl
          have hlbd : bd < w2.heap.size := block_lt_of_cell x4
          obtain ⟨L, hL⟩ : ∃ L, L = l0.length := ⟨_, rfl⟩
          rw [← hL] at x4 HLn
          have hL5 : L ≤ 5000 := by omega
          rw [hLn, hs0, ← hL]
          clear hLn hd0 hs0 hra2 hget hcd hL hdl5
          have hcc := newCells w2 [.int .i64 (((L + 1 : Nat)) : Int)] 3
          have hone : ∀ u ∈ ([.int .i64 (((L + 1 : Nat)) : Int)] : List Value), u.oneCell' = true := inE.one (((L + 1 : Nat)) : Int)
          have hWW : KeptF (fun _ => False) w2 (w2.alloc (.cells #[.int .i64 (((L + 1 : Nat)) : Int)] 3)) := (KeptF.refl _ w2).alloc _
          have hlen1 : ((List.range p).map (fun p => (N p : Int))).length = p := by simp
          have hown0 : (w2.alloc (.cells #[.int .i64 (((L + 1 : Nat)) : Int)] 3)).ownsRow w.heap.size 3 1 u6 p (flat inE ((List.range p).map (fun p => (N p : Int)))) := by
            have h1 := hO2.keep hWW (fun _ _ e => e)
            unfold Own at h1
            rw [hlen1] at h1
            exact h1
          clear hlen1
          go_wp2_with (at_builtin; (refine wpList_append_ownX rfl (.tmp 62) (.tmp 65) 55 rfl w.heap.size 3 i0 _ 1 8 Try.underlying55 hi0 hz0 hz1 hz2 rfl (by decide) u6 p (flat inE ((List.range p).map (fun p => (N p : Int)))) rfl ?_ ⟨w2.heap.size, 0, none⟩ 1 1 [.int .i64 (((L + 1 : Nat)) : Int)] rfl ?_ ?_ ?_ ?_ ?_ ?_ ?_))
          · exact hown0
          · rfl
          · exact hcc
          · exact hone
          · unfold maxLen; omega
          · omega
          · exact Nat.le_trans hbw2.size hWW.size
          · intro v3 w3 hown3 hgr3 hfr3
            have hK3 : KeptF (fun r => u6.ownBlock = some r) w2 w3 := (hWW.weaken (fun _ _ e => e.elim)).trans (KeptF.of_grown hgr3 (fun k h _ => h))
            have hob : ∀ r, u6.ownBlock = some r → w.heap.size ≤ r := fun r hr => (hO2.lt hr).1
            have hbw3 : Below w.heap.size w w3 := hbw2.trans (KeptF.below hK3 hbw2.size hob)
            have hO3 : Own inE w3 w.heap.size v3 ((List.range (p + 1)).map (fun p => (N p : Int))) := by
              rw [List.range_succ, List.map_append]
              refine Own.snoc (x := (N p : Int)) ?_
              rw [show ((List.range p).map (fun p => (N p : Int))).length = p by simp, show inE.enc (N p : Int) = [.int .i64 (N p : Int)] from rfl, HLn.out.symm]
              exact hown3
            clear hown3 hgr3 hfr3 hown0 hcc hone hWW hO2
            go_wp2
            go_roundw
            case rel => exact ⟨p + 1, v3, rfl, by go_num, hlt, hO3, hbw3⟩
            case measure => simp [intOf]; omega
    · have hpe : p = n := by omega
      subst hpe
      go_wp2
      go_ret2
      exact ⟨hbl, _, rfl, hO⟩

end Go.Proofs.Ytkobkilfbbalaaa

