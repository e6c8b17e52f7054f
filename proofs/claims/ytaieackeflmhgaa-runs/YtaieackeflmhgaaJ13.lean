/-
  The program: a new clock.
  The program: newProcesses.
-/
import Derived.Test.YtaieackeflmhgaaJ12
import Derived.Test.YtaieackeflmhgaaJ08
namespace Go.Proofs.Ytaieackeflmhgaa
open Go.RowKit Go.Sort Go.Maps

theorem info_wy : (Try.prog.info? 203).map (fun i => (i.zero, i.size, i.bytes)) = some (some (.agg #[.int .i64 0, .int .i64 0, .int .i64 0]), 3, 24) := by kernel_rfl

theorem und_wys : Try.prog.underlying 129 = some (.slice 203) := by kernel_rfl

set_option maxRecDepth 100000 in
set_option maxHeartbeats 8000000 in
theorem newClock_any (w : World) (Bm : Nat) (lv rv sv : Value) (m : Mdl) (R : List RuleV) (p en : Int) (hM : ModelAt w Bm lv rv sv m R) (hBm : Bm ≤ w.heap.size) (hm : Right m) :
    Calls Try.prog 93 #[.agg #[.int .i64 m.procs, .int .i64 m.states, .int .i64 m.loads, lv, rv, sv], .int .i64 p, .int .i64 en] w fun e w' => ∃ (hb : Nat) (wv : Value), e = .returned (.agg #[.int .i64 en, .map (some hb), wv]) ∧ HMap w' hb (hear0 m p m.links.length) ∧ Own wyE w' w.heap.size wv (ways0 m p m.links.length) ∧ w.heap.size ≤ hb ∧ wv.ownBlock ≠ some hb ∧ Below w.heap.size w w' := by
  have hmm := @run_makeMap Try.prog
  obtain ⟨ao, cap, hlv, hcap⟩ := RowsAt.form hM.links
  subst hlv
  have hnl := hm.lim.nl
  obtain ⟨i0, hi0, hz0, hz1, hz2⟩ := info_parts info_wy
  obtain ⟨W0, hW0⟩ : ∃ W0, W0 = (((w.alloc (.cells #[.int .i64 m.procs, .int .i64 m.states, .int .i64 m.loads, .slice ao m.links.length cap, rv, sv] 31)).alloc (.cells #[.int .i64 0, .map none, .slice none 0 0] 131)).alloc (.map #[] 0)).alloc (.cells #[.int .i64 en, .map (some (w.heap.size + 1 + 1)), .slice none 0 0] 131) := ⟨_, rfl⟩
  have HW0 : Hid (W0 = (((w.alloc (.cells #[.int .i64 m.procs, .int .i64 m.states, .int .i64 m.loads, .slice ao m.links.length cap, rv, sv] 31)).alloc (.cells #[.int .i64 0, .map none, .slice none 0 0] 131)).alloc (.map #[] 0)).alloc (.cells #[.int .i64 en, .map (some (w.heap.size + 1 + 1)), .slice none 0 0] 131)) := hW0
  have hB0 : Below w.heap.size w W0 := by
    rw [hW0]
    exact KeptF.below (F := fun _ => False) (((((KeptF.refl _ w).alloc _).alloc _).alloc _).alloc _) (Nat.le_refl _) (fun _ e => e.elim)
  have hz : W0.heap.size = w.heap.size + 4 := by rw [hW0]; simp
  have hb0 : Blk W0 w.heap.size #[.int .i64 m.procs, .int .i64 m.states, .int .i64 m.loads, .slice ao m.links.length cap, rv, sv] 31 := by
    rw [hW0]; exact (((Blk.alloc (blk_newP rfl) _).alloc _).alloc _)
  have hb1 : Blk W0 (w.heap.size + 1) #[.int .i64 0, .map none, .slice none 0 0] 131 := by
    rw [hW0]; exact ((Blk.alloc (blk_newP (by simp)) _).alloc _)
  have hb3 : Blk W0 (w.heap.size + 1 + 1 + 1) #[.int .i64 en, .map (some (w.heap.size + 1 + 1)), .slice none 0 0] 131 := by
    rw [hW0]; exact blk_newP (by simp)
  have hmp : HMap W0 (w.heap.size + 1 + 1) (hear0 m p 0) := by
    refine ⟨.map [], ?_, ⟨fun k => ?_, fun k c hk => ?_, fun k c hk => ?_⟩⟩
    · rw [hW0]
      have := World.ownsMap_made (H := Nat) ((w.alloc (.cells #[.int .i64 m.procs, .int .i64 m.states, .int .i64 m.loads, .slice ao m.links.length cap, rv, sv] 31)).alloc (.cells #[.int .i64 0, .map none, .slice none 0 0] 131)) Try.prog 3 (plainElem Try.prog 3)
      rw [show ((w.alloc (.cells #[.int .i64 m.procs, .int .i64 m.states, .int .i64 m.loads, .slice ao m.links.length cap, rv, sv] 31)).alloc (.cells #[.int .i64 0, .map none, .slice none 0 0] 131)).heap.size = w.heap.size + 1 + 1 by simp] at this
      exact (this.mono (by omega)).alloc _
    · rw [hear0_zero]; rfl
    · rw [hear0_zero] at hk; cases hk
    · rw [hear0_zero] at hk; cases hk
  have Hz : Hid (W0.heap.size = w.heap.size + 4) := hz
  clear hW0 hz
  have m3 : W0.cell? ⟨w.heap.size, 3, none⟩ = some (.slice ao m.links.length cap) := hb0.cell 3
  have hl0 := hb0.lt
  go_enter Try.func93, Try.ntmps93
  go_upto_region 2 with fail
  rw [← HW0.out]
  clear hmm
  go_wp2
  clear m3
  go_loopw [16] (fun s16 wr => ∃ (i : Nat) (wv : Value), s16 = .int .i64 i ∧ i ≤ m.links.length ∧ HMap wr (w.heap.size + 1 + 1) (hear0 m p i) ∧ Blk wr (w.heap.size + 1) #[.int .i64 0, .map none, .slice none 0 0] 131 ∧ Blk wr (w.heap.size + 1 + 1 + 1) #[.int .i64 en, .map (some (w.heap.size + 1 + 1)), wv] 131 ∧ Own wyE wr (w.heap.size + 4) wv (ways0 m p i) ∧ Below w.heap.size w wr) (fun s16 _ => m.links.length - (intOf s16).toNat)
  case atStart => exact ⟨0, _, rfl, Nat.zero_le _, hmp, hb1, hb3, Own.nil _ _ _, hB0⟩
  case round =>
    clear hb0 hb1 hb3 hmp hB0 hl0 HW0 Hz
    obtain ⟨i, wv, rfl, hi, hmp, hb1, hb3, hO, hbl⟩ := hrel
    have hl3 := hb3.lt
    obtain ⟨n, hn⟩ : ∃ n, n = (ways0 m p i).length := ⟨_, rfl⟩
    have hn12 : n ≤ 12 := by have := ways0_length m p i; omega
    have Hn : Hid (n = (ways0 m p i).length) := hn
    obtain ⟨aw, cw, hwf, hcw⟩ := hO.form'
    rw [← hn] at hwf hcw
    subst hwf
    clear hn
    by_cases hlt : i < m.links.length
    · obtain ⟨z, hz⟩ := get_of_lt hlt
      obtain ⟨lb, lo, hao, hlbB, hlc⟩ := RowsAt.at_ (hM.keep (hbl.mono hBm)).links hz
      subst hao
      have x0 := hlc 0 (.int .i64 z.f) rfl
      have x1 := hlc 1 (.int .i64 z.t) rfl
      have x2 := hlc 2 (.int .i64 z.a) rfl
      simp only [Nat.add_zero] at x0
      have hzb := hm.link hz
      have Hz : Hid (m.links[i]? = some z) := hz
      have hllb : lb < wr.heap.size := block_lt_of_cell x0
      clear hz hlc
      -- the world with the link laid
      have hlk : Blk (wr.alloc (.cells #[.int .i64 z.f, .int .i64 z.t, .int .i64 z.a] 94)) wr.heap.size #[.int .i64 z.f, .int .i64 z.t, .int .i64 z.a] 94 := heap_alloc_new wr _
      have hKl : KeptF (fun _ => False) wr (wr.alloc (.cells #[.int .i64 z.f, .int .i64 z.t, .int .i64 z.a] 94)) := (KeptF.refl _ wr).alloc _
      have hmp1 := hmp.keep hKl (fun e => e)
      have hb11 := hb1.keep hKl (fun e => e)
      have hb31 := hb3.keep hKl (fun e => e)
      have hO1 := hO.keep hKl (fun _ _ e => e)
      have hbl1 : Below w.heap.size w (wr.alloc (.cells #[.int .i64 z.f, .int .i64 z.t, .int .i64 z.a] 94)) := hbl.alloc hbl.size _
      have hls : (wr.alloc (.cells #[.int .i64 z.f, .int .i64 z.t, .int .i64 z.a] 94)).heap.size = wr.heap.size + 1 := by simp
      have k0 : (wr.alloc (.cells #[.int .i64 z.f, .int .i64 z.t, .int .i64 z.a] 94)).cell? ⟨wr.heap.size, 0, none⟩ = some (.int .i64 z.f) := hlk.cell 0
      have k1 : (wr.alloc (.cells #[.int .i64 z.f, .int .i64 z.t, .int .i64 z.a] 94)).cell? ⟨wr.heap.size, 1, none⟩ = some (.int .i64 z.t) := hlk.cell 1
      have k2 : (wr.alloc (.cells #[.int .i64 z.f, .int .i64 z.t, .int .i64 z.a] 94)).cell? ⟨wr.heap.size, 2, none⟩ = some (.int .i64 z.a) := hlk.cell 2
      have c1 : (wr.alloc (.cells #[.int .i64 z.f, .int .i64 z.t, .int .i64 z.a] 94)).cell? ⟨w.heap.size + 1 + 1 + 1, 1, none⟩ = some (.map (some (w.heap.size + 1 + 1))) := hb31.cell 1
      go_upto_region 5 with fail
      have Hls : Hid ((wr.alloc (.cells #[.int .i64 z.f, .int .i64 z.t, .int .i64 z.a] 94)).heap.size = wr.heap.size + 1) := hls
      clear hls hKl hmp hb1 hb3 hO hbl x0 x1 x2
      generalize (wr.alloc (.cells #[.int .i64 z.f, .int .i64 z.t, .int .i64 z.a] 94)) = Wl at *
      go_upto_if 24 with fail
      go_cut [] (fun wc => HMap wc (w.heap.size + 1 + 1) (hear0 m p (i + 1)) ∧ KeptF (fun r => r = w.heap.size + 1 + 1) Wl wc)
      case first =>
        by_cases ht : z.t = p
        · obtain ⟨D, hown, hD⟩ := hmp1
          have hkey := keyOf_int_mk (P := Try.prog) Try.underlying3 (wf_small (c := (i : Int)) (by omega) (by omega))
          have hcc : 0 ≤ z.a ∧ z.a ≤ 1000 := by omega
          go_wp2_with (at_mapUpdate; refine wpList_mapUpdate_own _ rfl _ _ _ 128 rfl 3 3 key_law Try.underlying128 _ (w.heap.size + 1 + 1) 12 _ rfl hown (by unfold maxLen; omega) _ _ _ rfl rfl hkey _ [] (plainElem_int Try.underlying3 (wf_small hcc.1 hcc.2)) ?_)
          intro w1 hown1 hgrow1
          go_wp2
          go_meet
          case rel =>
            rw [hear0_succ Hz.out, if_pos ht]
            have hput := hD.put hown.isMap (k := (i : Int)) ⟨by omega, by omega⟩ hcc
            exact ⟨⟨_, hown_small hown1 hput, hput⟩, KeptF.of_grown hgrow1 (fun i e _ => by cases e; rfl)⟩
        · go_wp2
          go_meet
          case rel =>
            rw [hear0_succ Hz.out, if_neg ht]
            exact ⟨hmp1, KeptF.refl _ _⟩
      case rest =>
        obtain ⟨hmp2, hK2⟩ := hcut
        have hne : ∀ r, (Value.slice aw n cw).ownBlock = some r → w.heap.size + 4 ≤ r := fun r hr => (hO1.lt hr).1
        have hb12 := hb11.keep hK2 (by omega)
        have hb32 := hb31.keep hK2 (by omega)
        have hlk2 := hlk.keep hK2 (by have := hb31.lt; omega)
        have hO2 := hO1.keep hK2 (fun r hr e => by have := hne r hr; omega)
        have hbl2 : Below w.heap.size w wc := hbl1.trans (KeptF.below hK2 hbl1.size (fun r e => by omega))
        clear k0 k1 k2 c1 hmp1 hb11 hb31 hO1 hbl1
        have k0 : wc.cell? ⟨wr.heap.size, 0, none⟩ = some (.int .i64 z.f) := hlk2.cell 0
        have k2 : wc.cell? ⟨wr.heap.size, 2, none⟩ = some (.int .i64 z.a) := hlk2.cell 2
        have c2 : wc.cell? ⟨w.heap.size + 1 + 1 + 1, 2, none⟩ = some (.slice aw n cw) := hb32.cell 2
        have f2 : wc.frozen? ⟨w.heap.size + 1 + 1 + 1, 2, none⟩ = false := hb32.frozen 2
        have hl1 := hlk2.lt
        have hl2 := hb32.lt
        by_cases hf : z.f = p
        · have Hw : Hid (ways0 m p (i + 1) = ways0 m p i ++ [⟨(i : Int), z.a, -1⟩]) := by
            show _ = _
            rw [ways0_succ]
            unfold way1
            rw [Hz.out]
            simp [hf]
          have hcc := newCells wc [.int .i64 (i : Int), .int .i64 z.a, .int .i64 (-1)] 203
          have hone : ∀ u ∈ ([.int .i64 (i : Int), .int .i64 z.a, .int .i64 (-1)] : List Value), u.oneCell' = true := wyE.one ⟨(i : Int), z.a, -1⟩
          have hWW : KeptF (fun _ => False) wc (wc.alloc (.cells #[.int .i64 (i : Int), .int .i64 z.a, .int .i64 (-1)] 203)) := (KeptF.refl _ wc).alloc _
          have hown0 : (wc.alloc (.cells #[.int .i64 (i : Int), .int .i64 z.a, .int .i64 (-1)] 203)).ownsRow (w.heap.size + 4) 203 3 (.slice aw n cw) n (flat wyE (ways0 m p i)) := by
            rw [Hn.out]; rw [Hn.out] at hO2; exact hO2.keep hWW (fun _ _ e => e)
          have hls2 : w.heap.size + 4 ≤ wc.heap.size := by omega
          go_wp2_with (at_builtin; (refine wpList_append_ownX rfl (.tmp 35) (.tmp 40) 129 rfl (w.heap.size + 4) 203 i0 _ 3 24 und_wys hi0 hz0 hz1 hz2 rfl (by decide) (.slice aw n cw) n (flat wyE (ways0 m p i)) rfl ?_ ⟨wc.heap.size, 0, none⟩ 1 1 [.int .i64 (i : Int), .int .i64 z.a, .int .i64 (-1)] rfl ?_ ?_ ?_ ?_ ?_ ?_ ?_))
          · exact hown0
          · rfl
          · exact hcc
          · exact hone
          · unfold maxLen; omega
          · omega
          · exact Nat.le_trans hls2 hWW.size
          · intro v2 w2 hown2 hgr2 hfr2
            have hK3 : KeptF (fun r => (Value.slice aw n cw).ownBlock = some r) wc w2 := (hWW.weaken (fun _ _ e => e.elim)).trans (KeptF.of_grown hgr2 (fun k h _ => h))
            have hO3 : Own wyE w2 (w.heap.size + 4) v2 (ways0 m p (i + 1)) := by
              rw [Hw.out]
              exact Own.snoc (x := (⟨(i : Int), z.a, -1⟩ : Wy)) (by rw [← Hn.out]; exact hown2)
            have hmp3 := hmp2.keep hK3 (fun e => by have := hne _ e; omega)
            have hb13 := hb12.keep hK3 (fun e => by have := hne _ e; omega)
            have hb33 := hb32.keep hK3 (fun e => by have := hne _ e; omega)
            have hbl3 : Below w.heap.size w w2 := hbl2.trans (KeptF.below hK3 hbl2.size (fun r e => by have := hne r e; omega))
            obtain ⟨a2, n2, c2', hv2⟩ : ∃ a2 n2 c2', v2 = .slice a2 n2 c2' := by obtain ⟨a2, c2', h1, _⟩ := hO3.form'; exact ⟨a2, _, c2', h1⟩
            subst hv2
            have g2 : w2.cell? ⟨w.heap.size + 1 + 1 + 1, 2, none⟩ = some (.slice aw n cw) := hb33.cell 2
            have gf : w2.frozen? ⟨w.heap.size + 1 + 1 + 1, 2, none⟩ = false := hb33.frozen 2
            have hge : ∀ r, (Value.slice a2 n2 c2').ownBlock = some r → w.heap.size + 4 ≤ r := fun r hr => (hO3.lt hr).1
            clear hown2 hgr2 hfr2 hown0 hcc hone hWW hO2 k0 k2 c2 f2 hK2 hlk2 hmp2 hb12 hb32 hbl2
            go_wp2
            go_roundw
            case rel =>
              have hk4 : KeptF (fun r => r = w.heap.size + 1 + 1 + 1) w2 (w2.setCell ⟨w.heap.size + 1 + 1 + 1, 2, none⟩ (.slice a2 n2 c2')) := (KeptF.refl (fun r => r = w.heap.size + 1 + 1 + 1) w2).setCell (p := ⟨w.heap.size + 1 + 1 + 1, 2, none⟩) (.inl rfl) _
              refine ⟨i + 1, .slice a2 n2 c2', by go_num, hlt, hmp3.keep hk4 (by omega), hb13.keep hk4 (by omega), hb33.set 2 _, hO3.keep hk4 (fun r hr e => by have := hge r hr; omega), hbl3.trans (KeptF.below hk4 hbl3.size (fun r e => by omega))⟩
            case measure => simp [intOf]; omega
        · have Hw : Hid (ways0 m p (i + 1) = ways0 m p i) := by
            show _ = _
            rw [ways0_succ]
            unfold way1
            rw [Hz.out]
            simp [hf]
          go_wp2
          go_roundw
          case rel => exact ⟨i + 1, .slice aw n cw, by go_num, hlt, hmp2, hb12, hb32, by rw [Hw.out]; exact hO2, hbl2⟩
          case measure => simp [intOf]; omega
    · have hie : i = m.links.length := by omega
      subst hie
      have c0 : wr.cell? ⟨w.heap.size + 1 + 1 + 1, 0, none⟩ = some (.int .i64 en) := hb3.cell 0
      have c1 : wr.cell? ⟨w.heap.size + 1 + 1 + 1, 1, none⟩ = some (.map (some (w.heap.size + 1 + 1))) := hb3.cell 1
      have c2 : wr.cell? ⟨w.heap.size + 1 + 1 + 1, 2, none⟩ = some (.slice aw n cw) := hb3.cell 2
      have d0 : wr.cell? ⟨w.heap.size + 1, 0, none⟩ = some (.int .i64 0) := hb1.cell 0
      have d1 : wr.cell? ⟨w.heap.size + 1, 1, none⟩ = some (.map none) := hb1.cell 1
      have d2 : wr.cell? ⟨w.heap.size + 1, 2, none⟩ = some (.slice none 0 0) := hb1.cell 2
      have f0 : wr.frozen? ⟨w.heap.size + 1, 0, none⟩ = false := hb1.frozen 0
      have f1 : wr.frozen? ⟨w.heap.size + 1, 1, none⟩ = false := hb1.frozen 1
      have f2 : wr.frozen? ⟨w.heap.size + 1, 2, none⟩ = false := hb1.frozen 2
      have hl1 := hb1.lt
      have hK4 : KeptF (fun r => r = w.heap.size + 1) wr (((wr.setCell ⟨w.heap.size + 1, 0, none⟩ (.int .i64 en)).setCell ⟨w.heap.size + 1, 1, none⟩ (.map (some (w.heap.size + 1 + 1)))).setCell ⟨w.heap.size + 1, 2, none⟩ (.slice aw n cw)) := (((KeptF.refl (fun r => r = w.heap.size + 1) wr).setCell (p := ⟨w.heap.size + 1, 0, none⟩) (.inl rfl) _).setCell (p := ⟨w.heap.size + 1, 1, none⟩) (.inl rfl) _).setCell (p := ⟨w.heap.size + 1, 2, none⟩) (.inl rfl) _
      have hge : ∀ r, (Value.slice aw n cw).ownBlock = some r → w.heap.size + 4 ≤ r := fun r hr => (hO.lt hr).1
      have hOf := (hO.keep hK4 (fun r hr e => by have := hge r hr; omega)).mono (show w.heap.size ≤ w.heap.size + 4 by omega)
      have hmf := hmp.keep hK4 (by omega)
      have hbf : Below w.heap.size w (((wr.setCell ⟨w.heap.size + 1, 0, none⟩ (.int .i64 en)).setCell ⟨w.heap.size + 1, 1, none⟩ (.map (some (w.heap.size + 1 + 1)))).setCell ⟨w.heap.size + 1, 2, none⟩ (.slice aw n cw)) := hbl.trans (KeptF.below hK4 hbl.size (fun r e => by omega))
      have hbk := ((hb1.set 0 (.int .i64 en)).set 1 (.map (some (w.heap.size + 1 + 1)))).set 2 (.slice aw n cw)
      have q0 : (((wr.setCell ⟨w.heap.size + 1, 0, none⟩ (.int .i64 en)).setCell ⟨w.heap.size + 1, 1, none⟩ (.map (some (w.heap.size + 1 + 1)))).setCell ⟨w.heap.size + 1, 2, none⟩ (.slice aw n cw)).cell? ⟨w.heap.size + 1, 0, none⟩ = some (.int .i64 en) := hbk.cell 0
      have q1 : (((wr.setCell ⟨w.heap.size + 1, 0, none⟩ (.int .i64 en)).setCell ⟨w.heap.size + 1, 1, none⟩ (.map (some (w.heap.size + 1 + 1)))).setCell ⟨w.heap.size + 1, 2, none⟩ (.slice aw n cw)).cell? ⟨w.heap.size + 1, 1, none⟩ = some (.map (some (w.heap.size + 1 + 1))) := hbk.cell 1
      have q2 : (((wr.setCell ⟨w.heap.size + 1, 0, none⟩ (.int .i64 en)).setCell ⟨w.heap.size + 1, 1, none⟩ (.map (some (w.heap.size + 1 + 1)))).setCell ⟨w.heap.size + 1, 2, none⟩ (.slice aw n cw)).cell? ⟨w.heap.size + 1, 2, none⟩ = some (.slice aw n cw) := hbk.cell 2
      go_wp2
      refine bodyPost_ret (v := .agg #[.int .i64 en, .map (some (w.heap.size + 1 + 1)), .slice aw n cw]) (by simp [results, Try.results93, go_sem, q0, q1, q2]) rfl ⟨w.heap.size + 1 + 1, .slice aw n cw, rfl, hmf, hOf, by omega, fun e => by have := hge _ e; omega, hbf⟩

end Go.Proofs.Ytaieackeflmhgaa

namespace Go.Proofs.Ytaieackeflmhgaa
open Go.RowKit Go.Sort Go.Maps

theorem made_ptrs (n : Nat) : madeCells #[Value.pointer none] n = (List.replicate n (Value.pointer none)).toArray := by
  apply Array.ext
  · simp [madeCells]
  · intro i h1 h2
    simp [madeCells, Nat.mod_one]
theorem info_pp : (Try.prog.info? 127).map (fun i => (i.zero, i.size, i.bytes)) = some (some (.pointer none), 1, 8) := by kernel_rfl

theorem set_snoc (a : List Value) (N : Nat) (y : Value) (h : a.length < N) : (a ++ List.replicate (N - a.length) (Value.pointer none)).toArray.setIfInBounds a.length y = ((a ++ [y]) ++ List.replicate (N - (a.length + 1)) (Value.pointer none)).toArray := by
  have e : N - a.length = (N - (a.length + 1)) + 1 := by omega
  rw [e, List.replicate_succ, List.setIfInBounds_toArray, List.set_append_right _ _ (Nat.le_refl _), Nat.sub_self]
  simp

theorem Procs.snoc {w w' : World} {B pb N : Nat} {ps : List Pr} {p : Pr} (h : Procs w B pb N ps) (hl : ps.length < N) (k : KeptF (fun i => i = pb) w w') (hb : Blk w' pb ((ps.map ptr ++ List.replicate (N - ps.length) (Value.pointer none)).toArray.setIfInBounds ps.length (ptr p)) 127)
    (hp : PAt w' B p) (hf : ∀ i, PF p i → w.heap.size ≤ i) : Procs w' B pb N (ps ++ [p]) := by
  have hget : ∀ (i : Nat) (q : Pr), (ps ++ [p])[i]? = some q → (i = ps.length ∧ q = p) ∨ (i < ps.length ∧ ps[i]? = some q) := by
    intro i q hq
    by_cases hi : i < ps.length
    · rw [List.getElem?_append_left hi] at hq; exact .inr ⟨hi, hq⟩
    · have := get_lt hq
      rw [List.length_append, List.length_singleton] at this
      have e : i = ps.length := by omega
      subst e
      rw [List.getElem?_append_right (Nat.le_refl _), Nat.sub_self] at hq
      simp at hq
      exact .inl ⟨rfl, hq.symm⟩
  have hlt : ∀ q ∈ ps, ∀ i, PF q i → i < w.heap.size := fun q hq i hi => ((h.each q hq).lt hi).2
  refine ⟨?_, ?_, ?_, ?_, h.low⟩
  · have e := set_snoc (ps.map ptr) N (ptr p) (by simpa using hl)
    rw [List.length_map] at e
    rw [e] at hb
    rw [List.map_append, List.length_append, List.length_singleton]
    exact hb
  · intro q hq
    rcases List.mem_append.1 hq with hq | hq
    · exact (h.each q hq).keep k (fun i hi e => h.out q hq (by subst e; exact hi))
    · simp at hq; subst hq; exact hp
  · intro i j x y hx hy hij c hc hc'
    rcases hget i x hx with ⟨e1, e2⟩ | ⟨e1, e2⟩
    · rcases hget j y hy with ⟨e3, _⟩ | ⟨e3, e4⟩
      · omega
      · subst e2
        have h1 := hf c hc
        have h2 := hlt y (List.mem_of_getElem? e4) c hc'
        omega
    · rcases hget j y hy with ⟨e3, e4⟩ | ⟨e3, e4⟩
      · subst e4
        have h1 := hf c hc'
        have h2 := hlt x (List.mem_of_getElem? e2) c hc
        omega
      · exact h.apart i j x y e2 e4 hij c hc hc'
  · intro q hq hk
    rcases List.mem_append.1 hq with hq | hq
    · exact h.out q hq hk
    · simp at hq; subst hq
      have h1 := hf pb hk
      have h2 := h.arr.lt
      omega

def fresh (p : Pr) (i : Nat) : Prop := p.num = (i : Int) ∧ p.st = 0 ∧ p.sent = 0 ∧ p.its = [] ∧ p.pushed = 0 ∧ p.dn = []
/-- a process's clock at the beginning, and that every push is seen -/
structure Clock0 (m : Mdl) (en : Int) (i : Nat) (p : Pr) : Prop where
  en : p.en = en
  hr : p.hr = hear0 m (i : Int) m.links.length
  ws : p.ws = ways0 m (i : Int) m.links.length
  pu : p.pushed = p.its.length

/-- the six cells of a model's block -/
def MC6 (W : World) (b : Nat) (c0 c1 c2 c3 c4 c5 : Value) : Prop := W.cell? ⟨b, 0, none⟩ = some c0 ∧ W.cell? ⟨b, 1, none⟩ = some c1 ∧ W.cell? ⟨b, 2, none⟩ = some c2 ∧ W.cell? ⟨b, 3, none⟩ = some c3 ∧ W.cell? ⟨b, 4, none⟩ = some c4 ∧ W.cell? ⟨b, 5, none⟩ = some c5
theorem MC6.keep {F : Nat → Prop} {W W' : World} {b : Nat} {c0 c1 c2 c3 c4 c5 : Value} (h : MC6 W b c0 c1 c2 c3 c4 c5) (k : KeptF F W W') (hF : ¬ F b) : MC6 W' b c0 c1 c2 c3 c4 c5 := by
  have hl := block_lt_of_cell h.1
  exact ⟨(k.cell (p := ⟨b, 0, none⟩) hl hF).trans h.1, (k.cell (p := ⟨b, 1, none⟩) hl hF).trans h.2.1, (k.cell (p := ⟨b, 2, none⟩) hl hF).trans h.2.2.1, (k.cell (p := ⟨b, 3, none⟩) hl hF).trans h.2.2.2.1, (k.cell (p := ⟨b, 4, none⟩) hl hF).trans h.2.2.2.2.1, (k.cell (p := ⟨b, 5, none⟩) hl hF).trans h.2.2.2.2.2⟩

theorem sim_fresh {N : Nat} {ps : List Pr} (hl : ps.length = N) (h : ∀ (i : Nat) (p : Pr), ps[i]? = some p → fresh p i) : Sim N [] (List.replicate N 0) (List.replicate N 0) (List.replicate N []) ps := by
  refine ⟨hl, fun i p hp => (h i p hp).1, fun i p hp => ?_, fun i p hp => ?_, fun i p hp => ?_, fun i p hp => ?_⟩
  · rw [(h i p hp).2.1, List.getElem?_replicate, if_pos (by rw [← hl]; exact get_lt hp)]
  · rw [(h i p hp).2.2.1, List.getElem?_replicate, if_pos (by rw [← hl]; exact get_lt hp)]
  · rw [(h i p hp).2.2.2.2.2, List.getElem?_replicate, if_pos (by rw [← hl]; exact get_lt hp)]
  · rw [(h i p hp).2.2.2.1]; exact List.Perm.refl _

set_option maxRecDepth 100000 in
set_option maxHeartbeats 8000000 in
theorem newProcs_any (w : World) (Bm : Nat) (lv rv sv : Value) (m : Mdl) (R : List RuleV) (en : Int) (hM : ModelAt w Bm lv rv sv m R) (hBm : Bm ≤ w.heap.size) (hm : Right m) :
    Calls Try.prog 63 #[.agg #[.int .i64 m.procs, .int .i64 m.states, .int .i64 m.loads, lv, rv, sv], .int .i64 en] w fun e w' => ∃ (pb : Nat) (ps : List Pr), e = .returned (.slice (some ⟨pb, 0, none⟩) (np m) (np m)) ∧ Procs w' (w.heap.size + 1) pb (np m) ps ∧ Sim (np m) (c0 m).wait (c0 m).states (c0 m).seqs (c0 m).done ps ∧ (∀ p ∈ ps, p.pushed ≤ 12) ∧ Below w.heap.size w w' ∧ (∀ (i : Nat) (p : Pr), ps[i]? = some p → Clock0 m en i p) := by
  have hp1 := hm.lim.p1
  have hp2 := hm.lim.p2
  obtain ⟨n, hn⟩ : ∃ n : Nat, m.procs = (n : Int) := ⟨m.procs.toNat, by omega⟩
  have hnp : np m = n := by unfold np; omega
  have Hnp : Hid (np m = n) := hnp
  have hn6 : n ≤ 6 := by omega
  have Hmn : Hid (m.procs = (n : Int)) := hn
  rw [hn, hnp]
  obtain ⟨ao2, cap2, hsv, hcap2⟩ := RowsAt.form hM.starts
  subst hsv
  obtain ⟨ao1, cap1, hlv, hcap1⟩ := RowsAt.form hM.links
  subst hlv
  obtain ⟨ao3, cap3, hrv, hcap3⟩ := RowsAt.form hM.rules.1
  subst hrv
  have hns := hm.lim.ns
  have hmk1 := run_make_row' (P := Try.prog) 107 127 (.pointer none) 8 Try.underlying107 info_pp rfl .i64 .i64 n (by omega) (by omega)
  obtain ⟨W0, hW0⟩ : ∃ W0, W0 = w.alloc (.cells #[.int .i64 (n : Int), .int .i64 m.states, .int .i64 m.loads, .slice ao1 m.links.length cap1, .slice ao3 R.length cap3, .slice ao2 m.starts.length cap2] 31) := ⟨_, rfl⟩
  have HW0 : Hid (W0 = w.alloc (.cells #[.int .i64 (n : Int), .int .i64 m.states, .int .i64 m.loads, .slice ao1 m.links.length cap1, .slice ao3 R.length cap3, .slice ao2 m.starts.length cap2] 31)) := hW0
  have hB0 : Below w.heap.size w W0 := by rw [hW0]; exact (Below.refl _ _).alloc (Nat.le_refl _) _
  have hmb : Blk W0 w.heap.size #[.int .i64 (n : Int), .int .i64 m.states, .int .i64 m.loads, .slice ao1 m.links.length cap1, .slice ao3 R.length cap3, .slice ao2 m.starts.length cap2] 31 := by rw [hW0]; exact heap_alloc_new w _
  have hz : W0.heap.size = w.heap.size + 1 := by rw [hW0]; simp
  have Hz : Hid (W0.heap.size = w.heap.size + 1) := hz
  have hA : Blk (W0.alloc (.cells (madeCells #[.pointer none] n) 127)) (w.heap.size + 1) (madeCells #[.pointer none] n) 127 := blk_new hz.symm
  have hP0 : Procs (W0.alloc (.cells (madeCells #[.pointer none] n) 127)) (w.heap.size + 1) (w.heap.size + 1) n [] := by
    refine ⟨?_, fun p hp => by simp at hp, fun i j p q hp => by simp at hp, fun p hp => by simp at hp, Nat.le_refl _⟩
    show Blk _ _ ([] ++ List.replicate (n - 0) (Value.pointer none)).toArray _
    rw [List.nil_append, Nat.sub_zero, ← made_ptrs]
    exact hA
  have hbA : Below (w.heap.size + 1) W0 (W0.alloc (.cells (madeCells #[.pointer none] n) 127)) := (Below.refl _ _).alloc (by rw [hz]; exact Nat.le_refl _) _
  clear hn hnp hz hA
  have m0 : W0.cell? ⟨w.heap.size, 0, none⟩ = some (.int .i64 (n : Int)) := hmb.cell 0
  have hlm := hmb.lt
  go_enter Try.func63, Try.ntmps63
  go_upto_region 1 with fail
  rw [← HW0.out]
  clear hW0
  go_wp2
  rw [Hz.out]
  clear m0 hmk1
  go_loopw [14] (fun s14 wr => ∃ (k : Nat) (ps : List Pr), s14 = .int .i64 k ∧ k ≤ n ∧ ps.length = k ∧ Procs wr (w.heap.size + 1) (w.heap.size + 1) n ps ∧ (∀ (i : Nat) (p : Pr), ps[i]? = some p → fresh p i ∧ Clock0 m en i p) ∧ Below (w.heap.size + 1) W0 wr) (fun s14 _ => n - (intOf s14).toNat)
  case atStart => exact ⟨0, [], rfl, Nat.zero_le _, rfl, hP0, fun i p hp => by simp at hp, hbA⟩
  case round =>
    clear hP0 hbA
    obtain ⟨k, ps, rfl, hk, hlen, hP, hfr, hbl⟩ := hrel
    have Hlen : Hid (ps.length = k) := hlen
    have hBk : w.heap.size + 1 ≤ wr.heap.size := by have := hbl.size; rw [Hz.out] at this; exact this
    by_cases hlt : k < n
    · have hlp := hP.arr.lt
      have hmw : Blk wr w.heap.size #[.int .i64 (n : Int), .int .i64 m.states, .int .i64 m.loads, .slice ao1 m.links.length cap1, .slice ao3 R.length cap3, .slice ao2 m.starts.length cap2] 31 := (hbl.block _ (Nat.lt_succ_self _)).trans hmb
      have hS0 : MC6 wr w.heap.size (.int .i64 (n : Int)) (.int .i64 m.states) (.int .i64 m.loads) (.slice ao1 m.links.length cap1) (.slice ao3 R.length cap3) (.slice ao2 m.starts.length cap2) := ⟨hmw.cell 0, hmw.cell 1, hmw.cell 2, hmw.cell 3, hmw.cell 4, hmw.cell 5⟩
      have hS0d : MC6 wr.drew w.heap.size (.int .i64 (n : Int)) (.int .i64 m.states) (.int .i64 m.loads) (.slice ao1 m.links.length cap1) (.slice ao3 R.length cap3) (.slice ao2 m.starts.length cap2) := hS0
      go_wp2
      refine wp_region_held_drew (S := (fun W => MC6 W w.heap.size (.int .i64 (n : Int)) (.int .i64 m.states) (.int .i64 m.loads) (.slice ao1 m.links.length cap1) (.slice ao3 R.length cap3) (.slice ao2 m.starts.length cap2))) (by kernel_rfl) ?_ (fun hHeld => ?_)
      · (try dsimp only)
        assumption
      refine takeL 0 (v := ?_) rfl (by kernel_rfl) (by kernel_rfl) (by kernel_rfl) (fun _ _ _ h => h) (by rfl) ?_ (by assumption) ?_
      rotate_left
      · intro w hSw
        (try simp only [MC6] at hSw)
        go_simp
        all_goals with_reducible rfl
      try simp only [Act.put, List.setIfInBounds_toArray, List.set_cons_zero, List.set_cons_succ]
      refine takeL 1 (v := ?_) rfl (by kernel_rfl) (by kernel_rfl) (by kernel_rfl) (fun _ _ _ h => h) (by rfl) ?_ (by assumption) ?_
      rotate_left
      · intro w hSw
        (try simp only [MC6] at hSw)
        go_simp
        all_goals with_reducible rfl
      try simp only [Act.put, List.setIfInBounds_toArray, List.set_cons_zero, List.set_cons_succ]
      refine takeL 5 (v := ?_) rfl (by kernel_rfl) (by kernel_rfl) (by kernel_rfl) (fun _ _ _ h => h) (by rfl) ?_ (by assumption) ?_
      rotate_left
      · intro w hSw
        (try simp only [MC6] at hSw)
        go_simp
        all_goals with_reducible rfl
      try simp only [Act.put, List.setIfInBounds_toArray, List.set_cons_zero, List.set_cons_succ]
      refine takeL 6 (v := ?_) rfl (by kernel_rfl) (by kernel_rfl) (by kernel_rfl) (fun _ _ _ h => h) (by rfl) ?_ (by assumption) ?_
      rotate_left
      · intro w hSw
        (try simp only [MC6] at hSw)
        go_simp
        all_goals with_reducible rfl
      try simp only [Act.put, List.setIfInBounds_toArray, List.set_cons_zero, List.set_cons_succ]
      refine takeL 7 (v := ?_) rfl (by kernel_rfl) (by kernel_rfl) (by kernel_rfl) (fun _ _ _ h => h) (by rfl) ?_ (by assumption) ?_
      rotate_left
      · intro w hSw
        (try simp only [MC6] at hSw)
        go_simp
        all_goals with_reducible rfl
      try simp only [Act.put, List.setIfInBounds_toArray, List.set_cons_zero, List.set_cons_succ]
      refine takeL 9 (v := ?_) rfl (by kernel_rfl) (by kernel_rfl) (by kernel_rfl) (fun _ _ _ h => h) (by rfl) ?_ (by assumption) ?_
      rotate_left
      · intro w hSw
        (try simp only [MC6] at hSw)
        go_simp
        all_goals with_reducible rfl
      try simp only [Act.put, List.setIfInBounds_toArray, List.set_cons_zero, List.set_cons_succ]
      refine wpAnyH_ready (rs := [2]) (by kernel_rfl) (by simp) ?_
      refine consL rfl (fun K hK => ?_) AllReadyH.nil
      go_simp
      refine (new_any 8 wr.drew).mono ?_
      rintro e1 w1 ⟨rfl, width, hw1, hw2, hw1e⟩
      rw [show wr.drew.heap.size = wr.heap.size from rfl] at hw1e
      rw [show wr.drew.heap.size = wr.heap.size from rfl]
      have hkq : KeptF (fun _ => False) wr w1 := by rw [hw1e]; exact ((KeptF.drew (KeptF.refl _ wr)).alloc _).alloc _
      have hzq : w1.heap.size = wr.heap.size + 2 := by rw [hw1e]; simp
      have hqb : Blk w1 (wr.heap.size + 1) #[.int .i64 width, .int .i64 0, .int .i64 0, .slice none 0 0, .map (some wr.heap.size)] 118 := by rw [hw1e]; exact blk_newP (by simp)
      have hmm1 : w1.heap[wr.heap.size]? = some (.map #[] 0) := by
        rw [hw1e]
        exact (Below.heap_alloc _ _ _ (by simp)).trans (heap_alloc_new wr.drew _)
      have p0 : w1.cell? ⟨wr.heap.size + 1, 0, none⟩ = some (.int .i64 width) := hqb.cell 0
      have p1 : w1.cell? ⟨wr.heap.size + 1, 1, none⟩ = some (.int .i64 0) := hqb.cell 1
      have p2 : w1.cell? ⟨wr.heap.size + 1, 2, none⟩ = some (.int .i64 0) := hqb.cell 2
      have p3 : w1.cell? ⟨wr.heap.size + 1, 3, none⟩ = some (.slice none 0 0) := hqb.cell 3
      have p4 : w1.cell? ⟨wr.heap.size + 1, 4, none⟩ = some (.map (some wr.heap.size)) := hqb.cell 4
      have hSq := hS0.keep hkq (fun e => e)
      have Hzq : Hid (w1.heap.size = wr.heap.size + 2) := hzq
      clear hw1e hzq
      go_wp2_with fail
      refine hK.out _ _ ?_ (fun hHeld => ?_)
      · (try dsimp only)
        assumption
      clear hK K
      try simp only [Act.put, List.setIfInBounds_toArray, List.set_cons_zero, List.set_cons_succ]
      refine takeL 3 (v := ?_) rfl (by kernel_rfl) (by kernel_rfl) (by kernel_rfl) (fun _ _ _ h => h) (by rfl) ?_ (by assumption) ?_
      rotate_left
      · intro w hSw
        (try simp only [MC6] at hSw)
        go_simp
        all_goals with_reducible rfl
      try simp only [Act.put, List.setIfInBounds_toArray, List.set_cons_zero, List.set_cons_succ]
      refine wpAnyH_ready (rs := [4, 8]) (by kernel_rfl) (by simp) ?_
      refine consL rfl (fun K hK => ?_) (consL rfl (fun K hK => ?_) AllReadyH.nil)
      go_simp
      refine hK.out _ _ ?_ (fun hHeld => ?_)
      · (try dsimp only)
        assumption
      clear hK K
      try simp only [Act.put, List.setIfInBounds_toArray, List.set_cons_zero, List.set_cons_succ]
      refine wpAnyH_ready (rs := [8]) (by kernel_rfl) (by simp) ?_
      refine consL rfl (fun K hK => ?_) AllReadyH.nil
      go_simp
      have hbw1 : Below w.heap.size w w1 := hB0.trans ((hbl.trans (KeptF.below hkq hBk (fun _ e => e.elim))).mono (Nat.le_succ _))
      have hcl := newClock_any w1 Bm (.slice ao1 m.links.length cap1) (.slice ao3 R.length cap3) (.slice ao2 m.starts.length cap2) m R (k : Int) en (hM.keep (hbw1.mono hBm)) (Nat.le_trans hBm hbw1.size) hm
      rw [Hmn.out] at hcl
      refine hcl.mono ?_
      rintro e2 w2 ⟨hb, wv, rfl, hmp, hO, hhb, hwh, hb2⟩
      obtain ⟨aw, nw, cw, hwf⟩ : ∃ aw nw cw, wv = .slice aw nw cw := by obtain ⟨aw, cw, h1, _⟩ := hO.form'; exact ⟨aw, _, cw, h1⟩
      subst hwf
      rw [Hzq.out] at hO hhb
      have hk2 : KeptF (fun _ => False) w1 w2 := kept_of_below' hb2
      have hqb2 := hqb.keep hk2 (fun e => e)
      have hmm2 : w2.heap[wr.heap.size]? = some (.map #[] 0) := (hk2.block _ (by rw [Hzq.out]; omega) (fun e => e)).trans hmm1
      have q0 : w2.cell? ⟨wr.heap.size + 1, 0, none⟩ = some (.int .i64 width) := hqb2.cell 0
      have q1 : w2.cell? ⟨wr.heap.size + 1, 1, none⟩ = some (.int .i64 0) := hqb2.cell 1
      have q2 : w2.cell? ⟨wr.heap.size + 1, 2, none⟩ = some (.int .i64 0) := hqb2.cell 2
      have q3 : w2.cell? ⟨wr.heap.size + 1, 3, none⟩ = some (.slice none 0 0) := hqb2.cell 3
      have q4 : w2.cell? ⟨wr.heap.size + 1, 4, none⟩ = some (.map (some wr.heap.size)) := hqb2.cell 4
      have hz2 : wr.heap.size + 2 ≤ w2.heap.size := by have := hb2.size; rw [Hzq.out] at this; exact this
      have hkW : KeptF (fun _ => False) wr (w2.alloc (.cells #[.int .i64 width, .int .i64 0, .int .i64 0, .slice none 0 0, .map (some wr.heap.size), .int .i64 en, .map (some hb), .slice aw nw cw, .int .i64 (k : Int), .int .i64 0, .int .i64 0, .slice none 0 0] 133)) := (hkq.trans hk2).alloc _
      have hPW := hP.grow hkW
      have c9 : (w2.alloc (.cells #[.int .i64 width, .int .i64 0, .int .i64 0, .slice none 0 0, .map (some wr.heap.size), .int .i64 en, .map (some hb), .slice aw nw cw, .int .i64 (k : Int), .int .i64 0, .int .i64 0, .slice none 0 0] 133)).cell? ⟨w.heap.size + 1, k, none⟩ = some (.pointer none) := by
        rw [hPW.arr.cell, List.getElem?_toArray, List.getElem?_append_right (by simp [Hlen.out]), List.length_map, Hlen.out, Nat.sub_self, List.getElem?_replicate, if_pos (by omega)]
      have f9 : (w2.alloc (.cells #[.int .i64 width, .int .i64 0, .int .i64 0, .slice none 0 0, .map (some wr.heap.size), .int .i64 en, .map (some hb), .slice aw nw cw, .int .i64 (k : Int), .int .i64 0, .int .i64 0, .slice none 0 0] 133)).frozen? ⟨w.heap.size + 1, k, none⟩ = false := hPW.arr.frozen k
      have hk3 : KeptF (fun i => i = w.heap.size + 1) (w2.alloc (.cells #[.int .i64 width, .int .i64 0, .int .i64 0, .slice none 0 0, .map (some wr.heap.size), .int .i64 en, .map (some hb), .slice aw nw cw, .int .i64 (k : Int), .int .i64 0, .int .i64 0, .slice none 0 0] 133)) ((w2.alloc (.cells #[.int .i64 width, .int .i64 0, .int .i64 0, .slice none 0 0, .map (some wr.heap.size), .int .i64 en, .map (some hb), .slice aw nw cw, .int .i64 (k : Int), .int .i64 0, .int .i64 0, .slice none 0 0] 133)).setCell ⟨w.heap.size + 1, k, none⟩ (.pointer (some ⟨w2.heap.size, 0, none⟩))) := (KeptF.refl (fun i => i = w.heap.size + 1) _).setCell (p := ⟨w.heap.size + 1, k, none⟩) (.inl rfl) _
      have hSc := hSq.keep hk2 (fun e => e)
      have hSp := hSc.keep ((KeptF.refl (fun _ => False) w2).alloc (.cells #[.int .i64 width, .int .i64 0, .int .i64 0, .slice none 0 0, .map (some wr.heap.size), .int .i64 en, .map (some hb), .slice aw nw cw, .int .i64 (k : Int), .int .i64 0, .int .i64 0, .slice none 0 0] 133)) (fun e => e)
      have hSe := hSp.keep hk3 (by omega)
      clear hcl
      go_wp2_with fail
      refine hK.out _ _ ?_ (fun hHeld => ?_)
      · (try dsimp only)
        assumption
      clear hK K
      try simp only [Act.put, List.setIfInBounds_toArray, List.set_cons_zero, List.set_cons_succ]
      refine takeL 10 (v := ?_) rfl (by kernel_rfl) (by kernel_rfl) (by kernel_rfl) (fun _ _ _ h => h) (by rfl) ?_ (by assumption) ?_
      rotate_left
      · intro w hSw
        (try simp only [MC6] at hSw)
        go_simp
        all_goals with_reducible rfl
      try simp only [Act.put, List.setIfInBounds_toArray, List.set_cons_zero, List.set_cons_succ]
      refine wpAnyH_ready (rs := [11]) (by kernel_rfl) (by simp) ?_
      refine consL rfl (fun K hK => ?_) AllReadyH.nil
      go_simp
      refine hK.out _ _ ?_ (fun hHeld => ?_)
      · (try dsimp only)
        assumption
      clear hK K
      try simp only [Act.put, List.setIfInBounds_toArray, List.set_cons_zero, List.set_cons_succ]
      refine takeL 12 (v := ?_) rfl (by kernel_rfl) (by kernel_rfl) (by kernel_rfl) (fun _ _ _ h => h) (by rfl) ?_ (by assumption) ?_
      rotate_left
      · intro w hSw
        (try simp only [MC6] at hSw)
        go_simp
        all_goals with_reducible rfl
      try simp only [Act.put, List.setIfInBounds_toArray, List.set_cons_zero, List.set_cons_succ]
      refine wpAnyH_ready (rs := [13]) (by kernel_rfl) (by simp) ?_
      refine consL rfl (fun K hK => ?_) AllReadyH.nil
      go_simp
      refine hK.out _ _ ?_ (fun hHeld => ?_)
      · (try dsimp only)
        assumption
      clear hK K
      try simp only [Act.put, List.setIfInBounds_toArray, List.set_cons_zero, List.set_cons_succ]
      refine wpAnyH_done (by kernel_rfl) ?_ _
      rotate_left 1
      go_simp
      have hbw1 : Below w.heap.size w w1 := hB0.trans ((hbl.trans (KeptF.below hkq hBk (fun _ e => e.elim))).mono (Nat.le_succ _))
      have hcl := newClock_any w1 Bm (.slice ao1 m.links.length cap1) (.slice ao3 R.length cap3) (.slice ao2 m.starts.length cap2) m R (k : Int) en (hM.keep (hbw1.mono hBm)) (Nat.le_trans hBm hbw1.size) hm
      rw [Hmn.out] at hcl
      refine hcl.mono ?_
      rintro e2 w2 ⟨hb, wv, rfl, hmp, hO, hhb, hwh, hb2⟩
      obtain ⟨aw, nw, cw, hwf⟩ : ∃ aw nw cw, wv = .slice aw nw cw := by obtain ⟨aw, cw, h1, _⟩ := hO.form'; exact ⟨aw, _, cw, h1⟩
      subst hwf
      rw [Hzq.out] at hO hhb
      have hk2 : KeptF (fun _ => False) w1 w2 := kept_of_below' hb2
      have hqb2 := hqb.keep hk2 (fun e => e)
      have hmm2 : w2.heap[wr.heap.size]? = some (.map #[] 0) := (hk2.block _ (by rw [Hzq.out]; omega) (fun e => e)).trans hmm1
      have q0 : w2.cell? ⟨wr.heap.size + 1, 0, none⟩ = some (.int .i64 width) := hqb2.cell 0
      have q1 : w2.cell? ⟨wr.heap.size + 1, 1, none⟩ = some (.int .i64 0) := hqb2.cell 1
      have q2 : w2.cell? ⟨wr.heap.size + 1, 2, none⟩ = some (.int .i64 0) := hqb2.cell 2
      have q3 : w2.cell? ⟨wr.heap.size + 1, 3, none⟩ = some (.slice none 0 0) := hqb2.cell 3
      have q4 : w2.cell? ⟨wr.heap.size + 1, 4, none⟩ = some (.map (some wr.heap.size)) := hqb2.cell 4
      have hz2 : wr.heap.size + 2 ≤ w2.heap.size := by have := hb2.size; rw [Hzq.out] at this; exact this
      have hkW : KeptF (fun _ => False) wr (w2.alloc (.cells #[.int .i64 width, .int .i64 0, .int .i64 0, .slice none 0 0, .map (some wr.heap.size), .int .i64 en, .map (some hb), .slice aw nw cw, .int .i64 (k : Int), .int .i64 0, .int .i64 0, .slice none 0 0] 133)) := (hkq.trans hk2).alloc _
      have hPW := hP.grow hkW
      have c9 : (w2.alloc (.cells #[.int .i64 width, .int .i64 0, .int .i64 0, .slice none 0 0, .map (some wr.heap.size), .int .i64 en, .map (some hb), .slice aw nw cw, .int .i64 (k : Int), .int .i64 0, .int .i64 0, .slice none 0 0] 133)).cell? ⟨w.heap.size + 1, k, none⟩ = some (.pointer none) := by
        rw [hPW.arr.cell, List.getElem?_toArray, List.getElem?_append_right (by simp [Hlen.out]), List.length_map, Hlen.out, Nat.sub_self, List.getElem?_replicate, if_pos (by omega)]
      have f9 : (w2.alloc (.cells #[.int .i64 width, .int .i64 0, .int .i64 0, .slice none 0 0, .map (some wr.heap.size), .int .i64 en, .map (some hb), .slice aw nw cw, .int .i64 (k : Int), .int .i64 0, .int .i64 0, .slice none 0 0] 133)).frozen? ⟨w.heap.size + 1, k, none⟩ = false := hPW.arr.frozen k
      have hk3 : KeptF (fun i => i = w.heap.size + 1) (w2.alloc (.cells #[.int .i64 width, .int .i64 0, .int .i64 0, .slice none 0 0, .map (some wr.heap.size), .int .i64 en, .map (some hb), .slice aw nw cw, .int .i64 (k : Int), .int .i64 0, .int .i64 0, .slice none 0 0] 133)) ((w2.alloc (.cells #[.int .i64 width, .int .i64 0, .int .i64 0, .slice none 0 0, .map (some wr.heap.size), .int .i64 en, .map (some hb), .slice aw nw cw, .int .i64 (k : Int), .int .i64 0, .int .i64 0, .slice none 0 0] 133)).setCell ⟨w.heap.size + 1, k, none⟩ (.pointer (some ⟨w2.heap.size, 0, none⟩))) := (KeptF.refl (fun i => i = w.heap.size + 1) _).setCell (p := ⟨w.heap.size + 1, k, none⟩) (.inl rfl) _
      have hSc := hSq.keep hk2 (fun e => e)
      have hSp := hSc.keep ((KeptF.refl (fun _ => False) w2).alloc (.cells #[.int .i64 width, .int .i64 0, .int .i64 0, .slice none 0 0, .map (some wr.heap.size), .int .i64 en, .map (some hb), .slice aw nw cw, .int .i64 (k : Int), .int .i64 0, .int .i64 0, .slice none 0 0] 133)) (fun e => e)
      have hSe := hSp.keep hk3 (by omega)
      clear hcl
      go_wp2_with fail
      refine hK.out _ _ ?_ (fun hHeld => ?_)
      · (try dsimp only)
        assumption
      clear hK K
      try simp only [Act.put, List.setIfInBounds_toArray, List.set_cons_zero, List.set_cons_succ]
      refine wpAnyH_ready (rs := [4]) (by kernel_rfl) (by simp) ?_
      refine consL rfl (fun K hK => ?_) AllReadyH.nil
      go_simp
      refine hK.out _ _ ?_ (fun hHeld => ?_)
      · (try dsimp only)
        assumption
      clear hK K
      try simp only [Act.put, List.setIfInBounds_toArray, List.set_cons_zero, List.set_cons_succ]
      refine takeL 10 (v := ?_) rfl (by kernel_rfl) (by kernel_rfl) (by kernel_rfl) (fun _ _ _ h => h) (by rfl) ?_ (by assumption) ?_
      rotate_left
      · intro w hSw
        (try simp only [MC6] at hSw)
        go_simp
        all_goals with_reducible rfl
      try simp only [Act.put, List.setIfInBounds_toArray, List.set_cons_zero, List.set_cons_succ]
      refine wpAnyH_ready (rs := [11]) (by kernel_rfl) (by simp) ?_
      refine consL rfl (fun K hK => ?_) AllReadyH.nil
      go_simp
      refine hK.out _ _ ?_ (fun hHeld => ?_)
      · (try dsimp only)
        assumption
      clear hK K
      try simp only [Act.put, List.setIfInBounds_toArray, List.set_cons_zero, List.set_cons_succ]
      refine takeL 12 (v := ?_) rfl (by kernel_rfl) (by kernel_rfl) (by kernel_rfl) (fun _ _ _ h => h) (by rfl) ?_ (by assumption) ?_
      rotate_left
      · intro w hSw
        (try simp only [MC6] at hSw)
        go_simp
        all_goals with_reducible rfl
      try simp only [Act.put, List.setIfInBounds_toArray, List.set_cons_zero, List.set_cons_succ]
      refine wpAnyH_ready (rs := [13]) (by kernel_rfl) (by simp) ?_
      refine consL rfl (fun K hK => ?_) AllReadyH.nil
      go_simp
      refine hK.out _ _ ?_ (fun hHeld => ?_)
      · (try dsimp only)
        assumption
      clear hK K
      try simp only [Act.put, List.setIfInBounds_toArray, List.set_cons_zero, List.set_cons_succ]
      refine wpAnyH_done (by kernel_rfl) ?_ _
      rotate_left 1
      all_goals
        go_wp2
        go_roundw
        case rel =>
          have hne : w2.heap.size ≠ w.heap.size + 1 := by omega
          have hPA : PAt ((w2.alloc (.cells #[.int .i64 width, .int .i64 0, .int .i64 0, .slice none 0 0, .map (some wr.heap.size), .int .i64 en, .map (some hb), .slice aw nw cw, .int .i64 (k : Int), .int .i64 0, .int .i64 0, .slice none 0 0] 133)).setCell ⟨w.heap.size + 1, k, none⟩ (.pointer (some ⟨w2.heap.size, 0, none⟩))) (w.heap.size + 1) (⟨w2.heap.size, wr.heap.size, .slice none 0 0, 0, [], width, 0, en, hb, hear0 m (k : Int) m.links.length, .slice aw nw cw, ways0 m (k : Int) m.links.length, (k : Int), 0, 0, .slice none 0 0, []⟩ : Pr) := by
            refine ⟨?_, fun y hy => by simp at hy, hw1, hw2, Nat.le_refl _, Nat.le_refl _, Own.nil _ _ _, fun g hg => by (cases hg), ?_, ?_, ?_, hwh, ?_⟩
            · refine QCore.empty _ (w.heap.size + 1) w2.heap.size wr.heap.size width 133 #[.int .i64 en, .map (some hb), .slice aw nw cw, .int .i64 (k : Int), .int .i64 0, .int .i64 0, .slice none 0 0] hBk (by omega) (by omega) ?_ ?_
              · rw [hk3.block _ (by simp; omega) (by omega)]
                exact (Below.heap_alloc _ _ _ (by omega)).trans hmm2
              · exact (blk_newP rfl).keep hk3 hne
            · exact (hmp.keep ((KeptF.refl (fun _ => False) w2).alloc _) (fun e => e)).keep hk3 (by omega)
            · show w.heap.size + 1 ≤ hb
              omega
            · exact ((hO.mono (show w.heap.size + 1 ≤ wr.heap.size + 2 by omega)).keep ((KeptF.refl (fun _ => False) w2).alloc _) (fun _ _ e => e)).keep hk3 (fun g hg e => by have := (hO.lt hg).1; omega)
            · intro g hg
              have hgl : wr.heap.size + 2 ≤ g ∧ g < w2.heap.size := by
                rcases hg with h1 | h1
                · subst h1; exact ⟨hhb, hmp.lt⟩
                · exact hO.lt h1
              refine ⟨?_, fun e => by cases e⟩
              rintro (h1 | h1 | h1 | ⟨y, hy, _⟩)
              · simp only at h1; omega
              · simp only at h1; omega
              · cases h1
              · simp at hy
          have hPF : ∀ i, PF (⟨w2.heap.size, wr.heap.size, .slice none 0 0, 0, [], width, 0, en, hb, hear0 m (k : Int) m.links.length, .slice aw nw cw, ways0 m (k : Int) m.links.length, (k : Int), 0, 0, .slice none 0 0, []⟩ : Pr) i → wr.heap.size ≤ i := by
            rintro i ((h1 | h1 | h1 | ⟨y, hy, _⟩) | h1 | h1 | h1)
            · simp only at h1; omega
            · simp only at h1; omega
            · cases h1
            · simp at hy
            · cases h1
            · have h1 : i = hb := h1
              omega
            · have := (hO.lt h1).1
              omega
          have hset := hPW.arr.set k (.pointer (some ⟨w2.heap.size, 0, none⟩))
          refine ⟨k + 1, ps ++ [(⟨w2.heap.size, wr.heap.size, .slice none 0 0, 0, [], width, 0, en, hb, hear0 m (k : Int) m.links.length, .slice aw nw cw, ways0 m (k : Int) m.links.length, (k : Int), 0, 0, .slice none 0 0, []⟩ : Pr)], by go_num, hlt, by rw [List.length_append, Hlen.out]; rfl, ?_, ?_, ?_⟩
          · refine hP.snoc (by rw [Hlen.out]; exact hlt) ((hkW.weaken (fun _ _ e => e.elim)).trans hk3) ?_ hPA hPF
            rw [Hlen.out]
            rw [Hlen.out] at hset
            exact hset
          · intro i p hp
            by_cases hi : i < ps.length
            · rw [List.getElem?_append_left hi] at hp; exact hfr i p hp
            · have h1 := get_lt hp
              rw [List.length_append, List.length_singleton] at h1
              have e : i = ps.length := by omega
              rw [e, List.getElem?_append_right (Nat.le_refl _), Nat.sub_self] at hp
              simp at hp
              subst hp
              rw [Hlen.out] at e
              subst e
              exact ⟨⟨rfl, rfl, rfl, rfl, rfl, rfl⟩, ⟨rfl, rfl, rfl, rfl⟩⟩
          · refine hbl.trans (KeptF.below ((hkW.weaken (fun _ _ e => e.elim)).trans hk3) hBk (fun i hi => ?_))
            omega
        case measure => simp [intOf]; omega
    · have hke : k = n := by omega
      subst hke
      have hS := sim_fresh hlen (fun i p hp => (hfr i p hp).1)
      have hC0 : ∀ (i : Nat) (p : Pr), ps[i]? = some p → Clock0 m en i p := fun i p hp => (hfr i p hp).2
      have hpu : ∀ p ∈ ps, p.pushed ≤ 0 := fun p hp => by
        obtain ⟨i, hi⟩ := List.getElem?_of_mem hp
        rw [(hfr i p hi).1.2.2.2.2.1]; exact Nat.le_refl _
      have m5 : wr.cell? ⟨w.heap.size, 5, none⟩ = some (.slice ao2 m.starts.length cap2) := (hbl.cell (p := ⟨w.heap.size, 5, none⟩) (Nat.lt_succ_self _)).trans (hmb.cell 5)
      clear hfr hlen
      go_wp2
      clear m5
      go_loopw [34] (fun s34 wr => ∃ (j : Nat) (ps : List Pr), s34 = .int .i64 j ∧ j ≤ m.starts.length ∧ Procs wr (w.heap.size + 1) (w.heap.size + 1) k ps ∧ Sim k ((c0 m).wait.take j) (List.replicate k 0) (List.replicate k 0) (List.replicate k []) ps ∧ (∀ p ∈ ps, p.pushed ≤ j) ∧ Below (w.heap.size + 1) W0 wr ∧ (∀ (i : Nat) (p : Pr), ps[i]? = some p → Clock0 m en i p)) (fun s34 _ => m.starts.length - (intOf s34).toNat)
      case atStart => exact ⟨0, ps, rfl, Nat.zero_le _, hP, by rw [List.take_zero]; exact hS, hpu, hbl, hC0⟩
      case round =>
        clear hP hS hpu hbl hBk hlt hk Hlen hC0
        obtain ⟨j, ps, rfl, hj, hP, hS, hpu, hbl, hC⟩ := hrel
        have hbw : Below w.heap.size w wr := hB0.trans (hbl.mono (by omega))
        have hBk : w.heap.size + 1 ≤ wr.heap.size := by have := hbl.size; rw [Hz.out] at this; exact this
        by_cases hlt : j < m.starts.length
        · obtain ⟨s, hs⟩ := get_of_lt hlt
          obtain ⟨b, off, hao, hbB, hc⟩ := RowsAt.at_ (hM.keep (hbw.mono hBm)).starts hs
          subst hao
          have x0 := hc 0 (.int .i64 s.p) rfl
          have x1 := hc 1 (.int .i64 s.t) rfl
          have x2 := hc 2 (.int .i64 s.l) rfl
          simp only [Nat.add_zero] at x0
          have hst := hm.start hs
          have Hs : Hid (m.starts[j]? = some s) := hs
          have hpk : s.p < (k : Int) := by have := Hnp.out; unfold np at this; omega
          obtain ⟨p, hp⟩ := get_of_lt (d := ps) (k := s.p.toNat) (by rw [hS.len]; omega)
          have Hp : Hid (ps[s.p.toNat]? = some p) := hp
          have hsb : Blk (wr.alloc (.cells #[.int .i64 s.p, .int .i64 s.t, .int .i64 s.l] 73)) wr.heap.size #[.int .i64 s.p, .int .i64 s.t, .int .i64 s.l] 73 := heap_alloc_new wr _
          have hPs := hP.grow ((KeptF.refl (fun _ => False) wr).alloc (.cells #[.int .i64 s.p, .int .i64 s.t, .int .i64 s.l] 73))
          have hPd := hPs.grow (KeptF.drew (KeptF.refl (fun _ => False) _))
          have cp := hP.cell hp
          have hlp : w.heap.size + 1 < wr.heap.size := hP.arr.lt
          have hppu := hpu p (List.mem_of_getElem? hp)
          have hpush := pPush _ (w.heap.size + 1) p ⟨s.t, -1, (j : Int), s.l⟩ (hPd.each p (List.mem_of_getElem? hp)) (by simp; omega) (by unfold InInt; simp only; omega) (by omega)
          have hlb : b < wr.heap.size := block_lt_of_cell x0
          have hlq : p.qb < wr.heap.size := (hP.each p (List.mem_of_getElem? hp)).core.blk.lt
          clear hs hc hp
          go_wp2
          refine still_tail' 13 (by kernel_rfl) (by kernel_rfl) ?_
          simp only [List.take_succ_cons, List.take_zero, List.drop_succ_cons, List.drop_zero]
          repeat still_step
          refine wpStill_nil ?_
          go_wp2_with fail
          refine hpush.mono ?_
          rintro e1 w2 ⟨rfl, p', hT, hpp, hits⟩
          clear hpush x0 x1 x2 cp
          go_wp2
          go_roundw
          case rel =>
            have hW : (c0 m).wait.take (j + 1) = (c0 m).wait.take j ++ [initEv j s] := by
              have h2 : (c0 m).wait[j]? = some (initEv j s) := by
                show (m.starts.mapIdx initEv)[j]? = _
                rw [List.getElem?_mapIdx, Hs.out]; rfl
              rw [List.take_add_one, h2]; rfl
            refine ⟨j + 1, ps.set s.p.toNat p', by go_num, hlt, hPd.turned Hp.out hT, ?_, ?_, ?_, ?_⟩
            · rw [hW]
              exact hS.push Hp.out (show s.p = ((s.p.toNat : Nat) : Int) by omega) hT.num hT.st hT.sent hT.dn hits
            · intro q hq
              obtain ⟨i, hi⟩ := List.getElem?_of_mem hq
              rcases set_get hi with ⟨_, e2⟩ | ⟨_, e2⟩
              · rw [e2, hpp]; omega
              · have := hpu q (List.mem_of_getElem? e2); omega
            · have hk1 : Below (w.heap.size + 1) wr (wr.alloc (.cells #[.int .i64 s.p, .int .i64 s.t, .int .i64 s.l] 73)).drew := KeptF.below (F := fun _ => False) (((KeptF.refl _ wr).alloc _).drew) hBk (fun i hi => hi.elim)
              exact hbl.trans (hk1.trans (KeptF.below hT.kept (by simp; omega) (fun i hi => ((hPd.each p (List.mem_of_getElem? Hp.out)).lt hi).1)))
            · intro i q hq
              rcases set_get hq with ⟨e1, e2⟩ | ⟨_, e2⟩
              · have h1 := hC _ p Hp.out
                subst e1 e2
                refine ⟨hT.en.trans h1.en, hT.hr.trans h1.hr, hT.ws.trans h1.ws, ?_⟩
                rw [hpp, hits.length_eq, h1.pu]; rfl
              · exact hC i q e2
          case measure => simp [intOf]; omega
        · have hje : j = m.starts.length := by omega
          subst hje
          go_wp2
          go_ret
          refine ⟨w.heap.size + 1, ps, rfl, hP, ?_, fun p hp => by have := hpu p hp; omega, hbw, hC⟩
          have hl : (c0 m).wait.take m.starts.length = (c0 m).wait := List.take_of_length_le (by simp [c0])
          rw [hl] at hS
          have hst : (c0 m).states = List.replicate k 0 := by show List.replicate (np m) 0 = _; rw [Hnp.out]
          have hsq : (c0 m).seqs = List.replicate k 0 := by show List.replicate (np m) 0 = _; rw [Hnp.out]
          have hdn : (c0 m).done = List.replicate k [] := by show List.replicate (np m) [] = _; rw [Hnp.out]
          rw [hst, hsq, hdn]
          exact hS

end Go.Proofs.Ytaieackeflmhgaa

