/-
  The reference: an event is done.
-/
import Derived.Test.YtkobkilfbbalaaaK06
import Derived.Deep.Cut
import Derived.Deep.CutRange
import Derived.Deep.DeepCutAuto
import Derived.Deep.RegionHeld3
namespace Go.Proofs.Ytkobkilfbbalaaa
open Go.RowKit Go.Sort Go.Maps

theorem info_ev : (Try.prog.info? 144).map (fun i => (i.zero, i.size, i.bytes)) = some (some (.agg #[.int .i64 0, .int .i64 0, .int .i64 0, .int .i64 0, .int .i64 0, .int .i64 0]), 6, 48) := by kernel_rfl
theorem info_dn : (Try.prog.info? 127).map (fun i => (i.zero, i.size, i.bytes)) = some (some (.agg #[.int .i64 0, .int .i64 0, .int .i64 0, .int .i64 0, .int .i64 0]), 5, 40) := by kernel_rfl
theorem info_in : (Try.prog.info? 3).map (fun i => (i.zero, i.size, i.bytes)) = some (some (.int .i64 0), 1, 8) := by kernel_rfl

structure Olds (w : World) (cb sb qb db kb : Nat) : Prop where
  c : cb < w.heap.size
  s : sb < w.heap.size
  q : qb < w.heap.size
  d : db < w.heap.size
  k : kb < w.heap.size

def cMid (m : Mdl) (c : Cs) (j : Nat) (e : Ev) : Cs :=
  match ruleAt m e.p (c.states.getD e.p.toNat 0) e.it.l with
  | none => { c with wait := c.wait.eraseIdx j }
  | some r => { c with wait := c.wait.eraseIdx j ++ emitted m e (c.seqs.getD e.p.toNat 0) (c.done.getD e.p.toNat []).length r.es, states := c.states.set e.p.toNat r.n, seqs := c.seqs.set e.p.toNat (c.seqs.getD e.p.toNat 0 + r.es.length) }

theorem doEv_mid {m : Mdl} {c : Cs} {j : Nat} {e : Ev} (h : e.p.toNat < c.states.length) : doEv m c j e = { cMid m c j e with done := c.done.set e.p.toNat (c.done.getD e.p.toNat [] ++ [⟨e.it, (cMid m c j e).states.getD e.p.toNat 0⟩]), causes := c.causes.set e.p.toNat (c.causes.getD e.p.toNat [] ++ [e.c]), all := c.all + 1 } := by
  unfold doEv cMid
  split
  · rename_i h1; simp only [h1]
  · rename_i r h1
    simp only [h1]
    congr
    rw [List.getD_eq_getElem?_getD, List.getElem?_set_self h]; rfl

theorem cMid_states {m : Mdl} {c : Cs} {j : Nat} {e : Ev} : (cMid m c j e).states.length = c.states.length ∧ (cMid m c j e).done = c.done ∧ (cMid m c j e).causes = c.causes ∧ (cMid m c j e).all = c.all := by
  unfold cMid; split <;> simp

def cPart (m : Mdl) (c : Cs) (j : Nat) (e : Ev) (r : MRule) (k : Nat) : Cs :=
  { c with wait := c.wait.eraseIdx j ++ (emitted m e (c.seqs.getD e.p.toNat 0) (c.done.getD e.p.toNat []).length r.es).take k, states := c.states.set e.p.toNat r.n, seqs := c.seqs.set e.p.toNat (c.seqs.getD e.p.toNat 0 + k) }

theorem find_of_firstIx {m : Mdl} {p s l : Int} {i : Nat} {r : MRule} (h1 : m.rules[i]? = some r) (h2 : ruleFor p s l r = true) (h3 : ∀ (j : Nat) (y : MRule), j < i → m.rules[j]? = some y → ruleFor p s l y = false) : ruleAt m p s l = some r := by
  unfold ruleAt
  have hi := get_lt h1
  rw [List.find?_eq_some_iff_getElem]
  refine ⟨h2, i, hi, ?_, fun j hj => ?_⟩
  · rw [List.getElem?_eq_getElem hi, Option.some.injEq] at h1; exact h1
  · have := h3 j _ hj (List.getElem?_eq_getElem (by omega))
    simp [this]
theorem find_none {m : Mdl} {p s l : Int} (h : ∀ (j : Nat) (y : MRule), m.rules[j]? = some y → ruleFor p s l y = false) : ruleAt m p s l = none := by
  unfold ruleAt
  rw [List.find?_eq_none]
  intro x hx
  obtain ⟨j, hj⟩ := List.getElem?_of_mem hx
  simp [h j x hj]

theorem below_kept {B : Nat} {w w' : World} (h : Below B w w') : KeptF (fun k => B ≤ k) w w' := ⟨h.os, h.tape, h.output, h.size, fun k _ hk => h.block k (by omega)⟩

set_option maxRecDepth 100000 in
set_option maxHeartbeats 8000000 in
theorem do_any (w : World) (B Bm cb : Nat) (lv rv sv : Value) (m : Mdl) (wv : Value) (sb qb db kb : Nat) (D C : List Value) (c : Cs) (R : List RuleV) (j : Nat) (e : Ev)
    (h : CAt w B cb lv rv sv m wv sb qb db kb D C c) (hm : Right m) (hI : Inv m c) (hM : ModelAt w Bm lv rv sv m R) (hBm : Bm ≤ B) (hB : B ≤ w.heap.size) (he : c.wait[j]? = some e) (ht : e.it.t < 200) (hall : c.all ≤ 300) :
    Calls Try.prog 58 #[.pointer (some ⟨cb, 0, none⟩), .int .i64 j] w fun e' w' => e' = .returned (.tuple #[]) ∧ ∃ wv' D' C', CAt w' B cb lv rv sv m wv' sb qb db kb D' C' (doEv m c j e) ∧ Below B w w' := by
  obtain ⟨g, cap, hwv, hcap⟩ := h.wait.at_ he
  obtain ⟨i0, hi0, hz0, hz1, hz2⟩ := info_parts info_ev
  have hj := get_lt he
  have hlen := hI.len
  obtain ⟨n, hln⟩ : ∃ n, n = c.wait.length := ⟨_, rfl⟩
  have Hn : Hid (n = c.wait.length) := hln
  rw [← hln] at hwv hcap hlen hj
  subst hwv
  have hW : Own evE w B (.slice (some ⟨g, 0, none⟩) n cap) c.wait := h.wait
  obtain ⟨a0, a1, a2, a3, a4, a5⟩ := Own.evcells hW he
  have hgl : g < w.heap.size := block_lt_of_cell a0
  have hcl : cb < w.heap.size := h.blk.lt
  obtain ⟨hp0, hpN, het0, het1, -⟩ := hI.ev e (List.mem_of_getElem? he)
  have hpn : e.p < (np m : Int) := by unfold np; omega
  have hDold : ∀ (p : Nat) (v : Value) (g : Nat), D[p]? = some v → v.ownBlock = some g → g < w.heap.size := fun p v g hv hg => (h.lt (i := .dn p) ((own_dn hv).trans hg)).2
  have hKold : ∀ (p : Nat) (v : Value) (g : Nat), C[p]? = some v → v.ownBlock = some g → g < w.heap.size := fun p v g hv hg => (h.lt (i := .ca p) ((own_ca hv).trans hg)).2
  have hCold : Olds w cb sb qb db kb := ⟨h.blk.lt, h.st.lt, h.sq.lt, h.dn.lt, h.ca.lt⟩
  have c6 : w.cell? ⟨cb, 6, none⟩ = some (.slice (some ⟨g, 0, none⟩) n cap) := h.blk.cell 6
  have hk0 : KeptF (fun _ => False) w (w.alloc (.cells #[.int .i64 e.it.t, .int .i64 e.it.f, .int .i64 e.it.s, .int .i64 e.it.l, .int .i64 e.p, .int .i64 e.c] 144)) := (KeptF.refl _ w).alloc _
  have hW0 := hW.keep hk0 (fun _ _ e => e)
  have hlt : (c.wait.take j).length = j := by rw [List.length_take]; omega
  have hcells := Own.takeCells hW0 j (by rw [← hln]; omega)
  have hone := flat_one evE (c.wait.take j)
  have hone2 := flat_one evE (c.wait.drop (j + 1))
  clear hln
  go_enter Try.func58, Try.ntmps58
  go_wp2_with (at_builtin; refine wpList_append_ownX rfl (.tmp 18) (.tmp 24) 69 rfl (w.heap.size + 1) 144 i0 _ 6 48 Try.underlying69 hi0 hz0 hz1 hz2 rfl (by decide) (.slice none 0 0) 0 [] rfl ?own ⟨g, 0, none⟩ j cap (flat evE (c.wait.take j)) rfl ?len ?cells ?one ?b1 ?b2 ?hb ?k)
  case own => exact World.ownsRow_nil _ _ _ _
  case len => rw [flat_length, hlt]; rfl
  case cells => exact hcells
  case one => exact hone
  case b1 => unfold maxLen; omega
  case b2 => omega
  case hb => simp
  case k =>
    intro v1 w1 hown1 hgr1 hfr1
    have hK1 : Below w.heap.size w w1 := (below_of_kept hk0).trans (((Below.refl _ _).grown hgr1 (Nat.le_refl _) (fun k hk => by simp [Value.ownBlock] at hk)).mono (by simp))
    have hgr1le : w.heap.size ≤ w1.heap.size := hK1.size
    have hsz1 : w.heap.size < w1.heap.size := by have := hgr1.size; simp at this; omega
    have he1 : Blk w1 w.heap.size #[.int .i64 e.it.t, .int .i64 e.it.f, .int .i64 e.it.s, .int .i64 e.it.l, .int .i64 e.p, .int .i64 e.c] 144 := (show Blk (w.alloc (.cells #[.int .i64 e.it.t, .int .i64 e.it.f, .int .i64 e.it.s, .int .i64 e.it.l, .int .i64 e.p, .int .i64 e.c] 144)) _ _ _ from heap_alloc_new w _).keep (KeptF.of_grown (F := fun _ => False) hgr1 (fun k hk => by simp [Value.ownBlock] at hk)) (fun e => e)
    have hC1 := h.grow (kept_of_below' hK1)
    have hc6 : w1.cell? ⟨cb, 6, none⟩ = some (.slice (some ⟨g, 0, none⟩) n cap) := hC1.blk.cell 6
    have hfz : w1.frozen? ⟨cb, 6, none⟩ = false := hC1.blk.frozen 6
    have hW1 : Own evE w1 B (.slice (some ⟨g, 0, none⟩) n cap) c.wait := hC1.wait
    have heq : flat evE (c.wait.eraseIdx j) = flat evE (c.wait.take j) ++ flat evE (c.wait.drop (j + 1)) := by rw [List.eraseIdx_eq_take_drop_succ, flat_append]
    have hle : (c.wait.eraseIdx j).length = j + (n - (j + 1)) := by rw [List.length_eraseIdx, if_pos (by rw [← Hn.out]; exact hj), ← Hn.out]; omega
    have Heq : Hid (flat evE (c.wait.eraseIdx j) = flat evE (c.wait.take j) ++ flat evE (c.wait.drop (j + 1))) := heq
    have Hle : Hid ((c.wait.eraseIdx j).length = j + (n - (j + 1))) := hle
    have Hdl : Hid ((c.wait.drop (j + 1)).length = n - (j + 1)) := by show _ = _; rw [List.length_drop, ← Hn.out]
    have hcell2 := Own.dropCells hW1 (j + 1) ((j + 1) * 6) rfl
    clear heq hle hcells hone
    go_upto_region 3 with fail
    go_cut [] (fun wc => ∃ wv', CAt wc B cb lv rv sv m wv' sb qb db kb D C { c with wait := c.wait.eraseIdx j } ∧ Blk wc w.heap.size #[.int .i64 e.it.t, .int .i64 e.it.f, .int .i64 e.it.s, .int .i64 e.it.l, .int .i64 e.p, .int .i64 e.c] 144 ∧ Below B w wc ∧ ∀ g, wv'.ownBlock = some g → g ≠ w.heap.size)
    case first =>
      by_cases hce : cap = j + 1
      · subst hce
        have hn0 : Hid (n - (j + 1) = 0) := by show _ = _; omega
        have hd0 : Hid (flat evE (c.wait.drop (j + 1)) = []) := by show _ = _; rw [List.drop_of_length_le (by rw [← Hn.out]; omega)]; rfl
        go_wp2_with (at_builtin; refine wpList_append_ownX rfl (.tmp 27) (.tmp 34) 69 rfl (w.heap.size + 1) 144 i0 _ 6 48 Try.underlying69 hi0 hz0 hz1 hz2 rfl (by decide) v1 j (flat evE (c.wait.take j)) rfl ?own3 ⟨g, 0, none⟩ 0 0 [] rfl rfl ?cells3 ?one3 ?b13 ?b23 ?hb3 ?k3)
        case own3 => exact hown1
        case cells3 => intro j u hu; simp at hu
        case one3 => intro u hu; simp at hu
        case b13 => unfold maxLen; omega
        case b23 => omega
        case hb3 => omega
        case k3 =>
          intro v2 w2 hown2 hgr2 hfr2
          have hO : Own evE w2 (w.heap.size + 1) v2 (c.wait.eraseIdx j) := by unfold Own; rw [Hle.out, Heq.out, hn0.out, hd0.out, Nat.add_zero, List.append_nil]; exact hown2
          obtain ⟨ao2, cap2, rfl, hcap2⟩ := hO.form'
          have hv1 : ∀ k, v1.ownBlock = some k → w.heap.size + 1 ≤ k := fun k hk => World.ownsRow_ge hown1 k hk
          have hK2 : Below w.heap.size w w2 := hK1.trans (KeptF.below (F := fun k => w.heap.size ≤ k) (KeptF.of_grown hgr2 (fun k hk _ => by have := hv1 k hk; omega)) hgr1le (fun i h => h))
          have hC2 := h.grow (kept_of_below' hK2)
          have hfz2 : w2.frozen? ⟨cb, 6, none⟩ = false := hC2.blk.frozen 6
          have hcc2 : w2.cell? ⟨cb, 6, none⟩ = some (.slice (some ⟨g, 0, none⟩) n (j + 1)) := hC2.blk.cell 6
          have he2 : Blk w2 w.heap.size #[.int .i64 e.it.t, .int .i64 e.it.f, .int .i64 e.it.s, .int .i64 e.it.l, .int .i64 e.p, .int .i64 e.c] 144 := he1.keep (KeptF.of_grown (F := fun k => w.heap.size + 1 ≤ k) hgr2 (fun k hk _ => hv1 k hk)) (by omega)
          clear hown2 hgr2 hfr2 hown1 hgr1 hfr1 hW1 hC1 hc6 hfz c6 a0 a1 a2 a3 a4 a5 hW hW0
          go_wp2
          go_meet
          case rel =>
            have hne : w.heap.size ≠ cb := by omega
            refine ⟨_, h.newWait ((KeptF.of_below hK2).setCell (p := ⟨cb, 6, none⟩) (.inl ⟨.c, .inl rfl, rfl⟩) _) (hC2.blk.set 6 _) (((hO.keep ((KeptF.refl (fun k => k = cb) w2).setCell (p := ⟨cb, 6, none⟩) (.inl rfl) _) (fun g hg e => ?_)).mono (by omega))) (fun g hg => ?_), he2.set_other hne _, ?_, fun g hg => by have := (hO.lt hg).1; omega⟩
            · subst e
              have := (hO.lt hg).1; omega
            · exact .inr (by have := (hO.lt hg).1; omega)
            · exact (hK2.mono hB).setCell hC2.lc _
      · go_wp2_with (at_builtin; refine wpList_append_ownX rfl (.tmp 27) (.tmp 34) 69 rfl (w.heap.size + 1) 144 i0 _ 6 48 Try.underlying69 hi0 hz0 hz1 hz2 rfl (by decide) v1 j (flat evE (c.wait.take j)) rfl ?own2 ⟨g, (j + 1) * 6, none⟩ (n - (j + 1)) (cap - (j + 1)) (flat evE (c.wait.drop (j + 1))) rfl ?len2 ?cells2 ?one2 ?b12 ?b22 ?hb2 ?k2)
        case own2 => exact hown1
        case len2 => rw [flat_length, Hdl.out]; rfl
        case cells2 => exact hcell2
        case one2 => exact hone2
        case b12 => unfold maxLen; omega
        case b22 => omega
        case hb2 => omega
        case k2 =>
          intro v2 w2 hown2 hgr2 hfr2
          have hO : Own evE w2 (w.heap.size + 1) v2 (c.wait.eraseIdx j) := by unfold Own; rw [Hle.out, Heq.out]; exact hown2
          obtain ⟨ao2, cap2, rfl, hcap2⟩ := hO.form'
          have hv1 : ∀ k, v1.ownBlock = some k → w.heap.size + 1 ≤ k := fun k hk => World.ownsRow_ge hown1 k hk
          have hK2 : Below w.heap.size w w2 := hK1.trans (KeptF.below (F := fun k => w.heap.size ≤ k) (KeptF.of_grown hgr2 (fun k hk _ => by have := hv1 k hk; omega)) hgr1le (fun i h => h))
          have hC2 := h.grow (kept_of_below' hK2)
          have hfz2 : w2.frozen? ⟨cb, 6, none⟩ = false := hC2.blk.frozen 6
          have hcc2 : w2.cell? ⟨cb, 6, none⟩ = some (.slice (some ⟨g, 0, none⟩) n cap) := hC2.blk.cell 6
          have he2 : Blk w2 w.heap.size #[.int .i64 e.it.t, .int .i64 e.it.f, .int .i64 e.it.s, .int .i64 e.it.l, .int .i64 e.p, .int .i64 e.c] 144 := he1.keep (KeptF.of_grown (F := fun k => w.heap.size + 1 ≤ k) hgr2 (fun k hk _ => hv1 k hk)) (by omega)
          clear hown2 hgr2 hfr2 hown1 hgr1 hfr1 hW1 hC1 hc6 hfz c6 a0 a1 a2 a3 a4 a5 hW hW0
          go_wp2
          go_meet
          case rel =>
            have hne : w.heap.size ≠ cb := by omega
            refine ⟨_, h.newWait ((KeptF.of_below hK2).setCell (p := ⟨cb, 6, none⟩) (.inl ⟨.c, .inl rfl, rfl⟩) _) (hC2.blk.set 6 _) (((hO.keep ((KeptF.refl (fun k => k = cb) w2).setCell (p := ⟨cb, 6, none⟩) (.inl rfl) _) (fun g hg e => ?_)).mono (by omega))) (fun g hg => ?_), he2.set_other hne _, ?_, fun g hg => by have := (hO.lt hg).1; omega⟩
            · subst e
              have := (hO.lt hg).1; omega
            · exact .inr (by have := (hO.lt hg).1; omega)
            · exact (hK2.mono hB).setCell hC2.lc _
    case rest =>
      obtain ⟨wv1, hC, heB, hbl, hwo⟩ := hcut
      clear h hC1 hW hW0 hW1 hown1 hgr1 hfr1 he1 hK1 hk0 hc6 hfz c6 a0 a1 a2 a3 a4 a5 hcell2 hone2
      obtain ⟨s, hst⟩ := get_of_lt (d := c.states) (k := e.p.toNat) (by rw [hI.ls]; unfold np; omega)
      have Hst : Hid (c.states[e.p.toNat]? = some s) := hst
      have hMc : ModelAt wc Bm lv rv sv m R := hM.keep (hbl.mono hBm)
      have hBc : B ≤ wc.heap.size := Nat.le_trans hB hbl.size
      have m0 := cell_regrown (v := .int .i64 m.procs) (hC.blk.cell 0)
      have m1 := cell_regrown (v := .int .i64 m.states) (hC.blk.cell 1)
      have m2 := cell_regrown (v := .int .i64 m.loads) (hC.blk.cell 2)
      have m3 := cell_regrown (v := lv) (hC.blk.cell 3)
      have m4 := cell_regrown (v := rv) (hC.blk.cell 4)
      have m5 := cell_regrown (v := sv) (hC.blk.cell 5)
      have m7 := cell_regrown (v := .slice (some ⟨sb, 0, none⟩) (np m) (np m)) (hC.blk.cell 7)
      have s0 := cell_regrown (v := .int .i64 s) ((hC.st.cell e.p.toNat).trans (ints_get hst))
      have e3 := cell_regrown (v := .int .i64 e.it.l) (heB.cell 3)
      have b4 : wc.cell? ⟨w.heap.size, 4, none⟩ = some (.int .i64 e.p) := heB.cell 4
      have hfind : ∀ q : Regrown, Calls Try.prog 84 #[.agg #[.int .i64 m.procs, .int .i64 m.states, .int .i64 m.loads, lv, rv, sv], .int .i64 e.p, .int .i64 s, .int .i64 e.it.l] (grow (redrawn wc q.d) q.os) fun e' w'' => e' = .returned (.int .i64 (firstIx (ruleFor e.p s e.it.l) m.rules)) ∧ ∃ q : Regrown, w'' = grow (redrawn wc q.d) q.os := fun q => by
        have hb2 := below_regrown wc q.d q.os
        exact Calls.regrown_of (refFind_any m lv rv sv R Bm e.p s e.it.l _ ((hMc.keep (hb2.mono (Nat.le_trans hBm hBc))).rules) hM.same (Nat.le_trans hBm (Nat.le_trans hBc hb2.size)) (by have := hm.lim.nr; omega))
      have hfc := firstIx_cases (ruleFor e.p s e.it.l) m.rules
      generalize firstIx (ruleFor e.p s e.it.l) m.rules = fi at hfind hfc
      clear hst
      go_wp2
      refine wp_region_quiet_below (by kernel_rfl) (by kernel_rfl) ?_
      repeat (quiet_step (exact hfind _))
      refine wpQuiet_nil ?_
      intro wq hw'
      have hbq := below_of_regrown hw'
      have hCq := hC.grow (kept_of_below' hbq)
      have heq := heB.keep (kept_of_below' hbq) (fun e => e)
      have hblq : Below B w wq := hbl.trans (hbq.mono hBc)
      clear hw' m0 m1 m2 m3 m4 m5 m7 s0 e3 b4 hfind hC heB
      go_upto_if 57 with fail
      go_cut [] (fun wz => ∃ wv2, CAt wz B cb lv rv sv m wv2 sb qb db kb D C (cMid m c j e) ∧ Blk wz w.heap.size #[.int .i64 e.it.t, .int .i64 e.it.f, .int .i64 e.it.s, .int .i64 e.it.l, .int .i64 e.p, .int .i64 e.c] 144 ∧ Below B w wz)
      case first =>
        rcases hfc with ⟨rfl, hno⟩ | ⟨ri, r, rfl, hri, hrf, hrb⟩
        · have Hmid : Hid (cMid m c j e = { c with wait := c.wait.eraseIdx j }) := by
            show _ = _
            unfold cMid
            rw [List.getD_eq_getElem?_getD, Hst.out, Option.getD_some, find_none hno]
          go_wp2
          go_meet
          case rel => exact ⟨wv1, by rw [Hmid.out]; exact hCq, heq, hblq⟩
        · have Hrule : Hid (ruleAt m e.p (c.states.getD e.p.toNat 0) e.it.l = some r) := by
            show _ = _
            rw [List.getD_eq_getElem?_getD, Hst.out, Option.getD_some]; exact find_of_firstIx hri hrf hrb
          have hro := ruleOk_iff (hm.rule hri)
          obtain ⟨⟨r', ev⟩, hRx, hRr, hE⟩ := hM.rule (get_lt hri)
          have hrr : r' = r := by have h1 : m.rules[ri]? = some r' := hRr; rw [hri] at h1; cases h1; rfl
          subst hrr
          have hE : EmitsAt w Bm ev r'.es := hE
          obtain ⟨aoe, cape, rfl, hcape⟩ := RowsAt.form hE
          obtain ⟨aor, capr, hrv, hcapr⟩ := RowsAt.form hM.rules.1
          rw [hM.rlen] at hrv hcapr
          subst hrv
          obtain ⟨rb, ro, hao, hrbB, hrc⟩ := RowsAt.at_ hM.rules.1 hRx
          subst hao
          obtain ⟨aol, capl, hlv, hcapl⟩ := RowsAt.form hM.links
          subst hlv
          have hBq : B ≤ wq.heap.size := Nat.le_trans hB hblq.size
          have r0 : wq.cell? ⟨rb, ro + ri * 5, none⟩ = some (.int .i64 r'.p) := (hblq.cell (p := ⟨rb, _, none⟩) (Nat.lt_of_lt_of_le hrbB hBm)).trans (hrc 0 _ rfl)
          have r1 : wq.cell? ⟨rb, ro + ri * 5 + 1, none⟩ = some (.int .i64 r'.s) := (hblq.cell (p := ⟨rb, _, none⟩) (Nat.lt_of_lt_of_le hrbB hBm)).trans (hrc 1 _ rfl)
          have r2 : wq.cell? ⟨rb, ro + ri * 5 + 2, none⟩ = some (.int .i64 r'.l) := (hblq.cell (p := ⟨rb, _, none⟩) (Nat.lt_of_lt_of_le hrbB hBm)).trans (hrc 2 _ rfl)
          have r3 : wq.cell? ⟨rb, ro + ri * 5 + 3, none⟩ = some (.int .i64 r'.n) := (hblq.cell (p := ⟨rb, _, none⟩) (Nat.lt_of_lt_of_le hrbB hBm)).trans (hrc 3 _ rfl)
          have r4 : wq.cell? ⟨rb, ro + ri * 5 + 4, none⟩ = some (.slice aoe r'.es.length cape) := (hblq.cell (p := ⟨rb, _, none⟩) (Nat.lt_of_lt_of_le hrbB hBm)).trans (hrc 4 _ rfl)
          have q4 : wq.cell? ⟨cb, 4, none⟩ = some (.slice (some ⟨rb, ro, none⟩) m.rules.length capr) := hCq.blk.cell 4
          have q7 : wq.cell? ⟨cb, 7, none⟩ = some (.slice (some ⟨sb, 0, none⟩) (np m) (np m)) := hCq.blk.cell 7
          have q0 : wq.cell? ⟨sb, e.p.toNat, none⟩ = some (.int .i64 s) := (hCq.st.cell e.p.toNat).trans (ints_get Hst.out)
          have qf : wq.frozen? ⟨sb, e.p.toNat, none⟩ = false := hCq.st.frozen _
          have hri' := get_lt hri
          have hril : (ri : Int) < m.rules.length := by omega
          have hcbq := hCq.blk.lt
          have hsbq := hCq.st.lt
          have hC1 : CAt ((wq.setCell ⟨sb, e.p.toNat, none⟩ (.int .i64 r'.n)).alloc (.cells #[.int .i64 r'.p, .int .i64 r'.s, .int .i64 r'.l, .int .i64 r'.n, .slice aoe r'.es.length cape] 81)).drew B cb (.slice aol m.links.length capl) (.slice (some ⟨rb, ro, none⟩) m.rules.length capr) sv m wv1 sb qb db kb D C { c with wait := c.wait.eraseIdx j, states := c.states.set e.p.toNat r'.n } := ((hCq.setSt e.p.toNat r'.n).1.grow ((KeptF.refl _ _).alloc (.cells #[.int .i64 r'.p, .int .i64 r'.s, .int .i64 r'.l, .int .i64 r'.n, .slice aoe r'.es.length cape] 81))).grow ((KeptF.refl _ _).drew)
          have hk1 : KeptF (fun k => k = sb) wq ((wq.setCell ⟨sb, e.p.toNat, none⟩ (.int .i64 r'.n)).alloc (.cells #[.int .i64 r'.p, .int .i64 r'.s, .int .i64 r'.l, .int .i64 r'.n, .slice aoe r'.es.length cape] 81)).drew := (((KeptF.refl (fun k => k = sb) wq).setCell (p := ⟨sb, e.p.toNat, none⟩) (.inl rfl) _).alloc _).drew
          have hsne : w.heap.size ≠ sb := fun e' => by have h1 := hCold.s; omega
          have he1 := heq.keep hk1 hsne
          have hr1 : Blk ((wq.setCell ⟨sb, e.p.toNat, none⟩ (.int .i64 r'.n)).alloc (.cells #[.int .i64 r'.p, .int .i64 r'.s, .int .i64 r'.l, .int .i64 r'.n, .slice aoe r'.es.length cape] 81)).drew wq.heap.size #[.int .i64 r'.p, .int .i64 r'.s, .int .i64 r'.l, .int .i64 r'.n, .slice aoe r'.es.length cape] 81 := by
            have h1 := heap_alloc_new (wq.setCell ⟨sb, e.p.toNat, none⟩ (.int .i64 r'.n)) (.cells #[.int .i64 r'.p, .int .i64 r'.s, .int .i64 r'.l, .int .i64 r'.n, .slice aoe r'.es.length cape] 81)
            have h2 : (wq.setCell ⟨sb, e.p.toNat, none⟩ (.int .i64 r'.n)).heap.size = wq.heap.size := by simp [World.setCell]
            rw [h2] at h1
            exact h1
          have hb1 : Below B w ((wq.setCell ⟨sb, e.p.toNat, none⟩ (.int .i64 r'.n)).alloc (.cells #[.int .i64 r'.p, .int .i64 r'.s, .int .i64 r'.l, .int .i64 r'.n, .slice aoe r'.es.length cape] 81)).drew := hblq.trans (KeptF.below hk1 hBq (fun i h => by subst h; exact hCq.ls))
          obtain ⟨sq, hsq⟩ := get_of_lt (d := c.seqs) (k := e.p.toNat) (by rw [hI.lq]; unfold np; omega)
          have hsqb := hI.sq _ _ hsq
          have Hsq : Hid (c.seqs.getD e.p.toNat 0 = sq) := by show _ = _; rw [List.getD_eq_getElem?_getD, hsq]; rfl
          obtain ⟨dl, hdl⟩ := get_of_lt (d := c.done) (k := e.p.toNat) (by rw [hI.ld]; unfold np; omega)
          have Hdn : Hid (c.done.getD e.p.toNat [] = dl) := by show _ = _; rw [List.getD_eq_getElem?_getD, hdl]; rfl
          have hdll := hI.dl _ _ hdl
          have Hdl' : Hid (c.done[e.p.toNat]? = some dl) := hdl
          have Hsq' : Hid (c.seqs[e.p.toNat]? = some sq) := hsq
          clear hdl hsq
          have Hp0 : Hid (cPart m c j e r' 0 = { c with wait := c.wait.eraseIdx j, states := c.states.set e.p.toNat r'.n }) := by
            show _ = _
            unfold cPart
            rw [Hsq.out, show sq + ((0 : Nat) : Int) = sq by omega, set_same Hsq'.out]
            simp
          have hel : r'.es.length ≤ 4 := hro.2.2.2.2.1
          go_wp2
          refine still_tail' 7 (by kernel_rfl) (by kernel_rfl) ?_
          simp only [List.take_succ_cons, List.take_zero, List.drop_succ_cons, List.drop_zero]
          repeat still_step
          refine wpStill_nil ?_
          go_wp2
          clear r0 r1 r2 r3 r4 q4 q7 q0 qf hrc
          go_loopw [9] (fun s9 wr => ∃ (k : Nat) (wvk : Value), s9 = .int .i64 k ∧ k ≤ r'.es.length ∧ CAt wr B cb (.slice aol m.links.length capl) (.slice (some ⟨rb, ro, none⟩) m.rules.length capr) sv m wvk sb qb db kb D C (cPart m c j e r' k) ∧ Blk wr w.heap.size #[.int .i64 e.it.t, .int .i64 e.it.f, .int .i64 e.it.s, .int .i64 e.it.l, .int .i64 e.p, .int .i64 e.c] 144 ∧ Blk wr wq.heap.size #[.int .i64 r'.p, .int .i64 r'.s, .int .i64 r'.l, .int .i64 r'.n, .slice aoe r'.es.length cape] 81 ∧ Below B w wr ∧ ∀ g, wvk.ownBlock = some g → g ≠ w.heap.size ∧ g ≠ wq.heap.size) (fun s9 _ => r'.es.length - (intOf s9).toNat)
          case atStart => exact ⟨0, wv1, rfl, Nat.zero_le _, by rw [Hp0.out]; exact hC1, he1, hr1, hb1, fun g hg => ⟨hwo g hg, by have := (hCq.lt (i := .w) hg).2; omega⟩⟩
          case round =>
            obtain ⟨k, wvk, rfl, hk, hCk, heBk, hrBk, hblk, hwok⟩ := hrel
            have hBk : B ≤ wr.heap.size := Nat.le_trans hB hblk.size
            have hMk := hM.keep (hblk.mono hBm)
            have r4k : wr.cell? ⟨wq.heap.size, 4, none⟩ = some (.slice aoe r'.es.length cape) := hrBk.cell 4
            by_cases hlt : k < r'.es.length
            · obtain ⟨x, hx⟩ := get_of_lt hlt
              obtain ⟨eb, eo, hao, hebB, hec⟩ := RowsAt.at_ (RowsAt.keep hE (hblk.mono hBm)) hx
              subst hao
              have x0 := hec 0 (.int .i64 x.k) rfl
              have x1 := hec 1 (.int .i64 x.d) rfl
              have x2 := hec 2 (.int .i64 x.l) rfl
              simp only [Nat.add_zero] at x0
              obtain ⟨y, hy, hyk0, hykl, hyf, hya, hyd, hyl0, hyl1⟩ := emitOk_iff (hro.2.2.2.2.2 x (List.mem_of_getElem? hx))
              have hyb := hm.link hy
              have hxd1 : 1 ≤ x.d := by omega
              have hwrap : IntKind.i64.wrap (e.it.t + x.d) = e.it.t + x.d := by rw [IntKind.wrap_i64]; omega
              obtain ⟨lb, lo, hao, hlbB, hlc⟩ := RowsAt.at_ hMk.links hy
              subst hao
              have y1 := hlc 1 (.int .i64 y.t) rfl
              obtain ⟨aow, capw, hwvk, hcapw⟩ := hCk.wait.form'
              subst hwvk
              obtain ⟨nw, hnw⟩ : ∃ nw, nw = (cPart m c j e r' k).wait.length := ⟨_, rfl⟩
              have Hnw : Hid (nw = (cPart m c j e r' k).wait.length) := hnw
              have hnwb : nw ≤ 1300 := by
                rw [hnw]
                simp only [cPart, List.length_append, List.length_take]
                have := Hle.out
                omega
              rw [← hnw] at hcapw hCk hwok
              clear hnw
              obtain ⟨dv, hdv⟩ := get_of_lt (d := D) (k := e.p.toNat) (by rw [hCk.dl]; unfold np; omega)
              have hdo : Own dnE wr B dv dl := hCk.dns _ _ _ hdv Hdl'.out
              obtain ⟨aod, capd, hdvf, hcapd⟩ := hdo.form'
              subst hdvf
              have c6 : wr.cell? ⟨cb, 6, none⟩ = some (.slice aow nw capw) := hCk.blk.cell 6
              have c3 : wr.cell? ⟨cb, 3, none⟩ = some (.slice (some ⟨lb, lo, none⟩) m.links.length capl) := hCk.blk.cell 3
              have c8 : wr.cell? ⟨cb, 8, none⟩ = some (.slice (some ⟨qb, 0, none⟩) (np m) (np m)) := hCk.blk.cell 8
              have c9 : wr.cell? ⟨cb, 9, none⟩ = some (.slice (some ⟨db, 0, none⟩) (np m) (np m)) := hCk.blk.cell 9
              have Hsk : Hid ((cPart m c j e r' k).seqs[e.p.toNat]? = some (sq + (k : Int))) := by
                show _ = _
                simp only [cPart]
                rw [List.getElem?_set_self (get_lt Hsq'.out), Hsq.out]
              have q0 : wr.cell? ⟨qb, e.p.toNat, none⟩ = some (.int .i64 (sq + (k : Int))) := (hCk.sq.cell e.p.toNat).trans (ints_get Hsk.out)
              have d0 : wr.cell? ⟨db, e.p.toNat, none⟩ = some (.slice aod dl.length capd) := (hCk.dn.cell e.p.toNat).trans (by simpa using hdv)
              have b0 : wr.cell? ⟨w.heap.size, 0, none⟩ = some (.int .i64 e.it.t) := heBk.cell 0
              have hlcb := hCk.blk.lt
              have hlqb := hCk.sq.lt
              have hldb := hCk.dn.lt
              have hlw := heBk.lt
              have hlwq := hrBk.lt
              have hllb : lb < wr.heap.size := block_lt_of_cell y1
              have hleb : eb < wr.heap.size := block_lt_of_cell x0
              have Hx : Hid (r'.es[k]? = some x) := hx
              have Hy : Hid (m.links[x.k.toNat]? = some y) := hy
              have hcc := newCells (wr.alloc (.cells #[.int .i64 x.k, .int .i64 x.d, .int .i64 x.l] 84)) [.int .i64 (e.it.t + x.d), .int .i64 e.p, .int .i64 (sq + (k : Int)), .int .i64 x.l, .int .i64 y.t, .int .i64 (dl.length : Int)] 144
              rw [World.size_alloc] at hcc
              have hWW : KeptF (fun _ => False) wr ((wr.alloc (.cells #[.int .i64 x.k, .int .i64 x.d, .int .i64 x.l] 84)).alloc (.cells #[.int .i64 (e.it.t + x.d), .int .i64 e.p, .int .i64 (sq + (k : Int)), .int .i64 x.l, .int .i64 y.t, .int .i64 (dl.length : Int)] 144)).drew := (((KeptF.refl _ wr).alloc _).alloc _).drew
              have hWl := hWW.size
              have hone : ∀ u ∈ [Value.int .i64 (e.it.t + x.d), .int .i64 e.p, .int .i64 (sq + (k : Int)), .int .i64 x.l, .int .i64 y.t, .int .i64 (dl.length : Int)], u.oneCell' = true := by
                intro u hu
                simp only [List.mem_cons, List.not_mem_nil, or_false] at hu
                rcases hu with rfl | rfl | rfl | rfl | rfl | rfl <;> rfl
              clear hx hy hec hlc
              have hC1k := hCk.grow ((KeptF.refl _ wr).alloc (.cells #[.int .i64 x.k, .int .i64 x.d, .int .i64 x.l] 84))
              have he1k := heBk.alloc (.cells #[.int .i64 x.k, .int .i64 x.d, .int .i64 x.l] 84)
              have hxb : Blk (wr.alloc (.cells #[.int .i64 x.k, .int .i64 x.d, .int .i64 x.l] 84)) wr.heap.size #[.int .i64 x.k, .int .i64 x.d, .int .i64 x.l] 84 := heap_alloc_new wr _
              have nwo : ∀ i g, i ≠ Ix.w → owner cb sb qb db kb (.slice aow nw capw) D C i = some g → (Value.slice aow nw capw).ownBlock ≠ some g := fun i g hi hg e => hi (hCk.dist i .w g hg e)
              have nlow : ∀ g, g < B → (Value.slice aow nw capw).ownBlock ≠ some g := fun g hg e => by have := (hCk.wait.lt e).1; omega
              have K3 := Sp.cell (b0 := cb) (o0 := 6) (own := (Value.slice aow nw capw).ownBlock) (v := .slice (some ⟨lb, lo, none⟩) m.links.length capl) (hC1k.blk.cell 3) (nwo .c _ (by simp) rfl) (by simp)
              have K8 := Sp.cell (b0 := cb) (o0 := 6) (own := (Value.slice aow nw capw).ownBlock) (v := .slice (some ⟨qb, 0, none⟩) (np m) (np m)) (hC1k.blk.cell 8) (nwo .c _ (by simp) rfl) (by simp)
              have K9 := Sp.cell (b0 := cb) (o0 := 6) (own := (Value.slice aow nw capw).ownBlock) (v := .slice (some ⟨db, 0, none⟩) (np m) (np m)) (hC1k.blk.cell 9) (nwo .c _ (by simp) rfl) (by simp)
              have Kq := Sp.cell (b0 := cb) (o0 := 6) (own := (Value.slice aow nw capw).ownBlock) (v := .int .i64 (sq + (k : Int))) ((hC1k.sq.cell e.p.toNat).trans (ints_get Hsk.out)) (nwo .q _ (by simp) rfl) (fun ⟨h1, _⟩ => by have := hCk.dist .q .c cb (by rw [← h1]; rfl) rfl; cases this)
              have Kd := Sp.cell (b0 := cb) (o0 := 6) (own := (Value.slice aow nw capw).ownBlock) (v := .slice aod dl.length capd) ((hC1k.dn.cell e.p.toNat).trans (by simpa using hdv)) (nwo .d _ (by simp) rfl) (fun ⟨h1, _⟩ => by have := hCk.dist .d .c cb (by rw [← h1]; rfl) rfl; cases this)
              have Kt := Sp.cell (b0 := cb) (o0 := 6) (own := (Value.slice aow nw capw).ownBlock) (v := .int .i64 e.it.t) (he1k.cell 0) (fun e' => (hwok _ e').1 rfl) (fun ⟨h1, _⟩ => by omega)
              have X0 := Sp.cell (b0 := cb) (o0 := 6) (own := (Value.slice aow nw capw).ownBlock) (v := .int .i64 x.k) (hxb.cell 0) (fun e' => by have := (hCk.lt (i := .w) e').2; omega) (fun ⟨h1, _⟩ => by omega)
              have X1 := Sp.cell (b0 := cb) (o0 := 6) (own := (Value.slice aow nw capw).ownBlock) (v := .int .i64 x.d) (hxb.cell 1) (fun e' => by have := (hCk.lt (i := .w) e').2; omega) (fun ⟨h1, _⟩ => by omega)
              have X2 := Sp.cell (b0 := cb) (o0 := 6) (own := (Value.slice aow nw capw).ownBlock) (v := .int .i64 x.l) (hxb.cell 2) (fun e' => by have := (hCk.lt (i := .w) e').2; omega) (fun ⟨h1, _⟩ => by omega)
              have Y1 := Sp.cell (b0 := cb) (o0 := 6) (own := (Value.slice aow nw capw).ownBlock) (v := .int .i64 y.t) (cell?_alloc_some' (o := .cells #[.int .i64 x.k, .int .i64 x.d, .int .i64 x.l] 84) y1) (nlow _ (by omega)) (fun ⟨h1, _⟩ => by have := hCk.lc; omega)
              have hown0 : ((wr.alloc (.cells #[.int .i64 x.k, .int .i64 x.d, .int .i64 x.l] 84)).alloc (.cells #[.int .i64 (e.it.t + x.d), .int .i64 e.p, .int .i64 (sq + (k : Int)), .int .i64 x.l, .int .i64 y.t, .int .i64 (dl.length : Int)] 144)).drew.ownsRow B 144 6 (.slice aow nw capw) nw (flat evE (cPart m c j e r' k).wait) := by
                have := hCk.wait.keep hWW (fun _ _ e => e)
                unfold Own at this
                rw [← Hnw.out] at this
                exact this
              go_wp2
              refine wp_region_held_drew (S := (fun W => Sp (wr.alloc (.cells #[.int .i64 x.k, .int .i64 x.d, .int .i64 x.l] 84)) cb 6 (Value.slice aow nw capw).ownBlock W)) (by kernel_rfl) ?_ (fun hHeld => ?_)
              · (try dsimp only)
                (first | assumption | exact Sp.drew (by assumption) | exact Sp.of_kept ((KeptF.refl _ _).drew) | exact Sp.of_kept (((KeptF.refl _ _).alloc _).drew) | exact Sp.set (by assumption) _)
              refine takeL 0 (v := ?_) rfl (by kernel_rfl) (by kernel_rfl) (by kernel_rfl) (fun _ _ _ h => h) (by rfl) ?_ (by assumption) ?_
              rotate_left
              · intro w hSw
                (try dsimp only at hSw)
                go_simp
                all_goals with_reducible rfl
              try simp only [Act.put, List.setIfInBounds_toArray, List.set_cons_zero, List.set_cons_succ]
              refine takeL 1 (v := ?_) rfl (by kernel_rfl) (by kernel_rfl) (by kernel_rfl) (fun _ _ _ h => h) (by rfl) ?_ (by assumption) ?_
              rotate_left
              · intro w hSw
                (try dsimp only at hSw)
                go_simp
                all_goals with_reducible rfl
              try simp only [Act.put, List.setIfInBounds_toArray, List.set_cons_zero, List.set_cons_succ]
              refine takeL 2 (v := ?_) rfl (by kernel_rfl) (by kernel_rfl) (by kernel_rfl) (fun _ _ _ h => h) (by rfl) ?_ (by assumption) ?_
              rotate_left
              · intro w hSw
                (try dsimp only at hSw)
                go_simp
                all_goals with_reducible rfl
              try simp only [Act.put, List.setIfInBounds_toArray, List.set_cons_zero, List.set_cons_succ]
              refine takeL 3 (v := ?_) rfl (by kernel_rfl) (by kernel_rfl) (by kernel_rfl) (fun _ _ _ h => h) (by rfl) ?_ (by assumption) ?_
              rotate_left
              · intro w hSw
                (try dsimp only at hSw)
                go_simp
                all_goals with_reducible rfl
              try simp only [Act.put, List.setIfInBounds_toArray, List.set_cons_zero, List.set_cons_succ]
              refine takeL 5 (v := ?_) rfl (by kernel_rfl) (by kernel_rfl) (by kernel_rfl) (fun _ _ _ h => h) (by rfl) ?_ (by assumption) ?_
              rotate_left
              · intro w hSw
                (try dsimp only at hSw)
                go_simp
                all_goals with_reducible rfl
              try simp only [Act.put, List.setIfInBounds_toArray, List.set_cons_zero, List.set_cons_succ]
              refine takeL 6 (v := ?_) rfl (by kernel_rfl) (by kernel_rfl) (by kernel_rfl) (fun _ _ _ h => h) (by rfl) ?_ (by assumption) ?_
              rotate_left
              · intro w hSw
                (try dsimp only at hSw)
                go_simp
                all_goals with_reducible rfl
              try simp only [Act.put, List.setIfInBounds_toArray, List.set_cons_zero, List.set_cons_succ]
              refine takeL 7 (v := ?_) rfl (by kernel_rfl) (by kernel_rfl) (by kernel_rfl) (fun _ _ _ h => h) (by rfl) ?_ (by assumption) ?_
              rotate_left
              · intro w hSw
                (try dsimp only at hSw)
                go_simp
                all_goals with_reducible rfl
              try simp only [Act.put, List.setIfInBounds_toArray, List.set_cons_zero, List.set_cons_succ]
              refine takeL 8 (v := ?_) rfl (by kernel_rfl) (by kernel_rfl) (by kernel_rfl) (fun _ _ _ h => h) (by rfl) ?_ (by assumption) ?_
              rotate_left
              · intro w hSw
                (try dsimp only at hSw)
                go_simp
                all_goals with_reducible rfl
              try simp only [Act.put, List.setIfInBounds_toArray, List.set_cons_zero, List.set_cons_succ]
              refine takeL 9 (v := ?_) rfl (by kernel_rfl) (by kernel_rfl) (by kernel_rfl) (fun _ _ _ h => h) (by rfl) ?_ (by assumption) ?_
              rotate_left
              · intro w hSw
                (try dsimp only at hSw)
                go_simp
                all_goals with_reducible rfl
              try simp only [Act.put, List.setIfInBounds_toArray, List.set_cons_zero, List.set_cons_succ]
              refine takeL 10 (v := ?_) rfl (by kernel_rfl) (by kernel_rfl) (by kernel_rfl) (fun _ _ _ h => h) (by rfl) ?_ (by assumption) ?_
              rotate_left
              · intro w hSw
                (try dsimp only at hSw)
                go_simp
                all_goals with_reducible rfl
              try simp only [Act.put, List.setIfInBounds_toArray, List.set_cons_zero, List.set_cons_succ]
              refine takeL 11 (v := ?_) rfl (by kernel_rfl) (by kernel_rfl) (by kernel_rfl) (fun _ _ _ h => h) (by rfl) ?_ (by assumption) ?_
              rotate_left
              · intro w hSw
                (try dsimp only at hSw)
                go_simp
                all_goals with_reducible rfl
              try simp only [Act.put, List.setIfInBounds_toArray, List.set_cons_zero, List.set_cons_succ]
              refine takeL 12 (v := ?_) rfl (by kernel_rfl) (by kernel_rfl) (by kernel_rfl) (fun _ _ _ h => h) (by rfl) ?_ (by assumption) ?_
              rotate_left
              · intro w hSw
                (try dsimp only at hSw)
                go_simp
                all_goals with_reducible rfl
              try simp only [Act.put, List.setIfInBounds_toArray, List.set_cons_zero, List.set_cons_succ]
              refine takeL 13 (v := ?_) rfl (by kernel_rfl) (by kernel_rfl) (by kernel_rfl) (fun _ _ _ h => h) (by rfl) ?_ (by assumption) ?_
              rotate_left
              · intro w hSw
                (try dsimp only at hSw)
                go_simp
                all_goals with_reducible rfl
              try simp only [Act.put, List.setIfInBounds_toArray, List.set_cons_zero, List.set_cons_succ]
              refine takeL 14 (v := ?_) rfl (by kernel_rfl) (by kernel_rfl) (by kernel_rfl) (fun _ _ _ h => h) (by rfl) ?_ (by assumption) ?_
              rotate_left
              · intro w hSw
                (try dsimp only at hSw)
                go_simp
                all_goals with_reducible rfl
              try simp only [Act.put, List.setIfInBounds_toArray, List.set_cons_zero, List.set_cons_succ]
              refine takeL 15 (v := ?_) rfl (by kernel_rfl) (by kernel_rfl) (by kernel_rfl) (fun _ _ _ h => h) (by rfl) ?_ (by assumption) ?_
              rotate_left
              · intro w hSw
                (try dsimp only at hSw)
                go_simp
                all_goals with_reducible rfl
              try simp only [Act.put, List.setIfInBounds_toArray, List.set_cons_zero, List.set_cons_succ]
              refine takeL 16 (v := ?_) rfl (by kernel_rfl) (by kernel_rfl) (by kernel_rfl) (fun _ _ _ h => h) (by rfl) ?_ (by assumption) ?_
              rotate_left
              · intro w hSw
                (try dsimp only at hSw)
                go_simp
                all_goals with_reducible rfl
              try simp only [Act.put, List.setIfInBounds_toArray, List.set_cons_zero, List.set_cons_succ]
              refine takeL 17 (v := ?_) rfl (by kernel_rfl) (by kernel_rfl) (by kernel_rfl) (fun _ _ _ h => h) (by rfl) ?_ (by assumption) ?_
              rotate_left
              · intro w hSw
                (try dsimp only at hSw)
                go_simp
                all_goals with_reducible rfl
              try simp only [Act.put, List.setIfInBounds_toArray, List.set_cons_zero, List.set_cons_succ]
              refine takeL 18 (v := ?_) rfl (by kernel_rfl) (by kernel_rfl) (by kernel_rfl) (fun _ _ _ h => h) (by rfl) ?_ (by assumption) ?_
              rotate_left
              · intro w hSw
                (try dsimp only at hSw)
                go_simp
                all_goals with_reducible rfl
              try simp only [Act.put, List.setIfInBounds_toArray, List.set_cons_zero, List.set_cons_succ]
              refine takeL 19 (v := ?_) rfl (by kernel_rfl) (by kernel_rfl) (by kernel_rfl) (fun _ _ _ h => h) (by rfl) ?_ (by assumption) ?_
              rotate_left
              · intro w hSw
                (try dsimp only at hSw)
                go_simp
                all_goals with_reducible rfl
              try simp only [Act.put, List.setIfInBounds_toArray, List.set_cons_zero, List.set_cons_succ]
              refine takeL 20 (v := ?_) rfl (by kernel_rfl) (by kernel_rfl) (by kernel_rfl) (fun _ _ _ h => h) (by rfl) ?_ (by assumption) ?_
              rotate_left
              · intro w hSw
                (try dsimp only at hSw)
                go_simp
                all_goals with_reducible rfl
              try simp only [Act.put, List.setIfInBounds_toArray, List.set_cons_zero, List.set_cons_succ]
              refine takeL 21 (v := ?_) rfl (by kernel_rfl) (by kernel_rfl) (by kernel_rfl) (fun _ _ _ h => h) (by rfl) ?_ (by assumption) ?_
              rotate_left
              · intro w hSw
                (try dsimp only at hSw)
                go_simp
                all_goals with_reducible rfl
              try simp only [Act.put, List.setIfInBounds_toArray, List.set_cons_zero, List.set_cons_succ]
              refine takeL 22 (v := ?_) rfl (by kernel_rfl) (by kernel_rfl) (by kernel_rfl) (fun _ _ _ h => h) (by rfl) ?_ (by assumption) ?_
              rotate_left
              · intro w hSw
                (try dsimp only at hSw)
                go_simp
                all_goals with_reducible rfl
              try simp only [Act.put, List.setIfInBounds_toArray, List.set_cons_zero, List.set_cons_succ]
              refine takeL 23 (v := ?_) rfl (by kernel_rfl) (by kernel_rfl) (by kernel_rfl) (fun _ _ _ h => h) (by rfl) ?_ (by assumption) ?_
              rotate_left
              · intro w hSw
                (try dsimp only at hSw)
                go_simp
                all_goals with_reducible rfl
              try simp only [Act.put, List.setIfInBounds_toArray, List.set_cons_zero, List.set_cons_succ]
              refine takeL 24 (v := ?_) rfl (by kernel_rfl) (by kernel_rfl) (by kernel_rfl) (fun _ _ _ h => h) (by rfl) ?_ (by assumption) ?_
              rotate_left
              · intro w hSw
                (try dsimp only at hSw)
                go_simp
                all_goals with_reducible rfl
              try simp only [Act.put, List.setIfInBounds_toArray, List.set_cons_zero, List.set_cons_succ]
              refine takeL 25 (v := ?_) rfl (by kernel_rfl) (by kernel_rfl) (by kernel_rfl) (fun _ _ _ h => h) (by rfl) ?_ (by assumption) ?_
              rotate_left
              · intro w hSw
                (try dsimp only at hSw)
                go_simp
                all_goals with_reducible rfl
              try simp only [Act.put, List.setIfInBounds_toArray, List.set_cons_zero, List.set_cons_succ]
              refine takeL 26 (v := ?_) rfl (by kernel_rfl) (by kernel_rfl) (by kernel_rfl) (fun _ _ _ h => h) (by rfl) ?_ (by assumption) ?_
              rotate_left
              · intro w hSw
                (try dsimp only at hSw)
                go_simp
                all_goals with_reducible rfl
              try simp only [Act.put, List.setIfInBounds_toArray, List.set_cons_zero, List.set_cons_succ]
              refine takeL 27 (v := ?_) rfl (by kernel_rfl) (by kernel_rfl) (by kernel_rfl) (fun _ _ _ h => h) (by rfl) ?_ (by assumption) ?_
              rotate_left
              · intro w hSw
                (try dsimp only at hSw)
                go_simp
                all_goals with_reducible rfl
              try simp only [Act.put, List.setIfInBounds_toArray, List.set_cons_zero, List.set_cons_succ]
              refine takeL 28 (v := ?_) rfl (by kernel_rfl) (by kernel_rfl) (by kernel_rfl) (fun _ _ _ h => h) (by rfl) ?_ (by assumption) ?_
              rotate_left
              · intro w hSw
                (try dsimp only at hSw)
                go_simp
                all_goals with_reducible rfl
              try simp only [Act.put, List.setIfInBounds_toArray, List.set_cons_zero, List.set_cons_succ]
              refine takeL 29 (v := ?_) rfl (by kernel_rfl) (by kernel_rfl) (by kernel_rfl) (fun _ _ _ h => h) (by rfl) ?_ (by assumption) ?_
              rotate_left
              · intro w hSw
                (try dsimp only at hSw)
                go_simp
                all_goals with_reducible rfl
              try simp only [Act.put, List.setIfInBounds_toArray, List.set_cons_zero, List.set_cons_succ]
              refine takeL 30 (v := ?_) rfl (by kernel_rfl) (by kernel_rfl) (by kernel_rfl) (fun _ _ _ h => h) (by rfl) ?_ (by assumption) ?_
              rotate_left
              · intro w hSw
                (try dsimp only at hSw)
                go_simp
                all_goals with_reducible rfl
              try simp only [Act.put, List.setIfInBounds_toArray, List.set_cons_zero, List.set_cons_succ]
              refine takeL 31 (v := ?_) rfl (by kernel_rfl) (by kernel_rfl) (by kernel_rfl) (fun _ _ _ h => h) (by rfl) ?_ (by assumption) ?_
              rotate_left
              · intro w hSw
                (try dsimp only at hSw)
                go_simp
                all_goals with_reducible rfl
              try simp only [Act.put, List.setIfInBounds_toArray, List.set_cons_zero, List.set_cons_succ]
              refine takeL 32 (v := ?_) rfl (by kernel_rfl) (by kernel_rfl) (by kernel_rfl) (fun _ _ _ h => h) (by rfl) ?_ (by assumption) ?_
              rotate_left
              · intro w hSw
                (try dsimp only at hSw)
                go_simp
                all_goals with_reducible rfl
              try simp only [Act.put, List.setIfInBounds_toArray, List.set_cons_zero, List.set_cons_succ]
              refine takeL 33 (v := ?_) rfl (by kernel_rfl) (by kernel_rfl) (by kernel_rfl) (fun _ _ _ h => h) (by rfl) ?_ (by assumption) ?_
              rotate_left
              · intro w hSw
                (try dsimp only at hSw)
                go_simp
                all_goals with_reducible rfl
              try simp only [Act.put, List.setIfInBounds_toArray, List.set_cons_zero, List.set_cons_succ]
              refine takeL 34 (v := ?_) rfl (by kernel_rfl) (by kernel_rfl) (by kernel_rfl) (fun _ _ _ h => h) (by rfl) ?_ (by assumption) ?_
              rotate_left
              · intro w hSw
                (try dsimp only at hSw)
                go_simp
                all_goals with_reducible rfl
              try simp only [Act.put, List.setIfInBounds_toArray, List.set_cons_zero, List.set_cons_succ]
              refine takeL 35 (v := ?_) rfl (by kernel_rfl) (by kernel_rfl) (by kernel_rfl) (fun _ _ _ h => h) (by rfl) ?_ (by assumption) ?_
              rotate_left
              · intro w hSw
                (try dsimp only at hSw)
                go_simp
                all_goals with_reducible rfl
              try simp only [Act.put, List.setIfInBounds_toArray, List.set_cons_zero, List.set_cons_succ]
              refine takeL 36 (v := ?_) rfl (by kernel_rfl) (by kernel_rfl) (by kernel_rfl) (fun _ _ _ h => h) (by rfl) ?_ (by assumption) ?_
              rotate_left
              · intro w hSw
                (try dsimp only at hSw)
                go_simp
                all_goals with_reducible rfl
              try simp only [Act.put, List.setIfInBounds_toArray, List.set_cons_zero, List.set_cons_succ]
              refine takeL 37 (v := ?_) rfl (by kernel_rfl) (by kernel_rfl) (by kernel_rfl) (fun _ _ _ h => h) (by rfl) ?_ (by assumption) ?_
              rotate_left
              · intro w hSw
                (try dsimp only at hSw)
                go_simp
                all_goals with_reducible rfl
              try simp only [Act.put, List.setIfInBounds_toArray, List.set_cons_zero, List.set_cons_succ]
              refine takeL 38 (v := ?_) rfl (by kernel_rfl) (by kernel_rfl) (by kernel_rfl) (fun _ _ _ h => h) (by rfl) ?_ (by assumption) ?_
              rotate_left
              · intro w hSw
                (try dsimp only at hSw)
                go_simp
                all_goals with_reducible rfl
              try simp only [Act.put, List.setIfInBounds_toArray, List.set_cons_zero, List.set_cons_succ]
              refine takeL 39 (v := ?_) rfl (by kernel_rfl) (by kernel_rfl) (by kernel_rfl) (fun _ _ _ h => h) (by rfl) ?_ (by assumption) ?_
              rotate_left
              · intro w hSw
                (try dsimp only at hSw)
                go_simp
                all_goals with_reducible rfl
              try simp only [Act.put, List.setIfInBounds_toArray, List.set_cons_zero, List.set_cons_succ]
              refine takeL 40 (v := ?_) rfl (by kernel_rfl) (by kernel_rfl) (by kernel_rfl) (fun _ _ _ h => h) (by rfl) ?_ (by assumption) ?_
              rotate_left
              · intro w hSw
                (try dsimp only at hSw)
                go_simp
                all_goals with_reducible rfl
              try simp only [Act.put, List.setIfInBounds_toArray, List.set_cons_zero, List.set_cons_succ]
              refine wpAnyH_ready (rs := [4, 41]) (by kernel_rfl) (by simp) ?_
              refine consL rfl (fun K hK => ?_) (consL rfl (fun K hK => ?_) AllReadyH.nil)
              go_simp
              refine hK.out _ _ ?_ (fun hHeld => ?_)
              · (try dsimp only)
                (first | assumption | exact Sp.drew (by assumption) | exact Sp.of_kept ((KeptF.refl _ _).drew) | exact Sp.of_kept (((KeptF.refl _ _).alloc _).drew) | exact Sp.set (by assumption) _)
              clear hK K
              try simp only [Act.put, List.setIfInBounds_toArray, List.set_cons_zero, List.set_cons_succ]
              refine wpAnyH_ready (rs := [41]) (by kernel_rfl) (by simp) ?_
              refine consL rfl (fun K hK => ?_) AllReadyH.nil
              go_simp
              refine hK.out _ _ ?_ (fun hHeld => ?_)
              · (try dsimp only)
                (first | assumption | exact Sp.drew (by assumption) | exact Sp.of_kept ((KeptF.refl _ _).drew) | exact Sp.of_kept (((KeptF.refl _ _).alloc _).drew) | exact Sp.set (by assumption) _)
              clear hK K
              try simp only [Act.put, List.setIfInBounds_toArray, List.set_cons_zero, List.set_cons_succ]
              refine wpAnyH_ready (rs := [42]) (by kernel_rfl) (by simp) ?_
              refine consL rfl (fun K hK => ?_) AllReadyH.nil
              refine step_append_own rfl (.tmp 90) (.tmp 127) 69 rfl B 144 i0 _ 6 48 Try.underlying69 hi0 hz0 hz1 hz2 rfl (by decide) (.slice aow nw capw) nw (flat evE (cPart m c j e r' k).wait) (by simp [Act.eval]) ?_ ⟨wr.heap.size + 1, 0, none⟩ 1 1 [.int .i64 (e.it.t + x.d), .int .i64 e.p, .int .i64 (sq + (k : Int)), .int .i64 x.l, .int .i64 y.t, .int .i64 (dl.length : Int)] (by simp [Act.eval]) rfl ?_ ?_ ?_ ?_ ?_ ?_
              · exact hown0
              · exact hcc
              · exact hone
              · unfold maxLen; omega
              · omega
              · exact Nat.le_trans hBk hWl
              intro v2 w2 hown2 hgr2 hfr2
              have hK2 : KeptF (fun k => (Value.slice aow nw capw).ownBlock = some k) wr w2 := (hWW.weaken (fun _ _ e => e.elim)).trans (KeptF.of_grown hgr2 (fun k h _ => h))
              have hS2 : Sp (wr.alloc (.cells #[.int .i64 x.k, .int .i64 x.d, .int .i64 x.l] 84)) cb 6 (Value.slice aow nw capw).ownBlock w2 := Sp.of_kept (((((KeptF.refl _ _).alloc _).drew)).trans (KeptF.of_grown hgr2 (fun k h _ => h)))
              have hO2 : Own evE w2 B v2 ((cPart m c j e r' k).wait ++ [⟨⟨e.it.t + x.d, e.p, sq + (k : Int), x.l⟩, y.t, (dl.length : Int)⟩]) := Own.snoc (by rw [← Hnw.out]; exact hown2)
              have hb2 := hCk.blk.keep hK2 (nwo .c _ (by simp) rfl)
              have hc6b : w2.cell? ⟨cb, 6, none⟩ = some (.slice aow nw capw) := hb2.cell 6
              have hf6b : w2.frozen? ⟨cb, 6, none⟩ = false := hb2.frozen 6
              obtain ⟨ao2, cap2, hv2, hcap2⟩ := hO2.form'
              rw [List.length_append, ← Hnw.out] at hv2
              have hv2 : v2 = .slice ao2 (nw + 1) cap2 := hv2
              subst hv2
              refine hK.out _ _ ?_ (fun hHeld => ?_)
              · (try dsimp only)
                (first | assumption | exact Sp.drew (by assumption) | exact Sp.of_kept ((KeptF.refl _ _).drew) | exact Sp.of_kept (((KeptF.refl _ _).alloc _).drew) | exact Sp.set (by assumption) _)
              clear hK K
              try simp only [Act.put, List.setIfInBounds_toArray, List.set_cons_zero, List.set_cons_succ]
              refine takeL 43 (v := ?_) rfl (by kernel_rfl) (by kernel_rfl) (by kernel_rfl) (fun _ _ _ h => h) (by rfl) ?_ (by assumption) ?_
              rotate_left
              · intro w hSw
                (try dsimp only at hSw)
                go_simp
                all_goals with_reducible rfl
              try simp only [Act.put, List.setIfInBounds_toArray, List.set_cons_zero, List.set_cons_succ]
              refine takeL 44 (v := ?_) rfl (by kernel_rfl) (by kernel_rfl) (by kernel_rfl) (fun _ _ _ h => h) (by rfl) ?_ (by assumption) ?_
              rotate_left
              · intro w hSw
                (try dsimp only at hSw)
                go_simp
                all_goals with_reducible rfl
              try simp only [Act.put, List.setIfInBounds_toArray, List.set_cons_zero, List.set_cons_succ]
              refine wpAnyH_ready (rs := [45]) (by kernel_rfl) (by simp) ?_
              refine consL rfl (fun K hK => ?_) AllReadyH.nil
              go_simp
              refine hK.out _ _ ?_ (fun hHeld => ?_)
              · (try dsimp only)
                (first | assumption | exact Sp.drew (by assumption) | exact Sp.of_kept ((KeptF.refl _ _).drew) | exact Sp.of_kept (((KeptF.refl _ _).alloc _).drew) | exact Sp.set (by assumption) _)
              clear hK K
              try simp only [Act.put, List.setIfInBounds_toArray, List.set_cons_zero, List.set_cons_succ]
              refine wpAnyH_done (by kernel_rfl) ?_ _
              rotate_left
              go_simp
              refine hK.out _ _ ?_ (fun hHeld => ?_)
              · (try dsimp only)
                (first | assumption | exact Sp.drew (by assumption) | exact Sp.of_kept ((KeptF.refl _ _).drew) | exact Sp.of_kept (((KeptF.refl _ _).alloc _).drew) | exact Sp.set (by assumption) _)
              clear hK K
              try simp only [Act.put, List.setIfInBounds_toArray, List.set_cons_zero, List.set_cons_succ]
              refine wpAnyH_ready (rs := [4]) (by kernel_rfl) (by simp) ?_
              refine consL rfl (fun K hK => ?_) AllReadyH.nil
              go_simp
              refine hK.out _ _ ?_ (fun hHeld => ?_)
              · (try dsimp only)
                (first | assumption | exact Sp.drew (by assumption) | exact Sp.of_kept ((KeptF.refl _ _).drew) | exact Sp.of_kept (((KeptF.refl _ _).alloc _).drew) | exact Sp.set (by assumption) _)
              clear hK K
              try simp only [Act.put, List.setIfInBounds_toArray, List.set_cons_zero, List.set_cons_succ]
              refine wpAnyH_ready (rs := [42]) (by kernel_rfl) (by simp) ?_
              refine consL rfl (fun K hK => ?_) AllReadyH.nil
              refine step_append_own rfl (.tmp 90) (.tmp 127) 69 rfl B 144 i0 _ 6 48 Try.underlying69 hi0 hz0 hz1 hz2 rfl (by decide) (.slice aow nw capw) nw (flat evE (cPart m c j e r' k).wait) (by simp [Act.eval]) ?_ ⟨wr.heap.size + 1, 0, none⟩ 1 1 [.int .i64 (e.it.t + x.d), .int .i64 e.p, .int .i64 (sq + (k : Int)), .int .i64 x.l, .int .i64 y.t, .int .i64 (dl.length : Int)] (by simp [Act.eval]) rfl ?_ ?_ ?_ ?_ ?_ ?_
              · exact hown0
              · exact hcc
              · exact hone
              · unfold maxLen; omega
              · omega
              · exact Nat.le_trans hBk hWl
              intro v2 w2 hown2 hgr2 hfr2
              have hK2 : KeptF (fun k => (Value.slice aow nw capw).ownBlock = some k) wr w2 := (hWW.weaken (fun _ _ e => e.elim)).trans (KeptF.of_grown hgr2 (fun k h _ => h))
              have hS2 : Sp (wr.alloc (.cells #[.int .i64 x.k, .int .i64 x.d, .int .i64 x.l] 84)) cb 6 (Value.slice aow nw capw).ownBlock w2 := Sp.of_kept (((((KeptF.refl _ _).alloc _).drew)).trans (KeptF.of_grown hgr2 (fun k h _ => h)))
              have hO2 : Own evE w2 B v2 ((cPart m c j e r' k).wait ++ [⟨⟨e.it.t + x.d, e.p, sq + (k : Int), x.l⟩, y.t, (dl.length : Int)⟩]) := Own.snoc (by rw [← Hnw.out]; exact hown2)
              have hb2 := hCk.blk.keep hK2 (nwo .c _ (by simp) rfl)
              have hc6b : w2.cell? ⟨cb, 6, none⟩ = some (.slice aow nw capw) := hb2.cell 6
              have hf6b : w2.frozen? ⟨cb, 6, none⟩ = false := hb2.frozen 6
              obtain ⟨ao2, cap2, hv2, hcap2⟩ := hO2.form'
              rw [List.length_append, ← Hnw.out] at hv2
              have hv2 : v2 = .slice ao2 (nw + 1) cap2 := hv2
              subst hv2
              refine hK.out _ _ ?_ (fun hHeld => ?_)
              · (try dsimp only)
                (first | assumption | exact Sp.drew (by assumption) | exact Sp.of_kept ((KeptF.refl _ _).drew) | exact Sp.of_kept (((KeptF.refl _ _).alloc _).drew) | exact Sp.set (by assumption) _)
              clear hK K
              try simp only [Act.put, List.setIfInBounds_toArray, List.set_cons_zero, List.set_cons_succ]
              refine takeL 43 (v := ?_) rfl (by kernel_rfl) (by kernel_rfl) (by kernel_rfl) (fun _ _ _ h => h) (by rfl) ?_ (by assumption) ?_
              rotate_left
              · intro w hSw
                (try dsimp only at hSw)
                go_simp
                all_goals with_reducible rfl
              try simp only [Act.put, List.setIfInBounds_toArray, List.set_cons_zero, List.set_cons_succ]
              refine takeL 44 (v := ?_) rfl (by kernel_rfl) (by kernel_rfl) (by kernel_rfl) (fun _ _ _ h => h) (by rfl) ?_ (by assumption) ?_
              rotate_left
              · intro w hSw
                (try dsimp only at hSw)
                go_simp
                all_goals with_reducible rfl
              try simp only [Act.put, List.setIfInBounds_toArray, List.set_cons_zero, List.set_cons_succ]
              refine wpAnyH_ready (rs := [45]) (by kernel_rfl) (by simp) ?_
              refine consL rfl (fun K hK => ?_) AllReadyH.nil
              go_simp
              refine hK.out _ _ ?_ (fun hHeld => ?_)
              · (try dsimp only)
                (first | assumption | exact Sp.drew (by assumption) | exact Sp.of_kept ((KeptF.refl _ _).drew) | exact Sp.of_kept (((KeptF.refl _ _).alloc _).drew) | exact Sp.set (by assumption) _)
              clear hK K
              try simp only [Act.put, List.setIfInBounds_toArray, List.set_cons_zero, List.set_cons_succ]
              refine wpAnyH_done (by kernel_rfl) ?_ _
              rotate_left
              all_goals
                have hC3 := hCk.newWait (l' := (cPart m c j e r' k).wait ++ [⟨⟨e.it.t + x.d, e.p, sq + (k : Int), x.l⟩, y.t, (dl.length : Int)⟩]) ((hK2.weaken (G := Touch (owner cb sb qb db kb (.slice aow nw capw) D C) (fun i => i = .c ∨ i = .w)) (fun i _ h => ⟨.w, .inr rfl, h⟩)).setCell (p := ⟨cb, 6, none⟩) (.inl ⟨.c, .inl rfl, rfl⟩) (.slice ao2 (nw + 1) cap2)) (hb2.set 6 _)
                  (hO2.keep ((KeptF.refl (fun k => k = cb) w2).setCell (p := ⟨cb, 6, none⟩) (.inl rfl) _) (fun g hg e' => by
                    subst e'
                    rcases hfr2 g hg with h1 | h1
                    · exact nwo .c _ (by simp) rfl h1
                    · have := hCk.blk.lt; have := hWW.size; omega)) (fun g hg => by
                    rcases hfr2 g hg with h1 | h1
                    · exact .inl h1
                    · exact .inr (Nat.le_trans hWW.size h1))
                have hK3 : KeptF (fun k => k = cb ∨ (Value.slice aow nw capw).ownBlock = some k) wr (w2.setCell ⟨cb, 6, none⟩ (.slice ao2 (nw + 1) cap2)) := (hK2.weaken (fun _ _ h => .inr h)).setCell (p := ⟨cb, 6, none⟩) (.inl (.inl rfl)) _
                have he3 := heBk.keep hK3 (by rintro (h1 | h1); omega; exact (hwok _ h1).1 rfl)
                have hr3 := hrBk.keep hK3 (by rintro (h1 | h1); omega; exact (hwok _ h1).2 rfl)
                have hbl3 : Below B w (w2.setCell ⟨cb, 6, none⟩ (.slice ao2 (nw + 1) cap2)) := hblk.trans (KeptF.below hK3 hBk (fun i h => by
                  rcases h with h | h
                  · subst h; exact hCk.lc
                  · exact (hCk.lt (i := .w) h).1))
                have hwo3 : ∀ g, (Value.slice ao2 (nw + 1) cap2).ownBlock = some g → g ≠ w.heap.size ∧ g ≠ wq.heap.size := fun g hg => by
                  rcases hfr2 g hg with h1 | h1
                  · exact hwok g h1
                  · have := hWW.size; constructor <;> omega
                generalize w2.setCell ⟨cb, 6, none⟩ (.slice ao2 (nw + 1) cap2) = w3 at *
                have c8b : w3.cell? ⟨cb, 8, none⟩ = some (.slice (some ⟨qb, 0, none⟩) (np m) (np m)) := hC3.blk.cell 8
                have q0b : w3.cell? ⟨qb, e.p.toNat, none⟩ = some (.int .i64 (sq + (k : Int))) := (hC3.sq.cell e.p.toNat).trans (ints_get Hsk.out)
                have qfb : w3.frozen? ⟨qb, e.p.toNat, none⟩ = false := hC3.sq.frozen _
                clear K3 K8 K9 Kq Kd Kt X0 X1 X2 Y1 hown0 hcc hone c6 c3 c8 c9 q0 d0 b0 x0 x1 x2 y1 r4k hS2 hc6b hf6b hb2
                go_wp2
                go_roundw
                case rel =>
                  have hC4 := (hC3.setSq e.p.toNat (sq + (k : Int) + 1)).1
                  have k4 := (hC3.setSq e.p.toNat (sq + (k : Int) + 1)).2
                  have hp1 : cPart m c j e r' (k + 1) = { { cPart m c j e r' k with wait := (cPart m c j e r' k).wait ++ [(⟨⟨e.it.t + x.d, e.p, sq + (k : Int), x.l⟩, y.t, (dl.length : Int)⟩ : Ev)] } with seqs := (cPart m c j e r' k).seqs.set e.p.toNat (sq + (k : Int) + 1) } := by
                    simp only [cPart, Hsq.out, Hdn.out]
                    have h1 : (emitted m e sq (dl.length : Int) r'.es).take (k + 1) = (emitted m e sq (dl.length : Int) r'.es).take k ++ [(⟨⟨e.it.t + x.d, e.p, sq + (k : Int), x.l⟩, y.t, (dl.length : Int)⟩ : Ev)] := by
                      have h2 : (emitted m e sq (dl.length : Int) r'.es)[k]? = some (⟨⟨e.it.t + x.d, e.p, sq + (k : Int), x.l⟩, y.t, (dl.length : Int)⟩ : Ev) := by
                        unfold emitted
                        rw [List.getElem?_mapIdx, Hx.out]
                        simp [emit1, linkTo_at Hy.out]
                      rw [List.take_add_one, h2]; rfl
                    rw [h1, List.set_set, List.append_assoc, show sq + ((k + 1 : Nat) : Int) = sq + (k : Int) + 1 by omega]
                  have hqe : w.heap.size ≠ qb := by have := hCold.q; omega
                  have hqr : wq.heap.size ≠ qb := by have := hCold.q; have := hblq.size; omega
                  refine ⟨k + 1, _, by go_num, hlt, by rw [hp1]; exact hC4, he3.set_other (a := ⟨qb, e.p.toNat, none⟩) hqe _, hr3.set_other (a := ⟨qb, e.p.toNat, none⟩) hqr _, ?_, hwo3⟩
                  exact hbl3.setCell hC3.lq _
                case measure => simp [intOf]; omega
            · have hke : k = r'.es.length := by omega
              have Hmid : Hid (cMid m c j e = cPart m c j e r' k) := by
                show _ = _
                unfold cMid cPart
                simp only [Hrule.out]
                rw [hke, List.take_of_length_le (by simp [emitted])]
              go_wp2
              go_meet
              case rel => exact ⟨wvk, by rw [Hmid.out]; exact hCk, heBk, hblk⟩
      case rest =>
        obtain ⟨wv2, hCz, heBz, hblz⟩ := hcut
        obtain ⟨j0, hj0, hy0, hy1, hy2⟩ := info_parts info_dn
        obtain ⟨k0, hk0, hx0, hx1, hx2⟩ := info_parts info_in
        have hBz : B ≤ wc.heap.size := Nat.le_trans hB hblz.size
        obtain ⟨hms, hmd, hmc, hma⟩ := cMid_states (m := m) (c := c) (j := j) (e := e)
        have Hmd : Hid ((cMid m c j e).done = c.done) := hmd
        have Hmc : Hid ((cMid m c j e).causes = c.causes) := hmc
        have Hma : Hid ((cMid m c j e).all = c.all) := hma
        obtain ⟨st, hst⟩ := get_of_lt (d := (cMid m c j e).states) (k := e.p.toNat) (by rw [hms, hI.ls]; unfold np; omega)
        have Hst2 : Hid ((cMid m c j e).states[e.p.toNat]? = some st) := hst
        obtain ⟨dl, hdl⟩ := get_of_lt (d := c.done) (k := e.p.toNat) (by rw [hI.ld]; unfold np; omega)
        have hdll := hI.dl _ _ hdl
        have Hdl' : Hid (c.done[e.p.toNat]? = some dl) := hdl
        obtain ⟨kl, hkl⟩ := get_of_lt (d := c.causes) (k := e.p.toNat) (by rw [hI.lc]; unfold np; omega)
        have hkll := hI.cl _ _ hkl
        have Hkl' : Hid (c.causes[e.p.toNat]? = some kl) := hkl
        obtain ⟨dv, hdv⟩ := get_of_lt (d := D) (k := e.p.toNat) (by rw [hCz.dl]; unfold np; omega)
        obtain ⟨kv, hkv⟩ := get_of_lt (d := C) (k := e.p.toNat) (by rw [hCz.cl]; unfold np; omega)
        have Hkv : Hid (C[e.p.toNat]? = some kv) := hkv
        have hdo : Own dnE wc B dv dl := hCz.dns _ _ _ hdv (by rw [hmd]; exact hdl)
        obtain ⟨aod, capd, hdvf, hcapd⟩ := hdo.form'
        subst hdvf
        have Hdv : Hid (D[e.p.toNat]? = some (.slice aod dl.length capd)) := hdv
        have hdold : ∀ g, (Value.slice aod dl.length capd).ownBlock = some g → g < w.heap.size := fun g hg => hDold _ _ g hdv hg
        have hkold : ∀ g, kv.ownBlock = some g → g < w.heap.size := fun g hg => hKold _ _ g hkv hg
        have nwo : ∀ i g, i ≠ Ix.dn e.p.toNat → owner cb sb qb db kb wv2 D C i = some g → (Value.slice aod dl.length capd).ownBlock ≠ some g := fun i g hi hg e' => hi (hCz.dist i (.dn e.p.toNat) g hg ((own_dn hdv).trans e'))
        have hsb : ¬ (sb = db ∧ e.p.toNat = e.p.toNat) := fun ⟨h1, _⟩ => by have := hCz.dist .s .d db (by rw [← h1]; rfl) rfl; cases this
        have K9 := Sp.cell (b0 := db) (o0 := e.p.toNat) (own := (Value.slice aod dl.length capd).ownBlock) (v := .slice (some ⟨db, 0, none⟩) (np m) (np m)) (hCz.blk.cell 9) (nwo .c _ (by simp) rfl) (fun ⟨h1, _⟩ => by have := hCz.dist .c .d db (by rw [← h1]; rfl) rfl; cases this)
        have K7 := Sp.cell (b0 := db) (o0 := e.p.toNat) (own := (Value.slice aod dl.length capd).ownBlock) (v := .slice (some ⟨sb, 0, none⟩) (np m) (np m)) (hCz.blk.cell 7) (nwo .c _ (by simp) rfl) (fun ⟨h1, _⟩ => by have := hCz.dist .c .d db (by rw [← h1]; rfl) rfl; cases this)
        have Ks := Sp.cell (b0 := db) (o0 := e.p.toNat) (own := (Value.slice aod dl.length capd).ownBlock) (v := .int .i64 st) ((hCz.st.cell e.p.toNat).trans (ints_get hst)) (nwo .s _ (by simp) rfl) hsb
        have hwdb : w.heap.size ≠ db := by have := hCold.d; omega
        have T0 := Sp.cell (b0 := db) (o0 := e.p.toNat) (own := (Value.slice aod dl.length capd).ownBlock) (v := .int .i64 e.it.t) (heBz.cell 0) (fun e' => by have := hdold _ e'; omega) (fun ⟨h1, _⟩ => hwdb h1)
        have T1 := Sp.cell (b0 := db) (o0 := e.p.toNat) (own := (Value.slice aod dl.length capd).ownBlock) (v := .int .i64 e.it.f) (heBz.cell 1) (fun e' => by have := hdold _ e'; omega) (fun ⟨h1, _⟩ => hwdb h1)
        have T2 := Sp.cell (b0 := db) (o0 := e.p.toNat) (own := (Value.slice aod dl.length capd).ownBlock) (v := .int .i64 e.it.s) (heBz.cell 2) (fun e' => by have := hdold _ e'; omega) (fun ⟨h1, _⟩ => hwdb h1)
        have T3 := Sp.cell (b0 := db) (o0 := e.p.toNat) (own := (Value.slice aod dl.length capd).ownBlock) (v := .int .i64 e.it.l) (heBz.cell 3) (fun e' => by have := hdold _ e'; omega) (fun ⟨h1, _⟩ => hwdb h1)
        have d0 : wc.cell? ⟨db, e.p.toNat, none⟩ = some (.slice aod dl.length capd) := (hCz.dn.cell e.p.toNat).trans (by simpa using hdv)
        have hldb := hCz.dn.lt
        have hcc := newCells wc [.int .i64 e.it.t, .int .i64 e.it.f, .int .i64 e.it.s, .int .i64 e.it.l, .int .i64 st] 127
        have hWW : KeptF (fun _ => False) wc ((wc.alloc (.cells #[.int .i64 e.it.t, .int .i64 e.it.f, .int .i64 e.it.s, .int .i64 e.it.l, .int .i64 st] 127)).drew) := ((KeptF.refl _ wc).alloc _).drew
        have hWl := hWW.size
        have hone : ∀ u ∈ [Value.int .i64 e.it.t, .int .i64 e.it.f, .int .i64 e.it.s, .int .i64 e.it.l, .int .i64 st], u.oneCell' = true := by
          intro u hu
          simp only [List.mem_cons, List.not_mem_nil, or_false] at hu
          rcases hu with rfl | rfl | rfl | rfl | rfl <;> rfl
        have hown0 : ((wc.alloc (.cells #[.int .i64 e.it.t, .int .i64 e.it.f, .int .i64 e.it.s, .int .i64 e.it.l, .int .i64 st] 127)).drew).ownsRow B 127 5 (.slice aod dl.length capd) dl.length (flat dnE dl) := hdo.keep hWW (fun _ _ e => e)
        have hdlb : dl.length ≤ 300 := by omega
        clear hst hdl hkl hdv hkv hfc hms hmd hmc hma
        go_wp2
        refine wp_region_held_drew (S := (fun W => Sp wc db e.p.toNat (Value.slice aod dl.length capd).ownBlock W)) (by kernel_rfl) ?_ (fun hHeld => ?_)
        · (try dsimp only)
          (first | assumption | exact Sp.drew (by assumption) | exact Sp.of_kept ((KeptF.refl _ _).drew) | exact Sp.of_kept (((KeptF.refl _ _).alloc _).drew) | exact Sp.set (by assumption) _)
        refine takeL 0 (v := ?_) rfl (by kernel_rfl) (by kernel_rfl) (by kernel_rfl) (fun _ _ _ h => h) (by rfl) ?_ (by assumption) ?_
        rotate_left
        · intro w hSw
          (try dsimp only at hSw)
          go_simp
          all_goals with_reducible rfl
        try simp only [Act.put, List.setIfInBounds_toArray, List.set_cons_zero, List.set_cons_succ]
        refine takeL 1 (v := ?_) rfl (by kernel_rfl) (by kernel_rfl) (by kernel_rfl) (fun _ _ _ h => h) (by rfl) ?_ (by assumption) ?_
        rotate_left
        · intro w hSw
          (try dsimp only at hSw)
          go_simp
          all_goals with_reducible rfl
        try simp only [Act.put, List.setIfInBounds_toArray, List.set_cons_zero, List.set_cons_succ]
        refine takeL 2 (v := ?_) rfl (by kernel_rfl) (by kernel_rfl) (by kernel_rfl) (fun _ _ _ h => h) (by rfl) ?_ (by assumption) ?_
        rotate_left
        · intro w hSw
          (try dsimp only at hSw)
          go_simp
          all_goals with_reducible rfl
        try simp only [Act.put, List.setIfInBounds_toArray, List.set_cons_zero, List.set_cons_succ]
        refine takeL 3 (v := ?_) rfl (by kernel_rfl) (by kernel_rfl) (by kernel_rfl) (fun _ _ _ h => h) (by rfl) ?_ (by assumption) ?_
        rotate_left
        · intro w hSw
          (try dsimp only at hSw)
          go_simp
          all_goals with_reducible rfl
        try simp only [Act.put, List.setIfInBounds_toArray, List.set_cons_zero, List.set_cons_succ]
        refine takeL 4 (v := ?_) rfl (by kernel_rfl) (by kernel_rfl) (by kernel_rfl) (fun _ _ _ h => h) (by rfl) ?_ (by assumption) ?_
        rotate_left
        · intro w hSw
          (try dsimp only at hSw)
          go_simp
          all_goals with_reducible rfl
        try simp only [Act.put, List.setIfInBounds_toArray, List.set_cons_zero, List.set_cons_succ]
        refine takeL 5 (v := ?_) rfl (by kernel_rfl) (by kernel_rfl) (by kernel_rfl) (fun _ _ _ h => h) (by rfl) ?_ (by assumption) ?_
        rotate_left
        · intro w hSw
          (try dsimp only at hSw)
          go_simp
          all_goals with_reducible rfl
        try simp only [Act.put, List.setIfInBounds_toArray, List.set_cons_zero, List.set_cons_succ]
        refine takeL 6 (v := ?_) rfl (by kernel_rfl) (by kernel_rfl) (by kernel_rfl) (fun _ _ _ h => h) (by rfl) ?_ (by assumption) ?_
        rotate_left
        · intro w hSw
          (try dsimp only at hSw)
          go_simp
          all_goals with_reducible rfl
        try simp only [Act.put, List.setIfInBounds_toArray, List.set_cons_zero, List.set_cons_succ]
        refine takeL 7 (v := ?_) rfl (by kernel_rfl) (by kernel_rfl) (by kernel_rfl) (fun _ _ _ h => h) (by rfl) ?_ (by assumption) ?_
        rotate_left
        · intro w hSw
          (try dsimp only at hSw)
          go_simp
          all_goals with_reducible rfl
        try simp only [Act.put, List.setIfInBounds_toArray, List.set_cons_zero, List.set_cons_succ]
        refine takeL 8 (v := ?_) rfl (by kernel_rfl) (by kernel_rfl) (by kernel_rfl) (fun _ _ _ h => h) (by rfl) ?_ (by assumption) ?_
        rotate_left
        · intro w hSw
          (try dsimp only at hSw)
          go_simp
          all_goals with_reducible rfl
        try simp only [Act.put, List.setIfInBounds_toArray, List.set_cons_zero, List.set_cons_succ]
        refine takeL 9 (v := ?_) rfl (by kernel_rfl) (by kernel_rfl) (by kernel_rfl) (fun _ _ _ h => h) (by rfl) ?_ (by assumption) ?_
        rotate_left
        · intro w hSw
          (try dsimp only at hSw)
          go_simp
          all_goals with_reducible rfl
        try simp only [Act.put, List.setIfInBounds_toArray, List.set_cons_zero, List.set_cons_succ]
        refine takeL 10 (v := ?_) rfl (by kernel_rfl) (by kernel_rfl) (by kernel_rfl) (fun _ _ _ h => h) (by rfl) ?_ (by assumption) ?_
        rotate_left
        · intro w hSw
          (try dsimp only at hSw)
          go_simp
          all_goals with_reducible rfl
        try simp only [Act.put, List.setIfInBounds_toArray, List.set_cons_zero, List.set_cons_succ]
        refine takeL 12 (v := ?_) rfl (by kernel_rfl) (by kernel_rfl) (by kernel_rfl) (fun _ _ _ h => h) (by rfl) ?_ (by assumption) ?_
        rotate_left
        · intro w hSw
          (try dsimp only at hSw)
          go_simp
          all_goals with_reducible rfl
        try simp only [Act.put, List.setIfInBounds_toArray, List.set_cons_zero, List.set_cons_succ]
        refine takeL 13 (v := ?_) rfl (by kernel_rfl) (by kernel_rfl) (by kernel_rfl) (fun _ _ _ h => h) (by rfl) ?_ (by assumption) ?_
        rotate_left
        · intro w hSw
          (try dsimp only at hSw)
          go_simp
          all_goals with_reducible rfl
        try simp only [Act.put, List.setIfInBounds_toArray, List.set_cons_zero, List.set_cons_succ]
        refine takeL 14 (v := ?_) rfl (by kernel_rfl) (by kernel_rfl) (by kernel_rfl) (fun _ _ _ h => h) (by rfl) ?_ (by assumption) ?_
        rotate_left
        · intro w hSw
          (try dsimp only at hSw)
          go_simp
          all_goals with_reducible rfl
        try simp only [Act.put, List.setIfInBounds_toArray, List.set_cons_zero, List.set_cons_succ]
        refine takeL 15 (v := ?_) rfl (by kernel_rfl) (by kernel_rfl) (by kernel_rfl) (fun _ _ _ h => h) (by rfl) ?_ (by assumption) ?_
        rotate_left
        · intro w hSw
          (try dsimp only at hSw)
          go_simp
          all_goals with_reducible rfl
        try simp only [Act.put, List.setIfInBounds_toArray, List.set_cons_zero, List.set_cons_succ]
        refine takeL 16 (v := ?_) rfl (by kernel_rfl) (by kernel_rfl) (by kernel_rfl) (fun _ _ _ h => h) (by rfl) ?_ (by assumption) ?_
        rotate_left
        · intro w hSw
          (try dsimp only at hSw)
          go_simp
          all_goals with_reducible rfl
        try simp only [Act.put, List.setIfInBounds_toArray, List.set_cons_zero, List.set_cons_succ]
        refine takeL 17 (v := ?_) rfl (by kernel_rfl) (by kernel_rfl) (by kernel_rfl) (fun _ _ _ h => h) (by rfl) ?_ (by assumption) ?_
        rotate_left
        · intro w hSw
          (try dsimp only at hSw)
          go_simp
          all_goals with_reducible rfl
        try simp only [Act.put, List.setIfInBounds_toArray, List.set_cons_zero, List.set_cons_succ]
        refine takeL 18 (v := ?_) rfl (by kernel_rfl) (by kernel_rfl) (by kernel_rfl) (fun _ _ _ h => h) (by rfl) ?_ (by assumption) ?_
        rotate_left
        · intro w hSw
          (try dsimp only at hSw)
          go_simp
          all_goals with_reducible rfl
        try simp only [Act.put, List.setIfInBounds_toArray, List.set_cons_zero, List.set_cons_succ]
        refine takeL 19 (v := ?_) rfl (by kernel_rfl) (by kernel_rfl) (by kernel_rfl) (fun _ _ _ h => h) (by rfl) ?_ (by assumption) ?_
        rotate_left
        · intro w hSw
          (try dsimp only at hSw)
          go_simp
          all_goals with_reducible rfl
        try simp only [Act.put, List.setIfInBounds_toArray, List.set_cons_zero, List.set_cons_succ]
        refine takeL 20 (v := ?_) rfl (by kernel_rfl) (by kernel_rfl) (by kernel_rfl) (fun _ _ _ h => h) (by rfl) ?_ (by assumption) ?_
        rotate_left
        · intro w hSw
          (try dsimp only at hSw)
          go_simp
          all_goals with_reducible rfl
        try simp only [Act.put, List.setIfInBounds_toArray, List.set_cons_zero, List.set_cons_succ]
        refine takeL 21 (v := ?_) rfl (by kernel_rfl) (by kernel_rfl) (by kernel_rfl) (fun _ _ _ h => h) (by rfl) ?_ (by assumption) ?_
        rotate_left
        · intro w hSw
          (try dsimp only at hSw)
          go_simp
          all_goals with_reducible rfl
        try simp only [Act.put, List.setIfInBounds_toArray, List.set_cons_zero, List.set_cons_succ]
        refine takeL 22 (v := ?_) rfl (by kernel_rfl) (by kernel_rfl) (by kernel_rfl) (fun _ _ _ h => h) (by rfl) ?_ (by assumption) ?_
        rotate_left
        · intro w hSw
          (try dsimp only at hSw)
          go_simp
          all_goals with_reducible rfl
        try simp only [Act.put, List.setIfInBounds_toArray, List.set_cons_zero, List.set_cons_succ]
        refine takeL 23 (v := ?_) rfl (by kernel_rfl) (by kernel_rfl) (by kernel_rfl) (fun _ _ _ h => h) (by rfl) ?_ (by assumption) ?_
        rotate_left
        · intro w hSw
          (try dsimp only at hSw)
          go_simp
          all_goals with_reducible rfl
        try simp only [Act.put, List.setIfInBounds_toArray, List.set_cons_zero, List.set_cons_succ]
        refine takeL 24 (v := ?_) rfl (by kernel_rfl) (by kernel_rfl) (by kernel_rfl) (fun _ _ _ h => h) (by rfl) ?_ (by assumption) ?_
        rotate_left
        · intro w hSw
          (try dsimp only at hSw)
          go_simp
          all_goals with_reducible rfl
        try simp only [Act.put, List.setIfInBounds_toArray, List.set_cons_zero, List.set_cons_succ]
        refine takeL 25 (v := ?_) rfl (by kernel_rfl) (by kernel_rfl) (by kernel_rfl) (fun _ _ _ h => h) (by rfl) ?_ (by assumption) ?_
        rotate_left
        · intro w hSw
          (try dsimp only at hSw)
          go_simp
          all_goals with_reducible rfl
        try simp only [Act.put, List.setIfInBounds_toArray, List.set_cons_zero, List.set_cons_succ]
        refine takeL 26 (v := ?_) rfl (by kernel_rfl) (by kernel_rfl) (by kernel_rfl) (fun _ _ _ h => h) (by rfl) ?_ (by assumption) ?_
        rotate_left
        · intro w hSw
          (try dsimp only at hSw)
          go_simp
          all_goals with_reducible rfl
        try simp only [Act.put, List.setIfInBounds_toArray, List.set_cons_zero, List.set_cons_succ]
        refine takeL 27 (v := ?_) rfl (by kernel_rfl) (by kernel_rfl) (by kernel_rfl) (fun _ _ _ h => h) (by rfl) ?_ (by assumption) ?_
        rotate_left
        · intro w hSw
          (try dsimp only at hSw)
          go_simp
          all_goals with_reducible rfl
        try simp only [Act.put, List.setIfInBounds_toArray, List.set_cons_zero, List.set_cons_succ]
        refine takeL 28 (v := ?_) rfl (by kernel_rfl) (by kernel_rfl) (by kernel_rfl) (fun _ _ _ h => h) (by rfl) ?_ (by assumption) ?_
        rotate_left
        · intro w hSw
          (try dsimp only at hSw)
          go_simp
          all_goals with_reducible rfl
        try simp only [Act.put, List.setIfInBounds_toArray, List.set_cons_zero, List.set_cons_succ]
        refine takeL 29 (v := ?_) rfl (by kernel_rfl) (by kernel_rfl) (by kernel_rfl) (fun _ _ _ h => h) (by rfl) ?_ (by assumption) ?_
        rotate_left
        · intro w hSw
          (try dsimp only at hSw)
          go_simp
          all_goals with_reducible rfl
        try simp only [Act.put, List.setIfInBounds_toArray, List.set_cons_zero, List.set_cons_succ]
        refine takeL 30 (v := ?_) rfl (by kernel_rfl) (by kernel_rfl) (by kernel_rfl) (fun _ _ _ h => h) (by rfl) ?_ (by assumption) ?_
        rotate_left
        · intro w hSw
          (try dsimp only at hSw)
          go_simp
          all_goals with_reducible rfl
        try simp only [Act.put, List.setIfInBounds_toArray, List.set_cons_zero, List.set_cons_succ]
        refine takeL 31 (v := ?_) rfl (by kernel_rfl) (by kernel_rfl) (by kernel_rfl) (fun _ _ _ h => h) (by rfl) ?_ (by assumption) ?_
        rotate_left
        · intro w hSw
          (try dsimp only at hSw)
          go_simp
          all_goals with_reducible rfl
        try simp only [Act.put, List.setIfInBounds_toArray, List.set_cons_zero, List.set_cons_succ]
        refine wpAnyH_ready (rs := [11, 32]) (by kernel_rfl) (by simp) ?_
        refine consL rfl (fun K hK => ?_) (consL rfl (fun K hK => ?_) AllReadyH.nil)
        go_simp
        refine hK.out _ _ ?_ (fun hHeld => ?_)
        · (try dsimp only)
          (first | assumption | exact Sp.drew (by assumption) | exact Sp.of_kept ((KeptF.refl _ _).drew) | exact Sp.of_kept (((KeptF.refl _ _).alloc _).drew) | exact Sp.set (by assumption) _)
        clear hK K
        try simp only [Act.put, List.setIfInBounds_toArray, List.set_cons_zero, List.set_cons_succ]
        refine wpAnyH_ready (rs := [32]) (by kernel_rfl) (by simp) ?_
        refine consL rfl (fun K hK => ?_) AllReadyH.nil
        go_simp
        refine hK.out _ _ ?_ (fun hHeld => ?_)
        · (try dsimp only)
          (first | assumption | exact Sp.drew (by assumption) | exact Sp.of_kept ((KeptF.refl _ _).drew) | exact Sp.of_kept (((KeptF.refl _ _).alloc _).drew) | exact Sp.set (by assumption) _)
        clear hK K
        try simp only [Act.put, List.setIfInBounds_toArray, List.set_cons_zero, List.set_cons_succ]
        refine wpAnyH_ready (rs := [33]) (by kernel_rfl) (by simp) ?_
        refine consL rfl (fun K hK => ?_) AllReadyH.nil
        refine step_append_own rfl (.tmp 151) (.tmp 172) 74 rfl B 127 j0 _ 5 40 Try.underlying74 hj0 hy0 hy1 hy2 rfl (by decide) (.slice aod dl.length capd) dl.length (flat dnE dl) (by simp [Act.eval]) ?_ ⟨wc.heap.size, 0, none⟩ 1 1 [.int .i64 e.it.t, .int .i64 e.it.f, .int .i64 e.it.s, .int .i64 e.it.l, .int .i64 st] (by simp [Act.eval]) rfl ?_ ?_ ?_ ?_ ?_ ?_
        · exact hown0
        · exact hcc
        · exact hone
        · unfold maxLen; omega
        · omega
        · exact Nat.le_trans hBz hWl
        intro v2 w2 hown2 hgr2 hfr2
        have hK2 : KeptF (fun k => (Value.slice aod dl.length capd).ownBlock = some k) wc w2 := (hWW.weaken (fun _ _ e => e.elim)).trans (KeptF.of_grown hgr2 (fun k h _ => h))
        have hS2 : Sp wc db e.p.toNat (Value.slice aod dl.length capd).ownBlock w2 := Sp.of_kept hK2
        have hO2 : Own dnE w2 B v2 (dl ++ [⟨e.it, st⟩]) := Own.snoc hown2
        have hb2 := hCz.dn.keep hK2 (nwo .d _ (by simp) rfl)
        have hc6b : w2.cell? ⟨db, e.p.toNat, none⟩ = some (.slice aod dl.length capd) := (hb2.cell _).trans (by simpa using Hdv.out)
        have hf6b : w2.frozen? ⟨db, e.p.toNat, none⟩ = false := hb2.frozen _
        obtain ⟨ao2, cap2, hv2, hcap2⟩ := hO2.form'
        rw [List.length_append] at hv2
        have hv2 : v2 = .slice ao2 (dl.length + 1) cap2 := hv2
        subst hv2
        refine hK.out _ _ ?_ (fun hHeld => ?_)
        · (try dsimp only)
          (first | assumption | exact Sp.drew (by assumption) | exact Sp.of_kept ((KeptF.refl _ _).drew) | exact Sp.of_kept (((KeptF.refl _ _).alloc _).drew) | exact Sp.set (by assumption) _)
        clear hK K
        try simp only [Act.put, List.setIfInBounds_toArray, List.set_cons_zero, List.set_cons_succ]
        refine takeL 34 (v := ?_) rfl (by kernel_rfl) (by kernel_rfl) (by kernel_rfl) (fun _ _ _ h => h) (by rfl) ?_ (by assumption) ?_
        rotate_left
        · intro w hSw
          (try dsimp only at hSw)
          go_simp
          all_goals with_reducible rfl
        try simp only [Act.put, List.setIfInBounds_toArray, List.set_cons_zero, List.set_cons_succ]
        refine wpAnyH_ready (rs := [35]) (by kernel_rfl) (by simp) ?_
        refine consL rfl (fun K hK => ?_) AllReadyH.nil
        go_simp
        refine hK.out _ _ ?_ (fun hHeld => ?_)
        · (try dsimp only)
          (first | assumption | exact Sp.drew (by assumption) | exact Sp.of_kept ((KeptF.refl _ _).drew) | exact Sp.of_kept (((KeptF.refl _ _).alloc _).drew) | exact Sp.set (by assumption) _)
        clear hK K
        try simp only [Act.put, List.setIfInBounds_toArray, List.set_cons_zero, List.set_cons_succ]
        refine wpAnyH_done (by kernel_rfl) ?_ _
        rotate_left
        go_simp
        refine hK.out _ _ ?_ (fun hHeld => ?_)
        · (try dsimp only)
          (first | assumption | exact Sp.drew (by assumption) | exact Sp.of_kept ((KeptF.refl _ _).drew) | exact Sp.of_kept (((KeptF.refl _ _).alloc _).drew) | exact Sp.set (by assumption) _)
        clear hK K
        try simp only [Act.put, List.setIfInBounds_toArray, List.set_cons_zero, List.set_cons_succ]
        refine wpAnyH_ready (rs := [11]) (by kernel_rfl) (by simp) ?_
        refine consL rfl (fun K hK => ?_) AllReadyH.nil
        go_simp
        refine hK.out _ _ ?_ (fun hHeld => ?_)
        · (try dsimp only)
          (first | assumption | exact Sp.drew (by assumption) | exact Sp.of_kept ((KeptF.refl _ _).drew) | exact Sp.of_kept (((KeptF.refl _ _).alloc _).drew) | exact Sp.set (by assumption) _)
        clear hK K
        try simp only [Act.put, List.setIfInBounds_toArray, List.set_cons_zero, List.set_cons_succ]
        refine wpAnyH_ready (rs := [33]) (by kernel_rfl) (by simp) ?_
        refine consL rfl (fun K hK => ?_) AllReadyH.nil
        refine step_append_own rfl (.tmp 151) (.tmp 172) 74 rfl B 127 j0 _ 5 40 Try.underlying74 hj0 hy0 hy1 hy2 rfl (by decide) (.slice aod dl.length capd) dl.length (flat dnE dl) (by simp [Act.eval]) ?_ ⟨wc.heap.size, 0, none⟩ 1 1 [.int .i64 e.it.t, .int .i64 e.it.f, .int .i64 e.it.s, .int .i64 e.it.l, .int .i64 st] (by simp [Act.eval]) rfl ?_ ?_ ?_ ?_ ?_ ?_
        · exact hown0
        · exact hcc
        · exact hone
        · unfold maxLen; omega
        · omega
        · exact Nat.le_trans hBz hWl
        intro v2 w2 hown2 hgr2 hfr2
        have hK2 : KeptF (fun k => (Value.slice aod dl.length capd).ownBlock = some k) wc w2 := (hWW.weaken (fun _ _ e => e.elim)).trans (KeptF.of_grown hgr2 (fun k h _ => h))
        have hS2 : Sp wc db e.p.toNat (Value.slice aod dl.length capd).ownBlock w2 := Sp.of_kept hK2
        have hO2 : Own dnE w2 B v2 (dl ++ [⟨e.it, st⟩]) := Own.snoc hown2
        have hb2 := hCz.dn.keep hK2 (nwo .d _ (by simp) rfl)
        have hc6b : w2.cell? ⟨db, e.p.toNat, none⟩ = some (.slice aod dl.length capd) := (hb2.cell _).trans (by simpa using Hdv.out)
        have hf6b : w2.frozen? ⟨db, e.p.toNat, none⟩ = false := hb2.frozen _
        obtain ⟨ao2, cap2, hv2, hcap2⟩ := hO2.form'
        rw [List.length_append] at hv2
        have hv2 : v2 = .slice ao2 (dl.length + 1) cap2 := hv2
        subst hv2
        refine hK.out _ _ ?_ (fun hHeld => ?_)
        · (try dsimp only)
          (first | assumption | exact Sp.drew (by assumption) | exact Sp.of_kept ((KeptF.refl _ _).drew) | exact Sp.of_kept (((KeptF.refl _ _).alloc _).drew) | exact Sp.set (by assumption) _)
        clear hK K
        try simp only [Act.put, List.setIfInBounds_toArray, List.set_cons_zero, List.set_cons_succ]
        refine takeL 34 (v := ?_) rfl (by kernel_rfl) (by kernel_rfl) (by kernel_rfl) (fun _ _ _ h => h) (by rfl) ?_ (by assumption) ?_
        rotate_left
        · intro w hSw
          (try dsimp only at hSw)
          go_simp
          all_goals with_reducible rfl
        try simp only [Act.put, List.setIfInBounds_toArray, List.set_cons_zero, List.set_cons_succ]
        refine wpAnyH_ready (rs := [35]) (by kernel_rfl) (by simp) ?_
        refine consL rfl (fun K hK => ?_) AllReadyH.nil
        go_simp
        refine hK.out _ _ ?_ (fun hHeld => ?_)
        · (try dsimp only)
          (first | assumption | exact Sp.drew (by assumption) | exact Sp.of_kept ((KeptF.refl _ _).drew) | exact Sp.of_kept (((KeptF.refl _ _).alloc _).drew) | exact Sp.set (by assumption) _)
        clear hK K
        try simp only [Act.put, List.setIfInBounds_toArray, List.set_cons_zero, List.set_cons_succ]
        refine wpAnyH_done (by kernel_rfl) ?_ _
        rotate_left
        all_goals
          have hC3 := hCz.newDone (l' := dl ++ [⟨e.it, st⟩]) Hdv.out ((hK2.weaken (G := Touch (owner cb sb qb db kb wv2 D C) (fun i => i = .d ∨ i = .dn e.p.toNat)) (fun i _ h => ⟨.dn e.p.toNat, .inr rfl, (own_dn Hdv.out).trans h⟩)).setCell (p := ⟨db, e.p.toNat, none⟩) (.inl ⟨.d, .inl rfl, rfl⟩) (.slice ao2 (dl.length + 1) cap2)) (by rw [← set_toArray]; exact hb2.set e.p.toNat _)
            (hO2.keep ((KeptF.refl (fun k => k = db) w2).setCell (p := ⟨db, e.p.toNat, none⟩) (.inl rfl) _) (fun g hg e' => by
              subst e'
              rcases hfr2 g hg with h1 | h1
              · exact nwo .d _ (by simp) rfl h1
              · have := hWW.size; omega)) (fun g hg => by
              rcases hfr2 g hg with h1 | h1
              · exact .inl h1
              · exact .inr (Nat.le_trans hWW.size h1))
          have hK3 : KeptF (fun k => k = db ∨ (Value.slice aod dl.length capd).ownBlock = some k) wc (w2.setCell ⟨db, e.p.toNat, none⟩ (.slice ao2 (dl.length + 1) cap2)) := (hK2.weaken (fun _ _ h => .inr h)).setCell (p := ⟨db, e.p.toNat, none⟩) (.inl (.inl rfl)) _
          have he3 := heBz.keep hK3 (by rintro (h1 | h1); exact hwdb h1; have := hdold _ h1; omega)
          have hbl3 : Below B w (w2.setCell ⟨db, e.p.toNat, none⟩ (.slice ao2 (dl.length + 1) cap2)) := hblz.trans (KeptF.below hK3 hBz (fun i h => by
            rcases h with h | h
            · subst h; exact hCz.ld
            · exact (hdo.lt h).1))
          have hs3 : wc.heap.size ≤ (w2.setCell ⟨db, e.p.toNat, none⟩ (.slice ao2 (dl.length + 1) cap2)).heap.size := hK3.size
          generalize w2.setCell ⟨db, e.p.toNat, none⟩ (.slice ao2 (dl.length + 1) cap2) = w3 at *
          generalize Value.slice ao2 (dl.length + 1) cap2 = dv2 at *
          clear K9 K7 Ks T0 T1 T2 T3 d0 hcc hone hown0 hc6b hf6b hb2 hS2 hO2 hgr2 hown2 hfr2
          have hB3 : B ≤ w3.heap.size := Nat.le_trans hBz hs3
          have hko : Own inE w3 B kv kl := hC3.cas _ _ _ Hkv.out (by show (cMid m c j e).causes[e.p.toNat]? = some kl; rw [Hmc.out]; exact Hkl'.out)
          obtain ⟨aok, capk, hkvf, hcapk⟩ := hko.form'
          subst hkvf
          have nwk : ∀ i g, i ≠ Ix.ca e.p.toNat → owner cb sb qb db kb wv2 (D.set e.p.toNat dv2) C i = some g → (Value.slice aok kl.length capk).ownBlock ≠ some g := fun i g hi hg e' => hi (hC3.dist i (.ca e.p.toNat) g hg ((own_ca Hkv.out).trans e'))
          have hwkb : w.heap.size ≠ kb := by have := hCold.k; omega
          have K10 := Sp.cell (b0 := kb) (o0 := e.p.toNat) (own := (Value.slice aok kl.length capk).ownBlock) (v := .slice (some ⟨kb, 0, none⟩) (np m) (np m)) (hC3.blk.cell 10) (nwk .c _ (by simp) rfl) (fun ⟨h1, _⟩ => by have := hC3.dist .c .k kb (by rw [← h1]; rfl) rfl; cases this)
          have T5 := Sp.cell (b0 := kb) (o0 := e.p.toNat) (own := (Value.slice aok kl.length capk).ownBlock) (v := .int .i64 e.c) (he3.cell 5) (fun e' => by have := hkold _ e'; omega) (fun ⟨h1, _⟩ => hwkb h1)
          have d0 : w3.cell? ⟨kb, e.p.toNat, none⟩ = some (.slice aok kl.length capk) := (hC3.ca.cell e.p.toNat).trans (by simpa using Hkv.out)
          have hlkb := hC3.ca.lt
          have hcc := newCells w3 [.int .i64 e.c] 3
          have hW3 : KeptF (fun _ => False) w3 ((w3.alloc (.cells #[.int .i64 e.c] 3)).drew) := ((KeptF.refl _ w3).alloc _).drew
          have hWl3 := hW3.size
          have hone : ∀ u ∈ [Value.int .i64 e.c], u.oneCell' = true := by
            intro u hu
            simp only [List.mem_cons, List.not_mem_nil, or_false] at hu
            subst hu; rfl
          have hown0 : ((w3.alloc (.cells #[.int .i64 e.c] 3)).drew).ownsRow B 3 1 (.slice aok kl.length capk) kl.length (flat inE kl) := hko.keep hW3 (fun _ _ e => e)
          have hklb : kl.length ≤ 300 := by omega
          go_wp2
          refine wp_region_held_drew (S := (fun W => Sp w3 kb e.p.toNat (Value.slice aok kl.length capk).ownBlock W)) (by kernel_rfl) ?_ (fun hHeld => ?_)
          · (try dsimp only)
            (first | assumption | exact Sp.drew (by assumption) | exact Sp.of_kept ((KeptF.refl _ _).drew) | exact Sp.of_kept (((KeptF.refl _ _).alloc _).drew) | exact Sp.set (by assumption) _)
          refine takeL 0 (v := ?_) rfl (by kernel_rfl) (by kernel_rfl) (by kernel_rfl) (fun _ _ _ h => h) (by rfl) ?_ (by assumption) ?_
          rotate_left
          · intro w hSw
            (try dsimp only at hSw)
            go_simp
            all_goals with_reducible rfl
          try simp only [Act.put, List.setIfInBounds_toArray, List.set_cons_zero, List.set_cons_succ]
          refine takeL 1 (v := ?_) rfl (by kernel_rfl) (by kernel_rfl) (by kernel_rfl) (fun _ _ _ h => h) (by rfl) ?_ (by assumption) ?_
          rotate_left
          · intro w hSw
            (try dsimp only at hSw)
            go_simp
            all_goals with_reducible rfl
          try simp only [Act.put, List.setIfInBounds_toArray, List.set_cons_zero, List.set_cons_succ]
          refine takeL 2 (v := ?_) rfl (by kernel_rfl) (by kernel_rfl) (by kernel_rfl) (fun _ _ _ h => h) (by rfl) ?_ (by assumption) ?_
          rotate_left
          · intro w hSw
            (try dsimp only at hSw)
            go_simp
            all_goals with_reducible rfl
          try simp only [Act.put, List.setIfInBounds_toArray, List.set_cons_zero, List.set_cons_succ]
          refine takeL 3 (v := ?_) rfl (by kernel_rfl) (by kernel_rfl) (by kernel_rfl) (fun _ _ _ h => h) (by rfl) ?_ (by assumption) ?_
          rotate_left
          · intro w hSw
            (try dsimp only at hSw)
            go_simp
            all_goals with_reducible rfl
          try simp only [Act.put, List.setIfInBounds_toArray, List.set_cons_zero, List.set_cons_succ]
          refine takeL 4 (v := ?_) rfl (by kernel_rfl) (by kernel_rfl) (by kernel_rfl) (fun _ _ _ h => h) (by rfl) ?_ (by assumption) ?_
          rotate_left
          · intro w hSw
            (try dsimp only at hSw)
            go_simp
            all_goals with_reducible rfl
          try simp only [Act.put, List.setIfInBounds_toArray, List.set_cons_zero, List.set_cons_succ]
          refine takeL 5 (v := ?_) rfl (by kernel_rfl) (by kernel_rfl) (by kernel_rfl) (fun _ _ _ h => h) (by rfl) ?_ (by assumption) ?_
          rotate_left
          · intro w hSw
            (try dsimp only at hSw)
            go_simp
            all_goals with_reducible rfl
          try simp only [Act.put, List.setIfInBounds_toArray, List.set_cons_zero, List.set_cons_succ]
          refine takeL 6 (v := ?_) rfl (by kernel_rfl) (by kernel_rfl) (by kernel_rfl) (fun _ _ _ h => h) (by rfl) ?_ (by assumption) ?_
          rotate_left
          · intro w hSw
            (try dsimp only at hSw)
            go_simp
            all_goals with_reducible rfl
          try simp only [Act.put, List.setIfInBounds_toArray, List.set_cons_zero, List.set_cons_succ]
          refine takeL 7 (v := ?_) rfl (by kernel_rfl) (by kernel_rfl) (by kernel_rfl) (fun _ _ _ h => h) (by rfl) ?_ (by assumption) ?_
          rotate_left
          · intro w hSw
            (try dsimp only at hSw)
            go_simp
            all_goals with_reducible rfl
          try simp only [Act.put, List.setIfInBounds_toArray, List.set_cons_zero, List.set_cons_succ]
          refine takeL 8 (v := ?_) rfl (by kernel_rfl) (by kernel_rfl) (by kernel_rfl) (fun _ _ _ h => h) (by rfl) ?_ (by assumption) ?_
          rotate_left
          · intro w hSw
            (try dsimp only at hSw)
            go_simp
            all_goals with_reducible rfl
          try simp only [Act.put, List.setIfInBounds_toArray, List.set_cons_zero, List.set_cons_succ]
          refine takeL 9 (v := ?_) rfl (by kernel_rfl) (by kernel_rfl) (by kernel_rfl) (fun _ _ _ h => h) (by rfl) ?_ (by assumption) ?_
          rotate_left
          · intro w hSw
            (try dsimp only at hSw)
            go_simp
            all_goals with_reducible rfl
          try simp only [Act.put, List.setIfInBounds_toArray, List.set_cons_zero, List.set_cons_succ]
          refine takeL 10 (v := ?_) rfl (by kernel_rfl) (by kernel_rfl) (by kernel_rfl) (fun _ _ _ h => h) (by rfl) ?_ (by assumption) ?_
          rotate_left
          · intro w hSw
            (try dsimp only at hSw)
            go_simp
            all_goals with_reducible rfl
          try simp only [Act.put, List.setIfInBounds_toArray, List.set_cons_zero, List.set_cons_succ]
          refine takeL 12 (v := ?_) rfl (by kernel_rfl) (by kernel_rfl) (by kernel_rfl) (fun _ _ _ h => h) (by rfl) ?_ (by assumption) ?_
          rotate_left
          · intro w hSw
            (try dsimp only at hSw)
            go_simp
            all_goals with_reducible rfl
          try simp only [Act.put, List.setIfInBounds_toArray, List.set_cons_zero, List.set_cons_succ]
          refine takeL 13 (v := ?_) rfl (by kernel_rfl) (by kernel_rfl) (by kernel_rfl) (fun _ _ _ h => h) (by rfl) ?_ (by assumption) ?_
          rotate_left
          · intro w hSw
            (try dsimp only at hSw)
            go_simp
            all_goals with_reducible rfl
          try simp only [Act.put, List.setIfInBounds_toArray, List.set_cons_zero, List.set_cons_succ]
          refine wpAnyH_ready (rs := [11, 14]) (by kernel_rfl) (by simp) ?_
          refine consL rfl (fun K hK => ?_) (consL rfl (fun K hK => ?_) AllReadyH.nil)
          go_simp
          refine hK.out _ _ ?_ (fun hHeld => ?_)
          · (try dsimp only)
            (first | assumption | exact Sp.drew (by assumption) | exact Sp.of_kept ((KeptF.refl _ _).drew) | exact Sp.of_kept (((KeptF.refl _ _).alloc _).drew) | exact Sp.set (by assumption) _)
          clear hK K
          try simp only [Act.put, List.setIfInBounds_toArray, List.set_cons_zero, List.set_cons_succ]
          refine wpAnyH_ready (rs := [14]) (by kernel_rfl) (by simp) ?_
          refine consL rfl (fun K hK => ?_) AllReadyH.nil
          go_simp
          refine hK.out _ _ ?_ (fun hHeld => ?_)
          · (try dsimp only)
            (first | assumption | exact Sp.drew (by assumption) | exact Sp.of_kept ((KeptF.refl _ _).drew) | exact Sp.of_kept (((KeptF.refl _ _).alloc _).drew) | exact Sp.set (by assumption) _)
          clear hK K
          try simp only [Act.put, List.setIfInBounds_toArray, List.set_cons_zero, List.set_cons_succ]
          refine wpAnyH_ready (rs := [15]) (by kernel_rfl) (by simp) ?_
          refine consL rfl (fun K hK => ?_) AllReadyH.nil
          refine step_append_own rfl (.tmp 186) (.tmp 189) 55 rfl B 3 k0 _ 1 8 Try.underlying55 hk0 hx0 hx1 hx2 rfl (by decide) (.slice aok kl.length capk) kl.length (flat inE kl) (by simp [Act.eval]) ?_ ⟨w3.heap.size, 0, none⟩ 1 1 [.int .i64 e.c] (by simp [Act.eval]) rfl ?_ ?_ ?_ ?_ ?_ ?_
          · exact hown0
          · exact hcc
          · exact hone
          · unfold maxLen; omega
          · omega
          · exact Nat.le_trans hB3 hWl3
          intro v4 w4 hown4 hgr4 hfr4
          have hK4 : KeptF (fun k => (Value.slice aok kl.length capk).ownBlock = some k) w3 w4 := (hW3.weaken (fun _ _ e => e.elim)).trans (KeptF.of_grown hgr4 (fun k h _ => h))
          have hS4 : Sp w3 kb e.p.toNat (Value.slice aok kl.length capk).ownBlock w4 := Sp.of_kept hK4
          have hO4 : Own inE w4 B v4 (kl ++ [e.c]) := Own.snoc hown4
          have hb4 := hC3.ca.keep hK4 (nwk .k _ (by simp) rfl)
          have hc6d : w4.cell? ⟨kb, e.p.toNat, none⟩ = some (.slice aok kl.length capk) := (hb4.cell _).trans (by simpa using Hkv.out)
          have hf6d : w4.frozen? ⟨kb, e.p.toNat, none⟩ = false := hb4.frozen _
          obtain ⟨ao4, cap4, hv4, hcap4⟩ := hO4.form'
          rw [List.length_append] at hv4
          have hv4 : v4 = .slice ao4 (kl.length + 1) cap4 := hv4
          subst hv4
          refine hK.out _ _ ?_ (fun hHeld => ?_)
          · (try dsimp only)
            (first | assumption | exact Sp.drew (by assumption) | exact Sp.of_kept ((KeptF.refl _ _).drew) | exact Sp.of_kept (((KeptF.refl _ _).alloc _).drew) | exact Sp.set (by assumption) _)
          clear hK K
          try simp only [Act.put, List.setIfInBounds_toArray, List.set_cons_zero, List.set_cons_succ]
          refine takeL 16 (v := ?_) rfl (by kernel_rfl) (by kernel_rfl) (by kernel_rfl) (fun _ _ _ h => h) (by rfl) ?_ (by assumption) ?_
          rotate_left
          · intro w hSw
            (try dsimp only at hSw)
            go_simp
            all_goals with_reducible rfl
          try simp only [Act.put, List.setIfInBounds_toArray, List.set_cons_zero, List.set_cons_succ]
          refine wpAnyH_ready (rs := [17]) (by kernel_rfl) (by simp) ?_
          refine consL rfl (fun K hK => ?_) AllReadyH.nil
          go_simp
          refine hK.out _ _ ?_ (fun hHeld => ?_)
          · (try dsimp only)
            (first | assumption | exact Sp.drew (by assumption) | exact Sp.of_kept ((KeptF.refl _ _).drew) | exact Sp.of_kept (((KeptF.refl _ _).alloc _).drew) | exact Sp.set (by assumption) _)
          clear hK K
          try simp only [Act.put, List.setIfInBounds_toArray, List.set_cons_zero, List.set_cons_succ]
          refine wpAnyH_done (by kernel_rfl) ?_ _
          rotate_left
          go_simp
          refine hK.out _ _ ?_ (fun hHeld => ?_)
          · (try dsimp only)
            (first | assumption | exact Sp.drew (by assumption) | exact Sp.of_kept ((KeptF.refl _ _).drew) | exact Sp.of_kept (((KeptF.refl _ _).alloc _).drew) | exact Sp.set (by assumption) _)
          clear hK K
          try simp only [Act.put, List.setIfInBounds_toArray, List.set_cons_zero, List.set_cons_succ]
          refine wpAnyH_ready (rs := [11]) (by kernel_rfl) (by simp) ?_
          refine consL rfl (fun K hK => ?_) AllReadyH.nil
          go_simp
          refine hK.out _ _ ?_ (fun hHeld => ?_)
          · (try dsimp only)
            (first | assumption | exact Sp.drew (by assumption) | exact Sp.of_kept ((KeptF.refl _ _).drew) | exact Sp.of_kept (((KeptF.refl _ _).alloc _).drew) | exact Sp.set (by assumption) _)
          clear hK K
          try simp only [Act.put, List.setIfInBounds_toArray, List.set_cons_zero, List.set_cons_succ]
          refine wpAnyH_ready (rs := [15]) (by kernel_rfl) (by simp) ?_
          refine consL rfl (fun K hK => ?_) AllReadyH.nil
          refine step_append_own rfl (.tmp 186) (.tmp 189) 55 rfl B 3 k0 _ 1 8 Try.underlying55 hk0 hx0 hx1 hx2 rfl (by decide) (.slice aok kl.length capk) kl.length (flat inE kl) (by simp [Act.eval]) ?_ ⟨w3.heap.size, 0, none⟩ 1 1 [.int .i64 e.c] (by simp [Act.eval]) rfl ?_ ?_ ?_ ?_ ?_ ?_
          · exact hown0
          · exact hcc
          · exact hone
          · unfold maxLen; omega
          · omega
          · exact Nat.le_trans hB3 hWl3
          intro v4 w4 hown4 hgr4 hfr4
          have hK4 : KeptF (fun k => (Value.slice aok kl.length capk).ownBlock = some k) w3 w4 := (hW3.weaken (fun _ _ e => e.elim)).trans (KeptF.of_grown hgr4 (fun k h _ => h))
          have hS4 : Sp w3 kb e.p.toNat (Value.slice aok kl.length capk).ownBlock w4 := Sp.of_kept hK4
          have hO4 : Own inE w4 B v4 (kl ++ [e.c]) := Own.snoc hown4
          have hb4 := hC3.ca.keep hK4 (nwk .k _ (by simp) rfl)
          have hc6d : w4.cell? ⟨kb, e.p.toNat, none⟩ = some (.slice aok kl.length capk) := (hb4.cell _).trans (by simpa using Hkv.out)
          have hf6d : w4.frozen? ⟨kb, e.p.toNat, none⟩ = false := hb4.frozen _
          obtain ⟨ao4, cap4, hv4, hcap4⟩ := hO4.form'
          rw [List.length_append] at hv4
          have hv4 : v4 = .slice ao4 (kl.length + 1) cap4 := hv4
          subst hv4
          refine hK.out _ _ ?_ (fun hHeld => ?_)
          · (try dsimp only)
            (first | assumption | exact Sp.drew (by assumption) | exact Sp.of_kept ((KeptF.refl _ _).drew) | exact Sp.of_kept (((KeptF.refl _ _).alloc _).drew) | exact Sp.set (by assumption) _)
          clear hK K
          try simp only [Act.put, List.setIfInBounds_toArray, List.set_cons_zero, List.set_cons_succ]
          refine takeL 16 (v := ?_) rfl (by kernel_rfl) (by kernel_rfl) (by kernel_rfl) (fun _ _ _ h => h) (by rfl) ?_ (by assumption) ?_
          rotate_left
          · intro w hSw
            (try dsimp only at hSw)
            go_simp
            all_goals with_reducible rfl
          try simp only [Act.put, List.setIfInBounds_toArray, List.set_cons_zero, List.set_cons_succ]
          refine wpAnyH_ready (rs := [17]) (by kernel_rfl) (by simp) ?_
          refine consL rfl (fun K hK => ?_) AllReadyH.nil
          go_simp
          refine hK.out _ _ ?_ (fun hHeld => ?_)
          · (try dsimp only)
            (first | assumption | exact Sp.drew (by assumption) | exact Sp.of_kept ((KeptF.refl _ _).drew) | exact Sp.of_kept (((KeptF.refl _ _).alloc _).drew) | exact Sp.set (by assumption) _)
          clear hK K
          try simp only [Act.put, List.setIfInBounds_toArray, List.set_cons_zero, List.set_cons_succ]
          refine wpAnyH_done (by kernel_rfl) ?_ _
          rotate_left
          all_goals
            have hC5 := hC3.newCause (l' := kl ++ [e.c]) Hkv.out ((hK4.weaken (G := Touch (owner cb sb qb db kb wv2 (D.set e.p.toNat dv2) C) (fun i => i = .k ∨ i = .ca e.p.toNat)) (fun i _ h => ⟨.ca e.p.toNat, .inr rfl, (own_ca Hkv.out).trans h⟩)).setCell (p := ⟨kb, e.p.toNat, none⟩) (.inl ⟨.k, .inl rfl, rfl⟩) (.slice ao4 (kl.length + 1) cap4)) (by rw [← set_toArray]; exact hb4.set e.p.toNat _)
              (hO4.keep ((KeptF.refl (fun k => k = kb) w4).setCell (p := ⟨kb, e.p.toNat, none⟩) (.inl rfl) _) (fun g hg e' => by
                subst e'
                rcases hfr4 g hg with h1 | h1
                · exact nwk .k _ (by simp) rfl h1
                · have := hW3.size; omega)) (fun g hg => by
                rcases hfr4 g hg with h1 | h1
                · exact .inl h1
                · exact .inr (Nat.le_trans hW3.size h1))
            have hK5 : KeptF (fun k => k = kb ∨ (Value.slice aok kl.length capk).ownBlock = some k) w3 (w4.setCell ⟨kb, e.p.toNat, none⟩ (.slice ao4 (kl.length + 1) cap4)) := (hK4.weaken (fun _ _ h => .inr h)).setCell (p := ⟨kb, e.p.toNat, none⟩) (.inl (.inl rfl)) _
            have hbl5 : Below B w (w4.setCell ⟨kb, e.p.toNat, none⟩ (.slice ao4 (kl.length + 1) cap4)) := hbl3.trans (KeptF.below hK5 hB3 (fun i h => by
              rcases h with h | h
              · subst h; exact hC3.lk
              · exact (hko.lt h).1))
            generalize w4.setCell ⟨kb, e.p.toNat, none⟩ (.slice ao4 (kl.length + 1) cap4) = w5 at *
            generalize Value.slice ao4 (kl.length + 1) cap4 = kv2 at *
            clear K10 T5 d0 hcc hone hown0 hc6d hf6d hb4 hS4 hO4 hgr4 hown4 hfr4
            have c11 : w5.cell? ⟨cb, 11, none⟩ = some (.int .i64 c.all) := by
              have := hC5.blk.cell 11
              rw [show (w5.cell? ⟨cb, 11, none⟩) = some (.int .i64 (cMid m c j e).all) from this, Hma.out]
            have f11 : w5.frozen? ⟨cb, 11, none⟩ = false := hC5.blk.frozen _
            go_wp2
            go_end0
            have hC6 := (hC5.setAll (c.all + 1)).1
            rw [show ((c.all + 1 : Nat) : Int) = (c.all : Int) + 1 by omega] at hC6
            refine ⟨rfl, ⟨wv2, D.set e.p.toNat dv2, C.set e.p.toNat kv2, ?_⟩, Below.setCell (p := ⟨cb, 11, none⟩) hbl5 hC5.lc _⟩
            have hfin : doEv m c j e = { { { cMid m c j e with done := (cMid m c j e).done.set e.p.toNat (dl ++ [(⟨e.it, st⟩ : Dn)]) } with causes := (cMid m c j e).causes.set e.p.toNat (kl ++ [e.c]) } with all := c.all + 1 } := by
              rw [doEv_mid (get_lt (show c.states[e.p.toNat]? = some s from Hst.out))]
              simp only [List.getD_eq_getElem?_getD, Hst2.out, Hdl'.out, Hkl'.out, Option.getD_some, Hmd.out, Hmc.out]
            rw [hfin]
            exact hC6

end Go.Proofs.Ytkobkilfbbalaaa

