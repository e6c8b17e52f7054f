/-
  The program: advance.
  A model's rows, of one's own.
  The net in memory.
  The program: deliver.
-/
import Derived.Test.YtkobkilfbbalaaaK13
import Derived.Test.YtkobkilfbbalaaaK11
namespace Go.Proofs.Ytkobkilfbbalaaa
open Go.RowKit Go.Sort Go.Maps

theorem und_pcs : Try.prog.underlying 131 = some (.slice 141) := by kernel_rfl

theorem doAll_sent {m : Mdl} (hm : Right m) (num en : Int) : ∀ (l : List It) (s : NP × List Pcl), (∀ x ∈ l, 0 ≤ x.t ∧ x.t < 200) → s.1.sent ≤ (doAll m num en l s).1.sent ∧ (doAll m num en l s).1.sent ≤ s.1.sent + 4 * (l.length : Int)
  | [], s, _ => by simp [doAll]
  | x :: l, s, h => by
    have h1 := doAll_sent hm num en l ((doP m num en s.1 x).1, s.2 ++ (doP m num en s.1 x).2) (fun y hy => h y (by simp [hy]))
    have hx := h x (by simp)
    have h2 := ruleOut_len m num s.1.st s.1.sent x
    have h3 := (ruleOut_ok hm (num := num) (st := s.1.st) (sent := s.1.sent) hx.1 hx.2).1
    have h4 : (doP m num en s.1 x).1.sent = (ruleOut m num s.1.st s.1.sent x).2.2 := rfl
    simp only [doAll]
    simp only [h4, h2, List.length_cons] at h1 ⊢
    omega

/-- what advance holds at the loop's head: k events are done -/
structure AdvAt (w wr : World) (B : Nat) (m : Mdl) (en : Int) (i : Nat) (p : Pr) (a : NP) (k : Nat) (p' : Pr) (v : Value) (xb : Nat) : Prop where
  go : PGo w wr B p p'
  rel : PRel en i p' { (dA m (i : Int) en a k).1 with q := qA en a k }
  out : Own pclE wr w.heap.size v (dA m (i : Int) en a k).2
  x : Blk wr xb #[.int .i64 p'.topI.t, .int .i64 p'.topI.f, .int .i64 p'.topI.s, .int .i64 p'.topI.l] 102
  xlow : w.heap.size ≤ xb
  xp : ¬ PF p' xb
  xv : v.ownBlock ≠ some xb
  vp : ∀ g, v.ownBlock = some g → ¬ PF p' g

set_option maxRecDepth 100000 in
set_option maxHeartbeats 16000000 in
theorem advance_any (w : World) (B Bm : Nat) (lv rv : Value) (m : Mdl) (R : List RuleV) (en : Int) (i : Nat) (p : Pr) (a : NP) (h : PAt w B p) (hr : PRel en i p a) (hM : ModelAt w Bm lv rv (.slice none 0 0) (keptM m) R) (hm : Right m) (hBm : Bm ≤ B) (hB : B ≤ w.heap.size)
    (hen0 : 0 ≤ en) (hen : en ≤ 200) (hs : (toDo en a).Pairwise It.lt) (ht : ∀ x ∈ a.q, 0 ≤ x.t ∧ x.t ≤ 200) (hsu0 : 0 ≤ hz en a.hr) (hsu1 : hz en a.hr ≤ en) (hw : ∀ x ∈ a.ws, 0 ≤ x.a ∧ x.a ≤ 60) (hwl : a.ws.length ≤ 12)
    (hse0 : 0 ≤ a.sent) (hse1 : a.sent + 4 * (toDo en a).length ≤ 5000) (hdl : a.dn.length + a.q.length ≤ 2000) :
    Calls Try.prog 68 #[.pointer (some ⟨p.qb, 0, none⟩), .agg #[.int .i64 m.procs, .int .i64 m.states, .int .i64 m.loads, lv, rv, .slice none 0 0]] w fun e w' => ∃ (v : Value) (p' : Pr), e = .returned v ∧ Own pclE w' w.heap.size v (advP m (i : Int) en a).2 ∧ PGo w w' B p p' ∧ PRel en i p' (advP m (i : Int) en a).1 ∧ (∀ g, v.ownBlock = some g → ¬ PF p' g) := by
  obtain ⟨W0, hW0⟩ : ∃ W0, W0 = w.alloc (.cells #[.int .i64 m.procs, .int .i64 m.states, .int .i64 m.loads, lv, rv, .slice none 0 0] 31) := ⟨_, rfl⟩
  have HW0 : Hid (W0 = w.alloc (.cells #[.int .i64 m.procs, .int .i64 m.states, .int .i64 m.loads, lv, rv, .slice none 0 0] 31)) := hW0
  have hK0 : KeptF (fun _ => False) w W0 := by rw [hW0]; exact (KeptF.refl _ w).alloc _
  have hmb : Blk W0 w.heap.size #[.int .i64 m.procs, .int .i64 m.states, .int .i64 m.loads, lv, rv, .slice none 0 0] 31 := by rw [hW0]; exact heap_alloc_new w _
  have hz0 : W0.heap.size = w.heap.size + 1 := by rw [hW0]; simp
  have Hz0 : Hid (W0.heap.size = w.heap.size + 1) := hz0
  clear hW0 hz0
  have hP0 := h.keep hK0 (fun _ _ e => e)
  have hhz := horizon_any W0 p.qb 5 p.hb p.hr en (by rw [← hr.en]; exact hP0.clk.1) hP0.clk.2.1 hP0.hmap
  rw [hr.hr] at hhz
  have hlq := hP0.core.blk.lt
  obtain ⟨sure, hsure⟩ : ∃ sure, sure = hz en a.hr := ⟨_, rfl⟩
  have Hsure : Hid (sure = hz en a.hr) := hsure
  rw [← hsure] at hhz
  clear hsure
  go_enter Try.func68, Try.ntmps68
  go_upto_region 1 with fail
  rw [← HW0.out]
  go_wp2_with fail
  refine hhz.mono ?_
  rintro e1 w1 ⟨rfl, hb1⟩
  clear hhz
  have hP1 := hP0.keep (kept_of_below' hb1) (fun _ _ e => e)
  have hlq1 := hP1.core.blk.lt
  have hle := pLeast_any w1 B p hP1
  have hk1 : KeptF (fun _ => False) W0 w1 := kept_of_below' hb1
  have HK0 : Hid (KeptF (fun _ => False) w W0) := hK0
  have hm1 := hmb.keep (kept_of_below' hb1) (fun e => e)
  clear hmb hK0
  go_wp2_with fail
  refine hle.mono ?_
  rintro e2 w2 ⟨rfl, hb2⟩
  clear hle
  have hk2 : KeptF (fun _ => False) W0 w2 := hk1.trans (kept_of_below' hb2)
  have hP2 := hP1.keep (kept_of_below' hb2) (fun _ _ e => e)
  have hm2 := hm1.keep (kept_of_below' hb2) (fun e => e)
  clear hP1 hm1 hb1 hb2 hk1
  have hz2 : w.heap.size + 1 ≤ w2.heap.size := hm2.lt
  have hst : AdvAt W0 (w2.alloc (.cells #[.int .i64 p.topI.t, .int .i64 p.topI.f, .int .i64 p.topI.s, .int .i64 p.topI.l] 102)) B m en i p a 0 p (.slice none 0 0) w2.heap.size := by
    have hk3 : KeptF (fun _ => False) W0 (w2.alloc (.cells #[.int .i64 p.topI.t, .int .i64 p.topI.f, .int .i64 p.topI.s, .int .i64 p.topI.l] 102)) := hk2.alloc _
    refine ⟨(PGo.refl hP0).grow hk3, ?_, Own.nil _ _ _, heap_alloc_new w2 _, by rw [Hz0.out]; exact hz2, fun hf => by have := (h.lt hf).2; omega, by simp [Value.ownBlock], fun g hg => by cases hg⟩
    have e0 : (dA m (i : Int) en a 0).1 = a := by unfold dA; rw [List.take_zero]; rfl
    rw [e0]
    refine ⟨hr.num, hr.en, hr.hr, hr.ws, hr.st, hr.sent, hr.dn, ?_, ?_⟩
    · unfold qA; rw [List.drop_zero]; exact hr.its.trans (parted en a)
    · rw [hr.pu]
      simp only
      unfold qA
      rw [List.drop_zero, (parted en a).length_eq]
  have hm3 := hm2.alloc (.cells #[.int .i64 p.topI.t, .int .i64 p.topI.f, .int .i64 p.topI.s, .int .i64 p.topI.l] 102)
  have hPlt : ∀ g, PF p g → g < w.heap.size := fun g hg => (h.lt hg).2
  have hPB : ∀ g, PF p g → B ≤ g := fun g hg => (h.lt hg).1
  obtain ⟨i0, hi0, hi1, hi2, hi3⟩ := info_parts info_em
  go_wp2
  clear hP0 hP2 hm2 hk2 hz2 hlq hlq1 h
  go_loopw [5, 7, 8] (fun s5 s7 s8 wr => ∃ (k : Nat) (p' : Pr) (v : Value) (xb : Nat), s5 = v ∧ s7 = .pointer (some ⟨xb, 0, none⟩) ∧ s8 = .bool p'.top.isSome ∧ k ≤ (toDo en a).length ∧ AdvAt W0 wr B m en i p a k p' v xb ∧ Blk wr w.heap.size #[.int .i64 m.procs, .int .i64 m.states, .int .i64 m.loads, lv, rv, .slice none 0 0] 31) (fun _ _ _ wr => 9000 - lenAt wr ⟨p.qb, 11, none⟩)
  case atStart => exact ⟨0, p, _, _, rfl, rfl, rfl, Nat.zero_le _, hst, hm3⟩
  case round =>
    clear hst hm3
    obtain ⟨k, p', v, xb, rfl, rfl, rfl, hk, hA, hmr⟩ := hrel
    have hPr := hA.go.at_
    have hrl := hA.rel
    have htop := top_is hPr hrl.its hs
    have hqb := hA.go.qb
    have hnm : ¬ PF p' w.heap.size := fun hf => by
      rcases hA.go.foot _ hf with h1 | h1
      · have := hPlt _ h1; omega
      · rw [Hz0.out] at h1; omega
    have hkeep := dA_keep m (i : Int) en a k hk
    have hlx := hA.x.lt
    have hlen : lenAt wr ⟨p.qb, 11, none⟩ = a.dn.length + k := by rw [← hqb, hPr.lenAt, hrl.dn]; exact hkeep.2.2
    have Hlen : Hid (lenAt wr ⟨p.qb, 11, none⟩ = a.dn.length + k) := hlen
    have hqlen : a.q.length = (toDo en a).length + (left_ en a).length := by rw [(parted en a).length_eq, List.length_append]
    clear hlen
    by_cases hlt : k < (toDo en a).length
    · obtain ⟨x, hx⟩ := get_of_lt hlt
      have htx := htop.1 x hx
      have hxm := toDo_mem (List.mem_of_getElem? hx)
      have hxt := ht x hxm.1
      have hxs : x.t < sure := by rw [Hsure.out]; exact hxm.2
      have htI : p'.topI = x := by unfold Pr.topI; rw [htx]; rfl
      have hts : p'.top.isSome = true := by rw [htx]; rfl
      have hxk := hA.x
      rw [htI] at hxk
      have Hx : Hid ((toDo en a)[k]? = some x) := hx
      have hint : ∀ b ∈ p'.its, InInt b.t := fun b hb => by
        have h1 := hrl.its.mem_iff.1 hb
        have h2 : b ∈ a.q := by
          unfold qA at h1
          rcases List.mem_append.1 h1 with h3 | h3
          · exact (toDo_mem (List.mem_of_mem_drop h3)).1
          · exact (left_mem h3).1
        have := ht b h2
        unfold InInt; omega
      have hpul : p'.pushed = a.dn.length + a.q.length := by
        rw [hrl.pu]
        show (dA m (i : Int) en a k).1.dn.length + (qA en a k).length = _
        rw [hkeep.2.2]
        unfold qA
        rw [List.length_append, List.length_drop]
        omega
      have x0 : wr.cell? ⟨xb, 0, none⟩ = some (.int .i64 x.t) := hxk.cell 0
      have hpop := pPop wr B p' x hPr htx hint (by omega)
      rw [hqb] at hpop
      rw [hts]
      clear hx htI hts
      go_wp2_with fail
      refine hpop.mono ?_
      rintro e4 w3 ⟨rfl, p1, hT, hpp1, hits⟩
      clear hpop x0
      have hx3 := hxk.keep hT.kept hA.xp
      have hm3 := hmr.keep hT.kept hnm
      have hgo1 : PGo W0 w3 B p p1 := hA.go.trans hT.go
      have hO3 := hA.out.keep hT.kept (fun g hg => hA.vp g hg)
      have hlx3 := hx3.lt
      have hBl3 : Below B w w3 := KeptF.below ((HK0.out.weaken (fun _ _ e => e.elim)).trans hgo1.kept) hB hPB
      have hB3 : B ≤ w3.heap.size := Nat.le_trans hB hBl3.size
      have hsent : 0 ≤ p1.sent ∧ p1.sent ≤ 5000 := by
        have h1 := doAll_sent hm (i : Int) en ((toDo en a).take k) (a, []) (fun y hy => by
          have h2 := toDo_mem (List.mem_of_mem_take hy)
          have h3 := ht y h2.1
          omega)
        rw [hT.sent, hrl.sent]
        show 0 ≤ (dA m (i : Int) en a k).1.sent ∧ (dA m (i : Int) en a k).1.sent ≤ 5000
        unfold dA
        rw [List.length_take] at h1
        simp only at h1
        omega
      have hdo := pdo_any w3 B Bm lv rv (.slice none 0 0) (keptM m) R p1 x hgo1.at_ hm.kept (hM.keep (hBl3.mono hBm)) hBm hB3 hxt.1 (by omega) hsent.1 hsent.2 (by rw [hT.dn, hrl.dn]; show (dA m (i : Int) en a k).1.dn.length ≤ 5000; rw [hkeep.2.2]; omega)
      obtain ⟨ro, hro⟩ : ∃ ro, ro = ruleOut m (i : Int) (dA m (i : Int) en a k).1.st (dA m (i : Int) en a k).1.sent x := ⟨_, rfl⟩
      have hroe : ruleOut (keptM m) p1.num p1.st p1.sent x = ro := by
        rw [hT.num, hT.st, hT.sent, hrl.num, hrl.st, hrl.sent, hro]; rfl
      rw [hroe, show (Value.pointer (some ⟨p1.qb, 0, none⟩)) = .pointer (some ⟨p.qb, 0, none⟩) by rw [hgo1.qb]] at hdo
      have Hro : Hid (ro = ruleOut m (i : Int) (dA m (i : Int) en a k).1.st (dA m (i : Int) en a k).1.sent x) := hro
      clear hroe hro
      have m0 : w3.cell? ⟨w.heap.size, 0, none⟩ = some (.int .i64 m.procs) := hm3.cell 0
      have m1 : w3.cell? ⟨w.heap.size, 1, none⟩ = some (.int .i64 m.states) := hm3.cell 1
      have m2 : w3.cell? ⟨w.heap.size, 2, none⟩ = some (.int .i64 m.loads) := hm3.cell 2
      have m3 : w3.cell? ⟨w.heap.size, 3, none⟩ = some lv := hm3.cell 3
      have m4 : w3.cell? ⟨w.heap.size, 4, none⟩ = some rv := hm3.cell 4
      have m5 : w3.cell? ⟨w.heap.size, 5, none⟩ = some (.slice none 0 0) := hm3.cell 5
      have t0 : w3.cell? ⟨xb, 0, none⟩ = some (.int .i64 x.t) := hx3.cell 0
      have t1 : w3.cell? ⟨xb, 1, none⟩ = some (.int .i64 x.f) := hx3.cell 1
      have t2 : w3.cell? ⟨xb, 2, none⟩ = some (.int .i64 x.s) := hx3.cell 2
      have t3 : w3.cell? ⟨xb, 3, none⟩ = some (.int .i64 x.l) := hx3.cell 3
      have hlm3 := hm3.lt
      go_wp2_with fail
      refine hdo.mono ?_
      rintro e5 w4 ⟨v2, rfl, hO2, hk4, dv2, hp2, hft, hvp⟩
      clear hdo m0 m1 m2 m3 m4 m5 t0 t1 t2 t3
      have hnm1 : ¬ PF p1 w.heap.size := fun hf => by
        rcases hT.foot _ hf with h1 | h1
        · exact hnm h1
        · have := hmr.lt; omega
      have hxp1 : ¬ PF p1 xb := fun hf => by
        rcases hT.foot _ hf with h1 | h1
        · exact hA.xp h1
        · omega
      have hvp1 : ∀ g, u5.ownBlock = some g → ¬ PF p1 g := fun g hg hf => by
        rcases hT.foot _ hf with h1 | h1
        · exact hA.vp g hg h1
        · have := (hA.out.lt hg).2; omega
      have hx4 := hx3.keep hk4 hxp1
      have hm4 := hm3.keep hk4 hnm1
      have hO4 := hO3.keep hk4 hvp1
      obtain ⟨p2, hp2e⟩ : ∃ p2 : Pr, p2 = { p1 with st := ro.2.1, sent := ro.2.2, dnv := dv2, dn := p1.dn ++ [⟨x, ro.2.1⟩] } := ⟨_, rfl⟩
      rw [← hp2e] at hp2 hft hvp
      have hgo2 : PGo W0 w4 B p p2 := hgo1.trans ⟨hp2, by rw [hp2e], hk4, hft⟩
      have hnm2 : ¬ PF p2 w.heap.size := fun hf => by
        rcases hft _ hf with h1 | h1
        · exact hnm1 h1
        · have := hm3.lt; omega
      have hxp2 : ¬ PF p2 xb := fun hf => by
        rcases hft _ hf with h1 | h1
        · exact hxp1 h1
        · omega
      have hvp2 : ∀ g, u5.ownBlock = some g → ¬ PF p2 g := fun g hg hf => by
        rcases hft _ hf with h1 | h1
        · exact hvp1 g hg h1
        · have := (hO3.lt hg).2; omega
      have hdS := dA_succ (m := m) (num := (i : Int)) Hx.out
      have hdP : doP m (i : Int) en (dA m (i : Int) en a k).1 x = ({ (dA m (i : Int) en a k).1 with st := ro.2.1, sent := ro.2.2, dn := (dA m (i : Int) en a k).1.dn ++ [⟨x, ro.2.1⟩] }, (ro.1.filter (fun e => decide (e.it.t < en))).map msg) := by rw [Hro.out]; rfl
      rw [hdP] at hdS
      have hdrop : qA en a k = x :: qA en a (k + 1) := by
        unfold qA
        have hkl := get_lt Hx.out
        have hxx := Hx.out
        rw [List.getElem?_eq_getElem hkl, Option.some.injEq] at hxx
        rw [List.drop_eq_getElem_cons hkl, hxx]; rfl
      have hrel2 : PRel en i p2 { (dA m (i : Int) en a (k + 1)).1 with q := qA en a (k + 1) } := by
        have h1 := hrl.its
        simp only at h1
        rw [hdrop] at h1
        rw [hp2e, hdS]
        refine ⟨hT.num.trans hrl.num, hT.en.trans hrl.en, hT.hr.trans hrl.hr, hT.ws.trans hrl.ws, rfl, rfl, ?_, (hits.trans h1).cons_inv, ?_⟩
        · show p1.dn ++ _ = _
          rw [hT.dn, hrl.dn]
        · show p1.pushed = _
          rw [hpp1, hrl.pu]
          simp only [hdrop, List.length_append, List.length_cons, List.length_nil]
          omega
      have Hrel2 : Hid (PRel en i p2 { (dA m (i : Int) en a (k + 1)).1 with q := qA en a (k + 1) }) := hrel2
      have Hout : Hid ((dA m (i : Int) en a (k + 1)).2 = (dA m (i : Int) en a k).2 ++ (ro.1.filter (fun e => decide (e.it.t < en))).map msg) := by show _ = _; rw [hdS]
      have hlen2 : p2.dn.length = a.dn.length + k + 1 := by rw [hrel2.dn]; exact (dA_keep m (i : Int) en a (k + 1) hlt).2.2
      have Hlen2 : Hid (p2.dn.length = a.dn.length + k + 1) := hlen2
      have hp2en : p2.en = en := hrel2.en
      have hq2 : p2.qb = p.qb := hgo2.qb
      have hrol : ro.1.length ≤ 4 := by rw [Hro.out]; exact (ruleOut_ok hm hxt.1 (by omega)).1
      have holl : (dA m (i : Int) en a k).2.length ≤ 4 * k := by
        have := doAll_len m (i : Int) en hm ((toDo en a).take k) a (fun y hy => by
          have h2 := toDo_mem (List.mem_of_mem_take hy)
          have h3 := ht y h2.1
          omega)
        rw [List.length_take] at this
        unfold dA; omega
      obtain ⟨o0, ho0⟩ : ∃ o0, o0 = (dA m (i : Int) en a k).2 := ⟨_, rfl⟩
      have Ho0 : Hid (o0 = (dA m (i : Int) en a k).2) := ho0
      rw [← ho0] at hO4 holl
      have Hp2e : Hid (p2.qb = p.qb) := hq2
      have hxv : u5.ownBlock ≠ some xb := hA.xv
      have hu5 : ∀ g, u5.ownBlock = some g → g < w3.heap.size := fun g hg => (hO3.lt hg).2
      have hxlow : W0.heap.size ≤ xb := hA.xlow
      clear hlen2 hrel2 hdS hdP hdrop ho0 hp2e hO3 hx3 hm3 hp2 hk4 hft hxk hits hint hpul hT hgo1 hvp1 hxp1 hnm1 htx hA hPr hrl htop hnm hmr
      obtain ⟨aov, capv, hvf, hcapv⟩ := hO2.form'
      subst hvf
      have hlp4 := hgo2.at_.core.blk.lt
      go_wp2
      go_loopw [5, 45] (fun s5 s45 wq => ∃ (j : Nat) (v : Value), s5 = v ∧ s45 = .int .i64 j ∧ j ≤ ro.1.length ∧ Own pclE wq W0.heap.size v (o0 ++ ((ro.1.take j).filter (fun e => decide (e.it.t < en))).map msg) ∧ Own emE wq w3.heap.size (.slice aov ro.1.length capv) ro.1 ∧ PGo W0 wq B p p2 ∧ Blk wq xb #[.int .i64 x.t, .int .i64 x.f, .int .i64 x.s, .int .i64 x.l] 102 ∧ Blk wq w.heap.size #[.int .i64 m.procs, .int .i64 m.states, .int .i64 m.loads, lv, rv, .slice none 0 0] 31 ∧ (∀ g, v.ownBlock = some g → ¬ PF p2 g ∧ g ≠ xb ∧ (Value.slice aov ro.1.length capv).ownBlock ≠ some g)) (fun _ s45 _ => ro.1.length - (intOf s45).toNat)
      case atStart =>
        refine ⟨0, u5, rfl, rfl, Nat.zero_le _, ?_, hO2, hgo2, hx4, hm4, ?_⟩
        · rw [List.take_zero]; simpa using hO4
        · intro g hg
          refine ⟨hvp2 g hg, fun e => hxv (by rw [← e]; exact hg), fun e => ?_⟩
          have h1 := (hO2.lt e).1
          have h2 := hu5 g hg
          omega
      case round =>
        clear hO4 hO2 hgo2 hx4 hm4 hvp2 hxv hu5 hlp4
        obtain ⟨j, v, rfl, rfl, hj, hO, hE, hgo, hxB, hmB, hap⟩ := hrel
        have hPq := hgo.at_
        have c5 : wr.cell? ⟨p.qb, 5, none⟩ = some (.int .i64 en) := by rw [← Hp2e.out, ← hp2en]; exact hPq.clk.1
        have hlq : p.qb < wr.heap.size := block_lt_of_cell c5
        have hszq : W0.heap.size ≤ wr.heap.size := hgo.kept.size
        by_cases hlt2 : j < ro.1.length
        · obtain ⟨e, he⟩ := get_of_lt hlt2
          obtain ⟨g, cap', hg, _⟩ := Own.at_ hE he
          simp only [Value.slice.injEq] at hg
          obtain ⟨rfl, -, -⟩ := hg
          have a0 : wr.cell? ⟨g, j * 6, none⟩ = some (.int .i64 e.it.t) := hE.cell he (k := 0) (u := .int .i64 e.it.t) rfl
          have a1 : wr.cell? ⟨g, j * 6 + 1, none⟩ = some (.int .i64 e.it.f) := hE.cell he (k := 1) (u := .int .i64 e.it.f) rfl
          have a2 : wr.cell? ⟨g, j * 6 + 2, none⟩ = some (.int .i64 e.it.s) := hE.cell he (k := 2) (u := .int .i64 e.it.s) rfl
          have a3 : wr.cell? ⟨g, j * 6 + 3, none⟩ = some (.int .i64 e.it.l) := hE.cell he (k := 3) (u := .int .i64 e.it.l) rfl
          have a4 : wr.cell? ⟨g, j * 6 + 4, none⟩ = some (.int .i64 0) := hE.cell he (k := 4) (u := .int .i64 0) rfl
          have a5 : wr.cell? ⟨g, j * 6 + 5, none⟩ = some (.int .i64 e.k) := hE.cell he (k := 5) (u := .int .i64 e.k) rfl
          have hlg : g < wr.heap.size := block_lt_of_cell a0
          have Htk : Hid (ro.1.take (j + 1) = ro.1.take j ++ [e]) := by show _ = _; rw [List.take_add_one, he]; rfl
          clear he
          obtain ⟨Wy, hWy⟩ : ∃ Wy, Wy = wr.alloc (.cells #[.int .i64 e.it.t, .int .i64 e.it.f, .int .i64 e.it.s, .int .i64 e.it.l, .int .i64 0, .int .i64 e.k] 141) := ⟨_, rfl⟩
          have HWy : Hid (Wy = wr.alloc (.cells #[.int .i64 e.it.t, .int .i64 e.it.f, .int .i64 e.it.s, .int .i64 e.it.l, .int .i64 0, .int .i64 e.k] 141)) := hWy
          have hyb : Blk Wy wr.heap.size #[.int .i64 e.it.t, .int .i64 e.it.f, .int .i64 e.it.s, .int .i64 e.it.l, .int .i64 0, .int .i64 e.k] 141 := by rw [hWy]; exact heap_alloc_new wr _
          have hKy : KeptF (fun _ => False) wr Wy := by rw [hWy]; exact (KeptF.refl _ wr).alloc _
          clear hWy
          have y0 : Wy.cell? ⟨wr.heap.size, 0, none⟩ = some (.int .i64 e.it.t) := hyb.cell 0
          have d5 : Wy.cell? ⟨p.qb, 5, none⟩ = some (.int .i64 en) := (hKy.cell (p := ⟨p.qb, 5, none⟩) hlq (fun e => e)).trans c5
          have hly := hyb.lt
          have hlqy : p.qb < Wy.heap.size := block_lt_of_cell d5
          go_upto_region 10 with fail
          rw [← HWy.out]
          clear a0 a1 a2 a3 a4 a5 c5
          refine still_tail' 8 (by kernel_rfl) (by kernel_rfl) ?_
          simp only [List.take_succ_cons, List.take_zero, List.drop_succ_cons, List.drop_zero]
          repeat still_step
          refine wpStill_nil ?_
          obtain ⟨Wd, hWd⟩ : ∃ Wd, Wd = Wy.drew := ⟨_, rfl⟩
          rw [← hWd]
          have hKd : KeptF (fun _ => False) wr Wd := by rw [hWd]; exact hKy.drew
          have hyd : Blk Wd wr.heap.size #[.int .i64 e.it.t, .int .i64 e.it.f, .int .i64 e.it.s, .int .i64 e.it.l, .int .i64 0, .int .i64 e.k] 141 := by rw [hWd]; exact hyb.drew
          have hOd := hO.keep hKd (fun _ _ e => e)
          have hEd := hE.keep hKd (fun _ _ e => e)
          have hgod := hgo.grow hKd
          have hxd := hxB.keep hKd (fun e => e)
          have hmd := hmB.keep hKd (fun e => e)
          have hszd : W0.heap.size ≤ Wd.heap.size := Nat.le_trans hszq hKd.size
          clear hWd y0 d5 hyb hKy HWy hly hlqy
          by_cases hte : e.it.t < en
          · have z0 : Wd.cell? ⟨wr.heap.size, 0, none⟩ = some (.int .i64 e.it.t) := hyd.cell 0
            have z1 : Wd.cell? ⟨wr.heap.size, 1, none⟩ = some (.int .i64 e.it.f) := hyd.cell 1
            have z2 : Wd.cell? ⟨wr.heap.size, 2, none⟩ = some (.int .i64 e.it.s) := hyd.cell 2
            have z3 : Wd.cell? ⟨wr.heap.size, 3, none⟩ = some (.int .i64 e.it.l) := hyd.cell 3
            have z4 : Wd.cell? ⟨wr.heap.size, 4, none⟩ = some (.int .i64 0) := hyd.cell 4
            have z5 : Wd.cell? ⟨wr.heap.size, 5, none⟩ = some (.int .i64 e.k) := hyd.cell 5
            have hly := hyd.lt
            have hcc := newCells Wd [.int .i64 e.it.t, .int .i64 e.it.f, .int .i64 e.it.s, .int .i64 e.it.l, .int .i64 0, .int .i64 e.k] 141
            have hone : ∀ u ∈ ([.int .i64 e.it.t, .int .i64 e.it.f, .int .i64 e.it.s, .int .i64 e.it.l, .int .i64 0, .int .i64 e.k] : List Value), u.oneCell' = true := pclE.one (msg e)
            have hWW : KeptF (fun _ => False) Wd (Wd.alloc (.cells #[.int .i64 e.it.t, .int .i64 e.it.f, .int .i64 e.it.s, .int .i64 e.it.l, .int .i64 0, .int .i64 e.k] 141)) := (KeptF.refl _ Wd).alloc _
            obtain ⟨l1, hl1⟩ : ∃ l1, l1 = o0 ++ ((ro.1.take j).filter (fun e => decide (e.it.t < en))).map msg := ⟨_, rfl⟩
            have hl1n : l1.length ≤ 9000 := by
              rw [hl1, List.length_append, List.length_map]
              have := List.length_filter_le (fun e : Em => decide (e.it.t < en)) (ro.1.take j)
              rw [List.length_take] at this
              omega
            have Hl1 : Hid (l1 = o0 ++ ((ro.1.take j).filter (fun e => decide (e.it.t < en))).map msg) := hl1
            rw [← hl1] at hOd
            obtain ⟨n1, hn1⟩ : ∃ n1, n1 = l1.length := ⟨_, rfl⟩
            have Hn1 : Hid (n1 = l1.length) := hn1
            have hn9 : n1 ≤ 9000 := by omega
            have hown0 : (Wd.alloc (.cells #[.int .i64 e.it.t, .int .i64 e.it.f, .int .i64 e.it.s, .int .i64 e.it.l, .int .i64 0, .int .i64 e.k] 141)).ownsRow W0.heap.size 141 6 u5 n1 (flat pclE l1) := by
              rw [hn1]; exact hOd.keep hWW (fun _ _ e => e)
            clear hl1 hn1 hl1n
            go_wp2_with (at_builtin; (refine wpList_append_ownX rfl (.tmp 58) (.tmp 60) 131 rfl W0.heap.size 141 i0 _ 6 48 und_pcs hi0 hi1 hi2 hi3 rfl (by decide) u5 n1 (flat pclE l1) rfl ?_ ⟨Wd.heap.size, 0, none⟩ 1 1 [.int .i64 e.it.t, .int .i64 e.it.f, .int .i64 e.it.s, .int .i64 e.it.l, .int .i64 0, .int .i64 e.k] rfl ?_ ?_ ?_ ?_ ?_ ?_ ?_))
            · exact hown0
            · rfl
            · exact hcc
            · exact hone
            · unfold maxLen; omega
            · omega
            · exact Nat.le_trans hszd hWW.size
            · intro v3 w5 hown3 hgr3 hfr3
              have hob : ∀ r, u5.ownBlock = some r → W0.heap.size ≤ r := fun r hr => (hOd.lt hr).1
              have hK3 : KeptF (fun r => u5.ownBlock = some r) Wd w5 := (hWW.weaken (fun _ _ e => e.elim)).trans (KeptF.of_grown hgr3 (fun k h _ => h))
              have hO5 : Own pclE w5 W0.heap.size v3 (o0 ++ ((ro.1.take (j + 1)).filter (fun e => decide (e.it.t < en))).map msg) := by
                rw [Htk.out, List.filter_append, List.map_append, ← List.append_assoc, ← Hl1.out]
                have e1 : [e].filter (fun e => decide (e.it.t < en)) = [e] := by simp [hte]
                rw [e1]
                exact Own.snoc (x := msg e) (by rw [← Hn1.out]; exact hown3)
              have hE5 := hEd.keep hK3 (fun r hr e' => (hap r e').2.2 hr)
              have hgo5 : PGo W0 w5 B p p2 := ⟨hgod.at_.keep hK3 (fun r hr e' => (hap r e').1 hr), hgod.qb, hgod.kept.trans' hK3 (fun r hr e' => by have := hob r e'; omega), hgod.foot⟩
              have hx5 := hxd.keep hK3 (fun e' => (hap xb e').2.1 rfl)
              have hm5 := hmd.keep hK3 (fun e' => by have := hob _ e'; rw [Hz0.out] at this; omega)
              have hap5 : ∀ r, v3.ownBlock = some r → ¬ PF p2 r ∧ r ≠ xb ∧ (Value.slice (some ⟨g, 0, none⟩) ro.1.length capv).ownBlock ≠ some r := fun r hr => by
                rcases hfr3 r hr with h1 | h1
                · exact hap r h1
                · have h2 : Wd.heap.size ≤ r := by omega
                  refine ⟨fun hf => by have := (hgod.at_.lt hf).2; omega, fun e' => by have := hxd.lt; omega, fun e' => by have := (hEd.lt e').2; omega⟩
              clear hown3 hgr3 hfr3 hown0 hcc hone hWW hOd hEd hgod hxd hmd z0 z1 z2 z3 z4 z5
              go_wp2
              go_roundw
              case rel => exact ⟨j + 1, v3, rfl, by go_num, hlt2, hO5, hE5, hgo5, hx5, hm5, hap5⟩
              case measure => simp [intOf]; omega
          · go_wp2
            go_roundw
            case rel =>
              refine ⟨j + 1, u5, rfl, by go_num, hlt2, ?_, hEd, hgod, hxd, hmd, hap⟩
              rw [Htk.out, List.filter_append, List.map_append]
              have e1 : [e].filter (fun e => decide (e.it.t < en)) = [] := by simp [hte]
              rw [e1]
              simpa using hOd
            case measure => simp [intOf]; omega
        · have hje : j = ro.1.length := by omega
          subst hje
          rw [List.take_of_length_le (Nat.le_refl _), Ho0.out, ← Hout.out] at hO
          have x0 : wr.cell? ⟨xb, 0, none⟩ = some (.int .i64 x.t) := hxB.cell 0
          have x1 : wr.cell? ⟨xb, 1, none⟩ = some (.int .i64 x.f) := hxB.cell 1
          have x2 : wr.cell? ⟨xb, 2, none⟩ = some (.int .i64 x.s) := hxB.cell 2
          have x3 : wr.cell? ⟨xb, 3, none⟩ = some (.int .i64 x.l) := hxB.cell 3
          have hlxb := hxB.lt
          obtain ⟨W6, hW6⟩ : ∃ W6, W6 = wr.alloc (.cells #[.int .i64 x.t, .int .i64 x.f, .int .i64 x.s, .int .i64 x.l] 102) := ⟨_, rfl⟩
          have HW6 : Hid (W6 = wr.alloc (.cells #[.int .i64 x.t, .int .i64 x.f, .int .i64 x.s, .int .i64 x.l] 102)) := hW6
          have hK6 : KeptF (fun _ => False) wr W6 := by rw [hW6]; exact (KeptF.refl _ wr).alloc _
          have hx6 : Blk W6 wr.heap.size #[.int .i64 x.t, .int .i64 x.f, .int .i64 x.s, .int .i64 x.l] 102 := by rw [hW6]; exact heap_alloc_new wr _
          have hgo6 := hgo.grow hK6
          have hO6 := hO.keep hK6 (fun _ _ e => e)
          have hm6 := hmB.keep hK6 (fun e => e)
          have hle := pLeast_any W6 B p2 hgo6.at_
          rw [Hp2e.out] at hle
          have hlq6 : p.qb < W6.heap.size := Nat.lt_of_lt_of_le hlq hK6.size
          clear hW6
          go_upto_region 5 with fail
          rw [← HW6.out]
          go_wp2_with fail
          refine hle.mono ?_
          rintro e7 w7 ⟨rfl, hb7⟩
          clear hle x0 x1 x2 x3
          have hk7 : KeptF (fun _ => False) W6 w7 := kept_of_below' hb7
          have hx7 := hx6.keep hk7 (fun e => e)
          have hgo7 := hgo6.grow hk7
          have hO7 := hO6.keep hk7 (fun _ _ e => e)
          have hm7 := hm6.keep hk7 (fun e => e)
          have f0 : w7.frozen? ⟨wr.heap.size, 0, none⟩ = false := hx7.frozen 0
          have f1 : w7.frozen? ⟨wr.heap.size, 1, none⟩ = false := hx7.frozen 1
          have f2 : w7.frozen? ⟨wr.heap.size, 2, none⟩ = false := hx7.frozen 2
          have f3 : w7.frozen? ⟨wr.heap.size, 3, none⟩ = false := hx7.frozen 3
          have g0 : w7.cell? ⟨wr.heap.size, 0, none⟩ = some (.int .i64 x.t) := hx7.cell 0
          have g1 : w7.cell? ⟨wr.heap.size, 1, none⟩ = some (.int .i64 x.f) := hx7.cell 1
          have g2 : w7.cell? ⟨wr.heap.size, 2, none⟩ = some (.int .i64 x.s) := hx7.cell 2
          have g3 : w7.cell? ⟨wr.heap.size, 3, none⟩ = some (.int .i64 x.l) := hx7.cell 3
          have hlx7 := hx7.lt
          clear hgo6 hO6 hm6 hx6 hb7 HW6
          go_wp2
          go_roundw
          case rel =>
            have hk8 : KeptF (fun r => r = wr.heap.size) w7 ((((w7.setCell ⟨wr.heap.size, 0, none⟩ (.int .i64 p2.topI.t)).setCell ⟨wr.heap.size, 1, none⟩ (.int .i64 p2.topI.f)).setCell ⟨wr.heap.size, 2, none⟩ (.int .i64 p2.topI.s)).setCell ⟨wr.heap.size, 3, none⟩ (.int .i64 p2.topI.l)) := ((((KeptF.refl (fun r => r = wr.heap.size) w7).setCell (p := ⟨wr.heap.size, 0, none⟩) (.inl rfl) _).setCell (p := ⟨wr.heap.size, 1, none⟩) (.inl rfl) _).setCell (p := ⟨wr.heap.size, 2, none⟩) (.inl rfl) _).setCell (p := ⟨wr.heap.size, 3, none⟩) (.inl rfl) _
            have hnp : ¬ PF p2 wr.heap.size := fun hf => by have := (hgo.at_.lt hf).2; omega
            have hov : u5.ownBlock ≠ some wr.heap.size := fun e => by have := (hO.lt e).2; omega
            refine ⟨k + 1, p2, u5, wr.heap.size, rfl, rfl, rfl, hlt, ⟨⟨hgo7.at_.keep hk8 (fun r hr e => hnp (e ▸ hr)), hgo7.qb, hgo7.kept.trans' hk8 (fun r hr e => by omega), hgo7.foot⟩, Hrel2.out, hO7.keep hk8 (fun r hr e => hov (e ▸ hr)), (((hx7.set 0 _).set 1 _).set 2 _).set 3 _, hszq, hnp, hov, fun r hr => (hap r hr).1⟩, hm7.keep hk8 (fun e => by have := hmB.lt; omega)⟩
          case measure =>
            rw [Hlen.out]
            have e1 : lenAt ((((w7.setCell ⟨wr.heap.size, 0, none⟩ (.int .i64 p2.topI.t)).setCell ⟨wr.heap.size, 1, none⟩ (.int .i64 p2.topI.f)).setCell ⟨wr.heap.size, 2, none⟩ (.int .i64 p2.topI.s)).setCell ⟨wr.heap.size, 3, none⟩ (.int .i64 p2.topI.l)) ⟨p.qb, 11, none⟩ = a.dn.length + k + 1 := by
              have hk8 : KeptF (fun r => r = wr.heap.size) w7 ((((w7.setCell ⟨wr.heap.size, 0, none⟩ (.int .i64 p2.topI.t)).setCell ⟨wr.heap.size, 1, none⟩ (.int .i64 p2.topI.f)).setCell ⟨wr.heap.size, 2, none⟩ (.int .i64 p2.topI.s)).setCell ⟨wr.heap.size, 3, none⟩ (.int .i64 p2.topI.l)) := ((((KeptF.refl (fun r => r = wr.heap.size) w7).setCell (p := ⟨wr.heap.size, 0, none⟩) (.inl rfl) _).setCell (p := ⟨wr.heap.size, 1, none⟩) (.inl rfl) _).setCell (p := ⟨wr.heap.size, 2, none⟩) (.inl rfl) _).setCell (p := ⟨wr.heap.size, 3, none⟩) (.inl rfl) _
              have hnp : ¬ PF p2 wr.heap.size := fun hf => by have := (hgo.at_.lt hf).2; omega
              rw [← Hp2e.out, (hgo7.at_.keep hk8 (fun r hr e => hnp (e ▸ hr))).lenAt, Hlen2.out]
            rw [e1]
            omega
    · have hke : k = (toDo en a).length := by omega
      subst hke
      have hc : (p'.top.isSome = false) ∨ (p'.top.isSome = true ∧ ¬ p'.topI.t < sure) := by
        cases htp : p'.top with
        | none => exact .inl rfl
        | some t =>
          right
          refine ⟨rfl, ?_⟩
          unfold Pr.topI
          rw [htp, Hsure.out]
          exact htop.2 (Nat.le_refl _) t htp
      have x0 : wr.cell? ⟨xb, 0, none⟩ = some (.int .i64 p'.topI.t) := hA.x.cell 0
      have hwsl : p'.ws = a.ws := hrl.ws.trans hkeep.2.1
      have hwne : p'.wv.ownBlock ≠ some p'.qb := fun e => hPr.cq _ (.inr e) rfl
      have hwords := words_any wr B p'.qb 5 p'.wv p'.ws en sure (by rw [← hrl.en]; exact hPr.clk.1) hPr.clk.2.2 hPr.wown hwne (by rw [hwsl]; exact hwl) (by rw [Hsure.out]; exact hsu0) (by rw [Hsure.out]; omega) (by rw [hwsl]; exact hw)
      rw [hqb, hwsl] at hwords
      have hlq : p.qb < wr.heap.size := by rw [← hqb]; exact hPr.core.blk.lt
      have hfin : ∀ (w6 : World) (v6 : Value), Own pclE w6 wr.heap.size v6 (wyO en sure a.ws) → Own wyE w6 B p'.wv (a.ws.map (wyN en sure)) → KeptF (fun g => p'.wv.ownBlock = some g) wr w6 → Own pclE w6 W0.heap.size u5 (dA m (i : Int) en a (toDo en a).length).2 ∧ PGo W0 w6 B p { p' with ws := a.ws.map (wyN en sure) } ∧ W0.heap.size ≤ w6.heap.size := by
        intro w6 v6 h1 h2 h3
        exact ⟨hA.out.keep h3 (fun g hg e => hA.vp g hg (.inr (.inr (.inr e)))), hA.go.trans (hPr.setWs h2 h3), Nat.le_trans hA.go.kept.size h3.size⟩
      have hrelF : PRel en i { p' with ws := a.ws.map (wyN en sure) } (advP m (i : Int) en a).1 := by
        rw [dA_all, Hsure.out]
        refine ⟨hrl.num, hrl.en, hrl.hr, rfl, hrl.st, hrl.sent, hrl.dn, ?_, ?_⟩
        · have := hrl.its
          simp only at this
          unfold qA at this
          rw [List.drop_of_length_le (Nat.le_refl _), List.nil_append] at this
          exact this
        · have := hrl.pu
          simp only at this
          unfold qA at this
          rw [List.drop_of_length_le (Nat.le_refl _), List.nil_append] at this
          exact this
      have HrelF : Hid (PRel en i { p' with ws := a.ws.map (wyN en sure) } (advP m (i : Int) en a).1) := hrelF
      have HoutF : Hid ((advP m (i : Int) en a).2 = (dA m (i : Int) en a (toDo en a).length).2 ++ wyO en sure a.ws) := by show _ = _; rw [dA_all, Hsure.out]
      have hvpF : ∀ g, u5.ownBlock = some g → ¬ PF { p' with ws := a.ws.map (wyN en sure) } g := fun g hg hf => hA.vp g hg hf
      have hPFlt : ∀ g, PF { p' with ws := a.ws.map (wyN en sure) } g → g < wr.heap.size := fun g hg => (hPr.lt (show PF p' g from hg)).2
      have holl : (dA m (i : Int) en a (toDo en a).length).2.length ≤ 4 * (toDo en a).length := by
        have := doAll_len m (i : Int) en hm ((toDo en a).take (toDo en a).length) a (fun y hy => by
          have h2 := toDo_mem (List.mem_of_mem_take hy)
          have h3 := ht y h2.1
          omega)
        rw [List.length_take, Nat.min_self] at this
        unfold dA; exact this
      obtain ⟨lo, hlo⟩ : ∃ lo, lo = (dA m (i : Int) en a (toDo en a).length).2 := ⟨_, rfl⟩
      rw [← hlo] at hfin holl HoutF
      have hwol := wyO_length en sure a.ws
      obtain ⟨lw, hlw⟩ : ∃ lw, lw = wyO en sure a.ws := ⟨_, rfl⟩
      rw [← hlw] at hwords hfin hwol HoutF
      clear hlo hlw hrelF htop hrl hPr hA hmr hwsl hwne hkeep
      rcases hc with hc | ⟨hc, hc2⟩
      all_goals
        rw [hc]
        go_wp2_with fail
        refine hwords.mono ?_
        rintro e6 w6 ⟨v6, rfl, hV, hWs, hk6⟩
        clear hwords x0
        obtain ⟨hO6, hgo6, hsz6⟩ := hfin w6 v6 hV hWs hk6
        go_wp2_with (at_builtin; (refine wpList_append_both rfl (.tmp 64) (.tmp 69) 131 rfl pclE W0.heap.size i0 _ 48 und_pcs hi0 hi1 hi2 hi3 rfl u5 v6 lo lw wr.heap.size rfl ?_ rfl ?_ ?_ ?_ ?_ ?_))
        · exact hO6
        · exact hV
        · unfold maxLen; omega
        · omega
        · exact hsz6
        · intro v7 w7 hO7 hgr7 hfr7
          have hK7 : KeptF (fun r => u5.ownBlock = some r) w6 w7 := KeptF.of_grown hgr7 (fun k h _ => h)
          have hob : ∀ r, u5.ownBlock = some r → W0.heap.size ≤ r := fun r hr => (hO6.lt hr).1
          have hgo7 : PGo W0 w7 B p { p' with ws := a.ws.map (wyN en sure) } := ⟨hgo6.at_.keep hK7 (fun r hr e => hvpF r e hr), hgo6.qb, hgo6.kept.trans' hK7 (fun r hr e => by have := hob r e; omega), hgo6.foot⟩
          clear hgr7
          go_wp2
          go_ret
          refine ⟨v7, _, rfl, ?_, hgo7.ahead HK0.out, HrelF.out, fun g hg hf => ?_⟩
          · rw [HoutF.out]; exact hO7.mono (by rw [Hz0.out]; omega)
          · rcases hfr7 g hg with h1 | h1
            · exact hvpF g h1 hf
            · have h2 := hPFlt g hf
              have := hk6.size
              omega

end Go.Proofs.Ytkobkilfbbalaaa

namespace Go.Proofs.Ytkobkilfbbalaaa
open Go.RowKit Go.Sort Go.Maps

/-- rows of a model, of one's own, in blocks from lo on -/
structure ModOwn (w : World) (lo : Nat) (lv rv : Value) (m : Mdl) (RS : List RuleS) : Prop where
  links : Own lkE w lo lv m.links
  rules : Own rlE w lo rv RS
  same : RS.map RuleS.r = m.rules
  ems : ∀ x ∈ RS, Own etE w lo x.ev x.r.es

theorem ModOwn.modelAt {w : World} {lo : Nat} {lv rv : Value} {m : Mdl} {RS : List RuleS} (h : ModOwn w lo lv rv m RS) : ModelAt w w.heap.size lv rv (.slice none 0 0) (keptM m) (RS.map RuleS.v) := by
  refine ⟨h.links.rows, ⟨RowsAt.map (f := RuleS.v) h.rules.rows, fun x hx => ?_⟩, ⟨none, 0, rfl, Nat.le_refl _, fun e => absurd rfl e⟩, ?_⟩
  · obtain ⟨y, hy, rfl⟩ := List.mem_map.1 hx
    exact (h.ems y hy).rows
  · rw [List.map_map]; exact h.same
/-- the blocks of a model's rows -/
def MF (lv rv : Value) (RS : List RuleS) (k : Nat) : Prop := lv.ownBlock = some k ∨ rv.ownBlock = some k ∨ ∃ x ∈ RS, x.ev.ownBlock = some k
theorem ModOwn.keep {G : Nat → Prop} {w w' : World} {lo : Nat} {lv rv : Value} {m : Mdl} {RS : List RuleS} (h : ModOwn w lo lv rv m RS) (k : KeptF G w w') (hG : ∀ i, MF lv rv RS i → ¬ G i) : ModOwn w' lo lv rv m RS :=
  ⟨h.links.keep k (fun g hg => hG g (.inl hg)), h.rules.keep k (fun g hg => hG g (.inr (.inl hg))), h.same, fun x hx => (h.ems x hx).keep k (fun g hg => hG g (.inr (.inr ⟨x, hx, hg⟩)))⟩
theorem ModOwn.lt {w : World} {lo : Nat} {lv rv : Value} {m : Mdl} {RS : List RuleS} (h : ModOwn w lo lv rv m RS) {k : Nat} (hk : MF lv rv RS k) : lo ≤ k ∧ k < w.heap.size := by
  rcases hk with hk | hk | ⟨x, hx, hk⟩
  · exact h.links.lt hk
  · exact h.rules.lt hk
  · exact (h.ems x hx).lt hk
theorem Own.rowsB4 {α : Type} {E : Enc α} {w : World} {B N : Nat} {v : Value} {l : List α} (h : Own E w B v l) (hg : ∀ g, v.ownBlock = some g → g < N) : RowsAt E.sz E.enc w N v l := by
  rcases h.form with ⟨h1, h2⟩ | ⟨g, cap, h1, h2⟩
  · subst h2
    exact ⟨none, 0, h1, Nat.le_refl _, fun h => absurd rfl h⟩
  · subst h1
    refine ⟨_, _, rfl, h2, fun _ => ⟨g, 0, rfl, hg g rfl, fun j x k u hx hu => ?_⟩⟩
    rw [Nat.zero_add]
    exact h.cell hx hu
theorem ModOwn.at_ {w : World} {lo N : Nat} {lv rv : Value} {m : Mdl} {RS : List RuleS} (h : ModOwn w lo lv rv m RS) (hN : ∀ k, MF lv rv RS k → k < N) : ModelAt w N lv rv (.slice none 0 0) (keptM m) (RS.map RuleS.v) := by
  refine ⟨h.links.rowsB4 (fun g hg => hN g (.inl hg)), ⟨RowsAt.map (f := RuleS.v) (h.rules.rowsB4 (fun g hg => hN g (.inr (.inl hg)))), fun x hx => ?_⟩, ⟨none, 0, rfl, Nat.le_refl _, fun e => absurd rfl e⟩, ?_⟩
  · obtain ⟨y, hy, rfl⟩ := List.mem_map.1 hx
    exact (h.ems y hy).rowsB4 (fun g hg => hN g (.inr (.inr ⟨y, hy, hg⟩)))
  · rw [List.map_map]; exact h.same

end Go.Proofs.Ytkobkilfbbalaaa

namespace Go.Proofs.Ytkobkilfbbalaaa
open Go.RowKit Go.Sort Go.Maps

structure NV where
  lo : Nat
  Bm : Nat
  B : Nat
  lv : Value
  rv : Value
  RS : List RuleS
  pb : Nat
  ps : List Pr
  gb : Nat
  gv : List Value

/-- the blocks of a net -/
def NF (nb : Nat) (V : NV) (k : Nat) : Prop := k = nb ∨ k = V.gb ∨ AllF V.pb V.ps k ∨ ∃ v ∈ V.gv, v.ownBlock = some k
def netC (m : Mdl) (V : NV) : Array Value := #[.int .i64 m.procs, .int .i64 m.states, .int .i64 m.loads, V.lv, V.rv, .slice none 0 0, .slice (some ⟨V.pb, 0, none⟩) (np m) (np m), .slice (some ⟨V.gb, 0, none⟩) m.links.length m.links.length]

structure NetAt (w : World) (nb : Nat) (m : Mdl) (en : Int) (s : NS) (V : NV) : Prop where
  blk : Blk w nb (netC m V) 119
  mo : ModOwn w V.lo V.lv V.rv m V.RS
  mlt : ∀ k, MF V.lv V.rv V.RS k → k < V.Bm ∧ k ≠ V.gb
  low : V.Bm ≤ V.B
  lol : V.lo ≤ V.B
  procs : Procs w V.B V.pb (np m) V.ps
  plen : V.ps.length = np m
  slen : s.ps.length = np m
  rel : ∀ (i : Nat) (p : Pr) (a : NP), V.ps[i]? = some p → s.ps[i]? = some a → PRel en i p a
  garr : Blk w V.gb V.gv.toArray 131
  glen : V.gv.length = m.links.length
  llen : s.ls.length = m.links.length
  each : ∀ (k : Nat) (v : Value), V.gv[k]? = some v → Own pclE w V.B v (s.ls.getD k [])
  gne : ∀ (i j : Nat) (v v' : Value) (g : Nat), V.gv[i]? = some v → V.gv[j]? = some v' → i ≠ j → v.ownBlock = some g → v'.ownBlock ≠ some g
  nlow : V.B ≤ nb
  glow : V.lo ≤ V.gb
  ng : nb ≠ V.gb
  pn : ¬ AllF V.pb V.ps nb
  pg : ¬ AllF V.pb V.ps V.gb
  vn : ∀ v ∈ V.gv, v.ownBlock ≠ some nb ∧ v.ownBlock ≠ some V.gb ∧ ∀ g, v.ownBlock = some g → ¬ AllF V.pb V.ps g

section
variable {w w' : World} {nb : Nat} {m : Mdl} {en : Int} {s : NS} {V : NV}

theorem NetAt.lt (h : NetAt w nb m en s V) {k : Nat} (hk : NF nb V k) : V.lo ≤ k ∧ k < w.heap.size := by
  rcases hk with rfl | rfl | hk | ⟨v, hv, hk⟩
  · exact ⟨Nat.le_trans h.lol h.nlow, h.blk.lt⟩
  · exact ⟨h.glow, h.garr.lt⟩
  · have := h.procs.lt hk
    exact ⟨Nat.le_trans h.lol this.1, this.2⟩
  · obtain ⟨i, hi⟩ := List.getElem?_of_mem hv
    have := (h.each i v hi).lt hk
    exact ⟨Nat.le_trans h.lol this.1, this.2⟩
theorem NetAt.mod (h : NetAt w nb m en s V) : ModelAt w V.Bm V.lv V.rv (.slice none 0 0) (keptM m) (V.RS.map RuleS.v) := h.mo.at_ (fun k hk => (h.mlt k hk).1)
/-- the net's blocks are not its model's -/
theorem NetAt.apart (h : NetAt w nb m en s V) {k : Nat} (hm : MF V.lv V.rv V.RS k) (hk : NF nb V k) : False := by
  have h1 := h.mlt k hm
  have h2 := h.low
  rcases hk with rfl | rfl | hk | ⟨v, hv, hk⟩
  · have := h.nlow; omega
  · exact h1.2 rfl
  · have := (h.procs.lt hk).1; omega
  · obtain ⟨i, hi⟩ := List.getElem?_of_mem hv
    have := ((h.each i v hi).lt hk).1; omega

theorem NetAt.keep {G : Nat → Prop} (h : NetAt w nb m en s V) (k : KeptF G w w') (hG : ∀ i, NF nb V i → ¬ G i) (hM : ∀ i, MF V.lv V.rv V.RS i → ¬ G i) : NetAt w' nb m en s V :=
  ⟨h.blk.keep k (hG _ (.inl rfl)), h.mo.keep k hM, h.mlt, h.low, h.lol, h.procs.keep k (fun i hi => hG i (.inr (.inr (.inl hi)))), h.plen, h.slen, h.rel, h.garr.keep k (hG _ (.inr (.inl rfl))), h.glen, h.llen,
   fun i v hv => (h.each i v hv).keep k (fun g hg => hG g (.inr (.inr (.inr ⟨v, List.mem_of_getElem? hv, hg⟩)))), h.gne, h.nlow, h.glow, h.ng, h.pn, h.pg, h.vn⟩
theorem NetAt.bm (h : NetAt w nb m en s V) : V.Bm ≤ w.heap.size := Nat.le_trans h.low (Nat.le_trans h.nlow (Nat.le_of_lt h.blk.lt))
theorem NetAt.bsz (h : NetAt w nb m en s V) : V.B ≤ w.heap.size := Nat.le_trans h.nlow (Nat.le_of_lt h.blk.lt)
theorem NetAt.grow (h : NetAt w nb m en s V) (k : KeptF (fun _ => False) w w') : NetAt w' nb m en s V := h.keep k (fun _ _ e => e) (fun _ _ e => e)

/-- a net in memory has turned -/
structure NGo (w w' : World) (nb : Nat) (m : Mdl) (en : Int) (s' : NS) (V V' : NV) : Prop where
  at_ : NetAt w' nb m en s' V'
  kept : KeptF (NF nb V) w w'
  foot : ∀ k, NF nb V' k → NF nb V k ∨ w.heap.size ≤ k
  bB : V'.B = V.B
  bM : V'.Bm = V.Bm
  bL : V'.lo = V.lo
  mf : V'.lv = V.lv ∧ V'.rv = V.rv ∧ V'.RS = V.RS

theorem NGo.refl (h : NetAt w nb m en s V) : NGo w w nb m en s V V := ⟨h, KeptF.refl _ _, fun _ hk => .inl hk, rfl, rfl, rfl, rfl, rfl, rfl⟩
theorem NGo.trans {w'' : World} {s' s'' : NS} {V' V'' : NV} (h : NGo w w' nb m en s' V V') (k : NGo w' w'' nb m en s'' V' V'') : NGo w w'' nb m en s'' V V'' := by
  refine ⟨k.at_, h.kept.trans' k.kept (fun i hi hf => ?_), fun i hi => ?_, k.bB.trans h.bB, k.bM.trans h.bM, k.bL.trans h.bL, k.mf.1.trans h.mf.1, k.mf.2.1.trans h.mf.2.1, k.mf.2.2.trans h.mf.2.2⟩
  · rcases h.foot i hf with h1 | h1
    · exact h1
    · omega
  · rcases k.foot i hi with h1 | h1
    · exact h.foot i h1
    · exact .inr (Nat.le_trans h.kept.size h1)
theorem NGo.grow {w'' : World} {s' : NS} {V' : NV} (h : NGo w w' nb m en s' V V') (k : KeptF (fun _ => False) w' w'') : NGo w w'' nb m en s' V V' :=
  ⟨h.at_.grow k, h.kept.trans (k.weaken (fun _ _ e => e.elim)), h.foot, h.bB, h.bM, h.bL, h.mf⟩
theorem NGo.ahead {w0 : World} {s' : NS} {V' : NV} (k : KeptF (fun _ => False) w w0) (h : NGo w0 w' nb m en s' V V') : NGo w w' nb m en s' V V' :=
  ⟨h.at_, (k.weaken (fun _ _ e => e.elim)).trans h.kept, fun i hi => (h.foot i hi).imp id (fun e => Nat.le_trans k.size e), h.bB, h.bM, h.bL, h.mf⟩
theorem NGo.below {s' : NS} {V' : NV} (h0 : NetAt w nb m en s V) (h : NGo w w' nb m en s' V V') : Below V.lo w w' := KeptF.below h.kept (Nat.le_trans h0.lol h0.bsz) (fun _ hi => (h0.lt hi).1)

/-- a process turns -/
theorem NetAt.turn (h : NetAt w nb m en s V) {i : Nat} {p p' : Pr} {a' : NP} (hp : V.ps[i]? = some p) (hg : PGo w w' V.B p p') (hr : PRel en i p' a') : NGo w w' nb m en ⟨s.ps.set i a', s.ls⟩ V { V with ps := V.ps.set i p' } := by
  have hpm := List.mem_of_getElem? hp
  have hAF : ∀ k, PF p k → AllF V.pb V.ps k := fun k hk => .inr ⟨p, hpm, hk⟩
  have hfoot : ∀ k, AllF V.pb (V.ps.set i p') k → AllF V.pb V.ps k ∨ w.heap.size ≤ k := by
    rintro k (hk | ⟨q, hq, hk⟩)
    · exact .inl (.inl hk)
    · obtain ⟨j, hj⟩ := List.getElem?_of_mem hq
      rcases set_get hj with ⟨_, e⟩ | ⟨_, e⟩
      · subst e
        exact (hg.foot k hk).imp (hAF k) id
      · exact .inl (.inr ⟨q, List.mem_of_getElem? e, hk⟩)
  refine ⟨⟨h.blk.keep hg.kept (fun hf => h.pn (hAF _ hf)), h.mo.keep hg.kept (fun k hk hf => h.apart hk (.inr (.inr (.inl (hAF k hf))))), h.mlt, h.low, h.lol, h.procs.turn hp hg.kept hg.at_ hg.qb hg.foot, by simp [h.plen], by simp [h.slen], fun j q b hq hb => ?_, h.garr.keep hg.kept (fun hf => h.pg (hAF _ hf)), h.glen, h.llen,
    fun j v hv => (h.each j v hv).keep hg.kept (fun g hgg hf => (h.vn v (List.mem_of_getElem? hv)).2.2 g hgg (hAF g hf)), h.gne, h.nlow, h.glow, h.ng, fun hf => ?_, fun hf => ?_, fun v hv => ⟨(h.vn v hv).1, (h.vn v hv).2.1, fun g hgg hf => ?_⟩⟩,
    hg.kept.weaken (fun k _ hk => .inr (.inr (.inl (hAF k hk)))), fun k hk => ?_, rfl, rfl, rfl, rfl, rfl, rfl⟩
  · rcases set_get hq with ⟨e1, e2⟩ | ⟨e1, e2⟩
    · rcases set_get hb with ⟨_, e4⟩ | ⟨e3, _⟩
      · subst e1 e2 e4; exact hr
      · exact absurd e1 e3
    · rcases set_get hb with ⟨e3, _⟩ | ⟨_, e4⟩
      · exact absurd e3 e1
      · exact h.rel j q b e2 e4
  · rcases hfoot _ hf with h1 | h1
    · exact h.pn h1
    · have := h.blk.lt; omega
  · rcases hfoot _ hf with h1 | h1
    · exact h.pg h1
    · have := h.garr.lt
      simp only at h1
      omega
  · rcases hfoot _ hf with h1 | h1
    · exact (h.vn v hv).2.2 g hgg h1
    · obtain ⟨j, hj⟩ := List.getElem?_of_mem hv
      have := ((h.each j v hj).lt hgg).2
      omega
  · rcases hk with hk | hk | hk | hk
    · exact .inl (.inl hk)
    · exact .inl (.inr (.inl hk))
    · exact (hfoot k hk).imp (fun e => .inr (.inr (.inl e))) id
    · exact .inl (.inr (.inr (.inr hk)))

/-- a link's row turns -/
theorem NetAt.setLink {w1 : World} (h : NetAt w nb m en s V) {k : Nat} {v v' : Value} {l' : List Pcl} (hv : V.gv[k]? = some v) (k1 : KeptF (fun g => v.ownBlock = some g) w w1) (ho : Own pclE w1 V.B v' l') (hf : ∀ g, v'.ownBlock = some g → v.ownBlock = some g ∨ w.heap.size ≤ g) :
    NGo w (w1.setCell ⟨V.gb, k, none⟩ v') nb m en ⟨s.ps, s.ls.set k l'⟩ V { V with gv := V.gv.set k v' } := by
  have hvm := List.mem_of_getElem? hv
  have hvn := h.vn v hvm
  have hkl := get_lt hv
  have k2 : KeptF (fun g => g = V.gb) w1 (w1.setCell ⟨V.gb, k, none⟩ v') := (KeptF.refl (fun g => g = V.gb) w1).setCell (p := ⟨V.gb, k, none⟩) (.inl rfl) _
  have hvl : ∀ g, v.ownBlock = some g → V.B ≤ g ∧ g < w.heap.size := fun g hg => (h.each k v hv).lt hg
  have hv'n : ∀ g, v'.ownBlock = some g → g ≠ nb ∧ g ≠ V.gb ∧ ¬ AllF V.pb V.ps g := fun g hg => by
    rcases hf g hg with h1 | h1
    · exact ⟨fun e => hvn.1 (by rw [h1, e]), fun e => hvn.2.1 (by rw [h1, e]), hvn.2.2 g h1⟩
    · refine ⟨fun e => ?_, fun e => ?_, fun e => ?_⟩
      · have := h.blk.lt; omega
      · have := h.garr.lt; omega
      · have := (h.procs.lt e).2; omega
  have hother : ∀ j x, j ≠ k → V.gv[j]? = some x → ∀ g, x.ownBlock = some g → v.ownBlock ≠ some g ∧ v'.ownBlock ≠ some g := fun j x hj hx g hg => by
    have h1 := h.gne j k x v g hx hv hj hg
    refine ⟨h1, fun e => ?_⟩
    rcases hf g e with h2 | h2
    · exact h1 h2
    · have := ((h.each j x hx).lt hg).2; omega
  have kk : KeptF (NF nb V) w (w1.setCell ⟨V.gb, k, none⟩ v') := (k1.weaken (fun g _ e => .inr (.inr (.inr ⟨v, hvm, e⟩)))).trans (k2.weaken (fun g _ e => .inr (.inl e)))
  refine ⟨⟨(h.blk.keep k1 hvn.1).keep k2 h.ng, h.mo.keep kk (fun g hg hf => h.apart hg hf), h.mlt, h.low, h.lol, (h.procs.keep k1 (fun g hg e => hvn.2.2 g e hg)).keep k2 (fun g hg e => h.pg (e ▸ hg)), h.plen, h.slen, h.rel, ?_, by simp [h.glen], by simp [h.llen], fun j x hx => ?_, fun i j x y g hx hy hij hg => ?_, h.nlow, h.glow, h.ng, h.pn, h.pg, fun x hx => ?_⟩, kk, fun g hg => ?_, rfl, rfl, rfl, rfl, rfl, rfl⟩
  · have h1 := (h.garr.keep k1 hvn.2.1).set k v'
    rw [List.setIfInBounds_toArray] at h1
    exact h1
  · simp only at hx ⊢
    rcases set_get hx with ⟨e1, e2⟩ | ⟨e1, e2⟩
    · subst e1 e2
      rw [getD_set_self (by rw [h.llen, ← h.glen]; exact hkl)]
      exact ho.keep k2 (fun g hg e => (hv'n g hg).2.1 e)
    · rw [getD_set_ne e1]
      exact ((h.each j x e2).keep k1 (fun g hg => (hother j x e1 e2 g hg).1)).keep k2 (fun g hg e => (h.vn x (List.mem_of_getElem? e2)).2.1 (by rw [hg, e]))
  · rcases set_get hx with ⟨e1, e2⟩ | ⟨e1, e2⟩
    · rcases set_get hy with ⟨e3, _⟩ | ⟨e3, e4⟩
      · omega
      · subst e2
        intro e5
        exact (hother j y e3 e4 g e5).2 hg
    · rcases set_get hy with ⟨e3, e4⟩ | ⟨e3, e4⟩
      · subst e4
        exact (hother i x e1 e2 g hg).2
      · exact h.gne i j x y g e2 e4 hij hg
  · obtain ⟨j, hj⟩ := List.getElem?_of_mem hx
    rcases set_get hj with ⟨_, e2⟩ | ⟨_, e2⟩
    · subst e2
      exact ⟨fun e => (hv'n _ e).1 rfl, fun e => (hv'n _ e).2.1 rfl, fun g hg => (hv'n g hg).2.2⟩
    · exact h.vn x (List.mem_of_getElem? e2)
  · rcases hg with hg | hg | hg | ⟨x, hx, hg⟩
    · exact .inl (.inl hg)
    · exact .inl (.inr (.inl hg))
    · exact .inl (.inr (.inr (.inl hg)))
    · obtain ⟨j, hj⟩ := List.getElem?_of_mem hx
      rcases set_get hj with ⟨_, e2⟩ | ⟨_, e2⟩
      · subst e2
        exact (hf g hg).imp (fun e => .inr (.inr (.inr ⟨v, hvm, e⟩))) id
      · exact .inl (.inr (.inr (.inr ⟨x, List.mem_of_getElem? e2, hg⟩)))

end

end Go.Proofs.Ytkobkilfbbalaaa

namespace Go.Proofs.Ytkobkilfbbalaaa
open Go.RowKit Go.Sort Go.Maps

theorem drain_zero (m : Mdl) (ls : List (List Pcl)) (p : Nat) : drain m ls p 0 = ls := by
  unfold drain
  apply List.ext_getElem?
  intro i
  rw [List.getElem?_mapIdx]
  cases ls[i]? <;> simp
theorem drain_succ {m : Mdl} {ls : List (List Pcl)} {p n : Nat} (h : n < ls.length) : drain m ls p (n + 1) = if leads m p n = true then (drain m ls p n).set n [] else drain m ls p n := by
  obtain ⟨l, hl⟩ := get_of_lt h
  have hdn : (drain m ls p n)[n]? = some l := by
    unfold drain
    rw [List.getElem?_mapIdx, hl]; simp
  apply List.ext_getElem?
  intro i
  by_cases hlead : leads m p n = true
  · rw [if_pos hlead]
    by_cases e : i = n
    · subst e
      rw [List.getElem?_set_self (get_lt hdn)]
      unfold drain
      rw [List.getElem?_mapIdx, hl]; simp [hlead]
    · rw [List.getElem?_set_ne (by omega)]
      unfold drain
      rw [List.getElem?_mapIdx, List.getElem?_mapIdx]
      cases ls[i]? with
      | none => rfl
      | some x =>
        simp only [Option.map_some, Option.some.injEq]
        have : decide (i < n + 1) = decide (i < n) := by by_cases h1 : i < n <;> simp [h1] <;> omega
        rw [this]
  · rw [if_neg hlead]
    unfold drain
    rw [List.getElem?_mapIdx, List.getElem?_mapIdx]
    cases ls[i]? with
    | none => rfl
    | some x =>
      simp only [Option.map_some, Option.some.injEq]
      by_cases e : i = n
      · subst e; simp [hlead]
      · have : decide (i < n + 1) = decide (i < n) := by by_cases h1 : i < n <;> simp [h1] <;> omega
        rw [this]
theorem inbox_succ (m : Mdl) (ls : List (List Pcl)) (p n : Nat) : inbox m ls p (n + 1) = inbox m ls p n ++ boxI m ls p n := by
  unfold inbox
  rw [List.range_succ, List.flatMap_append]; simp
theorem drain_at (m : Mdl) (ls : List (List Pcl)) (p n : Nat) : (drain m ls p n).getD n [] = ls.getD n [] := by
  rw [drain_get]; simp

theorem msgs_take (l : List Pcl) (n : Nat) : (msgs (l.take n)).length ≤ (msgs l).length := by
  have h := msgs_append (l.take n) (l.drop n)
  rw [List.take_append_drop] at h
  rw [h, List.length_append]; omega

/-- what may lie on a link -/
def PclOk (x : Pcl) : Prop := (x.kd = 0 ∨ x.kd = 1 ∨ x.kd = 2) ∧ (0 ≤ x.k ∧ x.k < 12) ∧ (x.kd ≠ 2 → 0 ≤ x.it.t ∧ x.it.t ≤ 1000)

/-- a net, its links up to j drained into process i -/
def dlvS (m : Mdl) (s : NS) (i : Nat) (a : NP) (j : Nat) : NS := ⟨s.ps.set i (taken m s.ls i j a), drain m s.ls i j⟩

set_option maxRecDepth 100000 in
set_option maxHeartbeats 16000000 in
theorem deliver_any (w : World) (nb : Nat) (m : Mdl) (en : Int) (s : NS) (V : NV) (i : Nat) (p : Pr) (a : NP) (h : NetAt w nb m en s V) (hm : Right m) (hp : V.ps[i]? = some p) (ha : s.ps[i]? = some a) (hok : ∀ k, ∀ x ∈ s.ls.getD k [], PclOk x) (hpu : p.pushed + (msgs (inbox m s.ls i m.links.length)).length ≤ 5000) (hll : ∀ k, (s.ls.getD k []).length ≤ 50000) :
    Calls Try.prog 67 #[.pointer (some ⟨nb, 0, none⟩), .pointer (some ⟨p.qb, 0, none⟩)] w fun e w' => e = .returned (.bool (!(inbox m s.ls i m.links.length).isEmpty)) ∧ ∃ V' : NV, NGo w w' nb m en (dlvS m s i a m.links.length) V V' ∧ ∃ p' : Pr, V'.ps[i]? = some p' ∧ p'.qb = p.qb := by
  have hnl := hm.lim.nl
  obtain ⟨ao, cap, hlv, hcap⟩ := RowsAt.form h.mod.links
  have hlv : V.lv = .slice ao m.links.length cap := hlv
  have hcap : m.links.length ≤ cap := hcap
  have n3 : w.cell? ⟨nb, 3, none⟩ = some (.slice ao m.links.length cap) := by rw [← hlv]; exact h.blk.cell 3
  have hln := h.blk.lt
  have hs0 : dlvS m s i a 0 = s := by
    unfold dlvS
    rw [drain_zero]
    have : taken m s.ls i 0 a = a := by unfold taken inbox; rfl
    rw [this, set_same ha]
  have hgo0 : NGo w w nb m en (dlvS m s i a 0) V V := by rw [hs0]; exact NGo.refl h
  have hib : inbox m s.ls i 0 = [] := rfl
  have Hal : Hid (s.ps[i]? = some a) := ha
  clear ha hs0
  go_enter Try.func67, Try.ntmps67
  go_wp2
  go_loopw [5, 16] (fun s5 s16 wr => ∃ (j : Nat) (V' : NV) (p' : Pr), s5 = .bool (!(inbox m s.ls i j).isEmpty) ∧ s16 = .int .i64 j ∧ j ≤ m.links.length ∧ NGo w wr nb m en (dlvS m s i a j) V V' ∧ V'.ps[i]? = some p' ∧ p'.qb = p.qb ∧ p'.pushed ≤ p.pushed + (msgs (inbox m s.ls i j)).length ∧ V'.lv = V.lv) (fun _ s16 _ => m.links.length - (intOf s16).toNat)
  case atStart => exact ⟨0, V, p, by rw [hib]; rfl, rfl, Nat.zero_le _, hgo0, hp, rfl, Nat.le_add_right _ _, rfl⟩
  case round =>
    clear hgo0 hib n3
    obtain ⟨j, V', p', rfl, rfl, hj, hgo, hp', hqb, hpu', hlv'⟩ := hrel
    have hN := hgo.at_
    by_cases hlt : j < m.links.length
    · obtain ⟨z, hz⟩ := get_of_lt hlt
      have hml := hN.mod.links
      rw [hlv', hlv] at hml
      obtain ⟨lb, lo, hao, hlbB, hlc⟩ := RowsAt.at_ hml (show (keptM m).links[j]? = some z from hz)
      subst hao
      have x0 := hlc 0 (.int .i64 z.f) rfl
      have x1 := hlc 1 (.int .i64 z.t) rfl
      have x2 := hlc 2 (.int .i64 z.a) rfl
      simp only [Nat.add_zero] at x0
      have hzb := hm.link hz
      have hllb : lb < wr.heap.size := block_lt_of_cell x0
      have hil : i < s.ps.length := get_lt Hal.out
      have hrlp := hN.rel i p' _ hp' (show (dlvS m s i a j).ps[i]? = some (taken m s.ls i j a) from List.getElem?_set_self hil)
      have hPp := hN.procs.each p' (List.mem_of_getElem? hp')
      have c8 : wr.cell? ⟨p.qb, 8, none⟩ = some (.int .i64 (i : Int)) := by rw [← hqb, ← hrlp.num]; exact hPp.cells.1
      have hlq : p.qb < wr.heap.size := block_lt_of_cell c8
      obtain ⟨Wl, hWl⟩ : ∃ Wl, Wl = wr.alloc (.cells #[.int .i64 z.f, .int .i64 z.t, .int .i64 z.a] 78) := ⟨_, rfl⟩
      have HWl : Hid (Wl = wr.alloc (.cells #[.int .i64 z.f, .int .i64 z.t, .int .i64 z.a] 78)) := hWl
      have hKl : KeptF (fun _ => False) wr Wl := by rw [hWl]; exact (KeptF.refl _ wr).alloc _
      have hlk : Blk Wl wr.heap.size #[.int .i64 z.f, .int .i64 z.t, .int .i64 z.a] 78 := by rw [hWl]; exact heap_alloc_new wr _
      have k1 : Wl.cell? ⟨wr.heap.size, 1, none⟩ = some (.int .i64 z.t) := hlk.cell 1
      have d8 : Wl.cell? ⟨p.qb, 8, none⟩ = some (.int .i64 (i : Int)) := (hKl.cell (p := ⟨p.qb, 8, none⟩) hlq (fun e => e)).trans c8
      have hll1 := hlk.lt
      have hlq1 : p.qb < Wl.heap.size := block_lt_of_cell d8
      have Hz : Hid (m.links[j]? = some z) := hz
      clear hWl hz hlc
      go_upto_region 5 with fail
      rw [← HWl.out]
      clear x0 x1 x2 c8
      refine still_tail' 6 (by kernel_rfl) (by kernel_rfl) ?_
      simp only [List.take_succ_cons, List.take_zero, List.drop_succ_cons, List.drop_zero]
      repeat still_step
      refine wpStill_nil ?_
      obtain ⟨Wd, hWd⟩ : ∃ Wd, Wd = Wl.drew := ⟨_, rfl⟩
      rw [← hWd]
      have hKd : KeptF (fun _ => False) wr Wd := by rw [hWd]; exact hKl.drew
      have hgod := hgo.grow hKd
      clear hWd k1 d8 hlk hKl HWl hll1 hlq1
      by_cases hzi : z.t = (i : Int)
      · have hlead : leads m i j = true := leads_iff.2 ⟨z, Hz.out, hzi⟩
        rw [hzi]
        clear hzi
        have hNd := hgod.at_
        have hjl : j < s.ls.length := by have := hN.llen; rw [show (dlvS m s i a j).ls = drain m s.ls i j from rfl, drain_length] at this; omega
        obtain ⟨vj, hvj⟩ := get_of_lt (d := V'.gv) (k := j) (by rw [hNd.glen]; exact hlt)
        have hOj := hNd.each j vj hvj
        rw [show (dlvS m s i a j).ls = drain m s.ls i j from rfl, drain_at] at hOj
        obtain ⟨row, hrow⟩ : ∃ row, row = s.ls.getD j [] := ⟨_, rfl⟩
        rw [← hrow] at hOj
        have hrowl : row.length ≤ 50000 := by rw [hrow]; exact hll j
        have hrowok : ∀ x ∈ row, PclOk x := by rw [hrow]; exact hok j
        obtain ⟨aj, cj, hvjf, hcj⟩ := hOj.form'
        subst hvjf
        have e7 : Wd.cell? ⟨nb, 7, none⟩ = some (.slice (some ⟨V'.gb, 0, none⟩) m.links.length m.links.length) := hNd.blk.cell 7
        have eg : Wd.cell? ⟨V'.gb, j, none⟩ = some (.slice aj row.length cj) := by rw [hNd.garr.cell, List.getElem?_toArray, hvj]
        have hlnd := hNd.blk.lt
        have hlgd := hNd.garr.lt
        have hibs : inbox m s.ls i (j + 1) = inbox m s.ls i j ++ row := by rw [inbox_succ, boxI_leads hlead, ← hrow]
        have hsub : (msgs (inbox m s.ls i (j + 1))).length ≤ (msgs (inbox m s.ls i m.links.length)).length := by
          have : ∀ n, (msgs (inbox m s.ls i (j + 1))).length ≤ (msgs (inbox m s.ls i (j + 1 + n))).length := fun n => by
            induction n with
            | zero => exact Nat.le_refl _
            | succ n ih =>
              have h1 := inbox_succ m s.ls i (j + 1 + n)
              rw [show j + 1 + (n + 1) = (j + 1 + n) + 1 by omega, h1, msgs_append, List.length_append]
              omega
          have h1 := this (m.links.length - (j + 1))
          rw [show j + 1 + (m.links.length - (j + 1)) = m.links.length by omega] at h1
          exact h1
        have hpuj : p'.pushed + (msgs row).length ≤ 5000 := by
          rw [hibs, msgs_append, List.length_append] at hsub
          omega
        have Hibs : Hid (inbox m s.ls i (j + 1) = inbox m s.ls i j ++ row) := hibs
        have hPd := hNd.procs.each p' (List.mem_of_getElem? hp')
        have Hvj : Hid (V'.gv[j]? = some (.slice aj row.length cj)) := hvj
        have Hp' : Hid (V'.ps[i]? = some p') := hp'
        have hBd := hNd.bsz
        have Htk : Hid (taken m s.ls i (j + 1) a = row.foldl takeIn (taken m s.ls i j a)) := by
          show _ = _
          unfold taken
          rw [hibs, List.foldl_append]
        obtain ⟨b0, hb0⟩ : ∃ b0, b0 = taken m s.ls i j a := ⟨_, rfl⟩
        have Hb0 : Hid (b0 = taken m s.ls i j a) := hb0
        rw [← hb0] at hrlp Htk
        have hvn : ∀ g, (Value.slice aj row.length cj).ownBlock = some g → ¬ PF p' g := fun g hg hf => (hNd.vn _ (List.mem_of_getElem? hvj)).2.2 g hg (.inr ⟨p', List.mem_of_getElem? hp', hf⟩)
        clear hb0 hibs hsub hvj hrow hp'
        go_wp2
        clear e7 eg
        go_loopw [5, 36] (fun s5 s36 wq => ∃ (q : Nat) (pq : Pr), s5 = .bool (!(inbox m s.ls i j).isEmpty || decide (0 < q)) ∧ s36 = .int .i64 q ∧ q ≤ row.length ∧ PGo Wd wq V'.B p' pq ∧ PRel en i pq ((row.take q).foldl takeIn b0) ∧ pq.pushed ≤ p'.pushed + (msgs (row.take q)).length) (fun _ s36 _ => row.length - (intOf s36).toNat)
        case atStart => exact ⟨0, p', by simp, rfl, Nat.zero_le _, PGo.refl hPd, hrlp, Nat.le_add_right _ _⟩
        case round =>
          clear hrlp
          obtain ⟨q, pq, rfl, rfl, hq, hpg, hrl, hpuq⟩ := hrel
          have hOw := hOj.keep hpg.kept hvn
          have hsz := hpg.kept.size
          by_cases hlt2 : q < row.length
          · obtain ⟨x, hx⟩ := get_of_lt hlt2
            have hxo := hrowok x (List.mem_of_getElem? hx)
            obtain ⟨g, cap', hg, _⟩ := Own.at_ hOw hx
            simp only [Value.slice.injEq] at hg
            obtain ⟨rfl, -, -⟩ := hg
            have a0 : wr.cell? ⟨g, q * 6, none⟩ = some (.int .i64 x.it.t) := hOw.cell hx (k := 0) (u := .int .i64 x.it.t) rfl
            have a1 : wr.cell? ⟨g, q * 6 + 1, none⟩ = some (.int .i64 x.it.f) := hOw.cell hx (k := 1) (u := .int .i64 x.it.f) rfl
            have a2 : wr.cell? ⟨g, q * 6 + 2, none⟩ = some (.int .i64 x.it.s) := hOw.cell hx (k := 2) (u := .int .i64 x.it.s) rfl
            have a3 : wr.cell? ⟨g, q * 6 + 3, none⟩ = some (.int .i64 x.it.l) := hOw.cell hx (k := 3) (u := .int .i64 x.it.l) rfl
            have a4 : wr.cell? ⟨g, q * 6 + 4, none⟩ = some (.int .i64 x.kd) := hOw.cell hx (k := 4) (u := .int .i64 x.kd) rfl
            have a5 : wr.cell? ⟨g, q * 6 + 5, none⟩ = some (.int .i64 x.k) := hOw.cell hx (k := 5) (u := .int .i64 x.k) rfl
            have hlg : g < wr.heap.size := block_lt_of_cell a0
            have Htq : Hid (row.take (q + 1) = row.take q ++ [x]) := by show _ = _; rw [List.take_add_one, hx]; rfl
            clear hx
            have hKx : KeptF (fun _ => False) wr (wr.alloc (.cells #[.int .i64 x.it.t, .int .i64 x.it.f, .int .i64 x.it.s, .int .i64 x.it.l, .int .i64 x.kd, .int .i64 x.k] 141)) := (KeptF.refl _ wr).alloc _
            have hpgx := hpg.grow hKx
            have htake := takeIn_any _ V'.B pq x hpgx.at_ (Nat.le_trans hBd (Nat.le_trans hsz hKx.size)) hxo.1 hxo.2.1 hxo.2.2 (by have := msgs_take row q; omega)
            rw [hpgx.qb, hqb] at htake
            go_wp2_with fail
            refine htake.mono ?_
            rintro e3 w3 ⟨rfl, p3, hg3, hr3⟩
            clear htake a0 a1 a2 a3 a4 a5
            have hp3 : p3.pushed ≤ p'.pushed + (msgs (row.take (q + 1))).length := by
              rw [Htq.out, msgs_append, List.length_append]
              have h1 := hr3 en i _ hrl
              have h2 := h1.pu
              have h3 := hrl.pu
              have hk := (takeIn_keep ((row.take q).foldl takeIn b0) x).2.2.2
              have hq1 := takeIn_q ((row.take q).foldl takeIn b0) x
              rw [hk, hq1, List.length_append] at h2
              omega
            go_wp2
            go_roundw
            case rel =>
              refine ⟨q + 1, p3, by simp, by go_num, hlt2, hpgx.trans hg3, ?_, hp3⟩
              rw [Htq.out, List.foldl_append]
              exact hr3 en i _ hrl
            case measure => simp [intOf]; omega
          · have hqe : q = row.length := by omega
            subst hqe
            rw [List.take_of_length_le (Nat.le_refl _)] at hrl
            have hng1 := hgod.at_.turn Hp'.out hpg hrl
            have hN1 := hng1.at_
            have e7 : wr.cell? ⟨nb, 7, none⟩ = some (.slice (some ⟨V'.gb, 0, none⟩) m.links.length m.links.length) := hN1.blk.cell 7
            have eg : wr.cell? ⟨V'.gb, j, none⟩ = some (.slice aj row.length cj) := by rw [hN1.garr.cell, List.getElem?_toArray, Hvj.out]
            have ef : wr.frozen? ⟨V'.gb, j, none⟩ = false := hN1.garr.frozen j
            have hl1 := hN1.blk.lt
            have hl2 : V'.gb < wr.heap.size := hN1.garr.lt
            have hng2 := hN1.setLink (k := j) (v := .slice aj row.length cj) (v' := .slice none 0 0) (l' := []) Hvj.out (KeptF.refl _ _) (Own.nil _ _ _) (fun g hg => by cases hg)
            have hngf := (hgod.trans hng1).trans hng2
            have hsf : (⟨(⟨(dlvS m s i a j).ps.set i (row.foldl takeIn b0), (dlvS m s i a j).ls⟩ : NS).ps, (⟨(dlvS m s i a j).ps.set i (row.foldl takeIn b0), (dlvS m s i a j).ls⟩ : NS).ls.set j []⟩ : NS) = dlvS m s i a (j + 1) := by
              unfold dlvS
              simp only [List.set_set]
              rw [drain_succ hjl, if_pos hlead, Htk.out]
            rw [hsf] at hngf
            have Hngf : Hid (NGo w (wr.setCell ⟨V'.gb, j, none⟩ (.slice none 0 0)) nb m en (dlvS m s i a (j + 1)) V { V' with ps := V'.ps.set i pq, gv := V'.gv.set j (.slice none 0 0) }) := hngf
            have hpi : ({ V' with ps := V'.ps.set i pq, gv := V'.gv.set j (.slice none 0 0) } : NV).ps[i]? = some pq := List.getElem?_set_self (get_lt Hp'.out)
            have Hpi : Hid (({ V' with ps := V'.ps.set i pq, gv := V'.gv.set j (.slice none 0 0) } : NV).ps[i]? = some pq) := hpi
            have hbo : (!(inbox m s.ls i j).isEmpty || decide (0 < row.length)) = !(inbox m s.ls i (j + 1)).isEmpty := by
              rw [Hibs.out]
              cases inbox m s.ls i j <;> cases row <;> simp
            have Hbo : Hid ((!(inbox m s.ls i j).isEmpty || decide (0 < row.length)) = !(inbox m s.ls i (j + 1)).isEmpty) := hbo
            clear hpi hngf hsf hng2 hng1 hN1 hbo
            go_wp2
            go_roundw
            case rel =>
              refine ⟨j + 1, _, pq, by rw [Hbo.out], by go_num, hlt, Hngf.out, Hpi.out, hpg.qb.trans hqb, ?_, hlv'⟩
              rw [List.take_of_length_le (Nat.le_refl _)] at hpuq
              rw [Hibs.out, msgs_append, List.length_append]
              omega
            case measure => simp [intOf]; omega
      · have hlead : ¬ leads m i j = true := fun e => by
          obtain ⟨z', hz', h1⟩ := leads_iff.1 e
          rw [Hz.out] at hz'; cases hz'; exact hzi h1
        have hbx : boxI m s.ls i j = [] := boxI_not hlead
        have hjl : j < s.ls.length := by have := hN.llen; rw [show (dlvS m s i a j).ls = drain m s.ls i j from rfl, drain_length] at this; omega
        have hss : dlvS m s i a (j + 1) = dlvS m s i a j := by
          unfold dlvS
          rw [drain_succ hjl, if_neg hlead]
          unfold taken
          rw [inbox_succ, hbx, List.append_nil]
        have Hss : Hid (dlvS m s i a (j + 1) = dlvS m s i a j) := hss
        have Hib : Hid (inbox m s.ls i (j + 1) = inbox m s.ls i j) := by show _ = _; rw [inbox_succ, hbx, List.append_nil]
        clear hss hbx
        go_wp2
        go_roundw
        case rel =>
          refine ⟨j + 1, V', p', by rw [Hib.out], by go_num, hlt, by rw [Hss.out]; exact hgod, hp', hqb, by rw [Hib.out]; exact hpu', hlv'⟩
        case measure => simp [intOf]; omega
    · have hje : j = m.links.length := by omega
      subst hje
      go_wp2
      go_ret
      exact ⟨rfl, V', hgo, p', hp', hqb⟩

end Go.Proofs.Ytkobkilfbbalaaa

