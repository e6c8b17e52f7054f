/-
  The program: doEvents.
  The reference: Check.
  The program: Check answers as the document asks.
  The program: Run.
  The program: Run, its answer in one form.
-/
import Derived.Test.YtaieackeflmhgaaJ14
import Derived.Test.YtaieackeflmhgaaJ10
import Derived.Test.YtaieackeflmhgaaJ13
import Derived.Test.YtaieackeflmhgaaJ08
namespace Go.Proofs.Ytaieackeflmhgaa
open Go.RowKit Go.Sort Go.Maps

/-- which event is next, told by the processes -/
theorem next_of {m : Mdl} {c : Cs} {ps : List Pr} (hI : Inv m c) (hS : Sim (np m) c.wait c.states c.seqs c.done ps) {p : Pr} (hU : Upto ps (np m) p) :
    (∀ t, p.top = some t → (∀ e ∈ c.wait, ¬ e.it.lt t)) ∧ (p.top = none → c.wait = []) := by
  have key : ∀ e ∈ c.wait, ∃ t, p.top = some t ∧ ¬ e.it.lt t := by
    intro e he
    obtain ⟨h0, h1, _⟩ := hI.ev e he
    obtain ⟨q, hq⟩ := get_of_lt (d := ps) (k := e.p.toNat) (by rw [hS.len]; unfold np; omega)
    exact hU e.p.toNat q (by unfold np; omega) hq e.it ((hS.items _ q hq).mem_iff.2 (mem_atP.2 ⟨e, he, by omega, rfl⟩))
  refine ⟨fun t ht e he => ?_, fun h0 => ?_⟩
  · obtain ⟨u, hu, hl⟩ := key e he
    rw [ht] at hu; cases hu; exact hl
  · cases hw : c.wait with
    | nil => rfl
    | cons e l =>
      obtain ⟨t, ht, _⟩ := key e (by rw [hw]; simp)
      rw [h0] at ht; cases ht

theorem find_event {m : Mdl} {en : Int} {c : Cs} {ps : List Pr} (hI : Inv m c) (hS : Sim (np m) c.wait c.states c.seqs c.done ps) {i : Nat} {p : Pr} (hp : ps[i]? = some p) (hU : Upto ps (np m) p) {t : It} (ht : p.top = some t) (hti : t ∈ p.its) (hen : t.t < en) :
    ∃ (j : Nat) (e : Ev), c.wait[j]? = some e ∧ e.p = (i : Int) ∧ e.it = t ∧ nx en c.wait = some j := by
  obtain ⟨e, he, hep, hei⟩ := mem_atP.1 ((hS.items i p hp).mem_iff.1 hti)
  obtain ⟨j, hj⟩ := List.getElem?_of_mem he
  refine ⟨j, e, hj, hep, hei, nx_some hI.keys ⟨e, hj, by rw [hei]; exact hen, fun y hy _ => ?_⟩⟩
  rw [hei]
  exact (next_of hI hS hU).1 t ht y hy

set_option maxRecDepth 100000 in
set_option maxHeartbeats 8000000 in
theorem events_any (w : World) (Bm : Nat) (lv rv sv : Value) (m : Mdl) (R : List RuleV) (en : Int) (hM : ModelAt w Bm lv rv sv m R) (hBm : Bm ≤ w.heap.size) (hm : Right m) (hen : en ≤ 200) :
    Calls Try.prog 43 #[.agg #[.int .i64 m.procs, .int .i64 m.states, .int .i64 m.loads, lv, rv, sv], .int .i64 en] w fun e w' => ∃ n pb : Nat, e = .returned (.tuple #[.slice (some ⟨pb, 0, none⟩) (np m) (np m), .int .i64 (n : Int)]) ∧ Below w.heap.size w w' ∧ ((n ≤ 300 ∧ Few m en ∧ nx en (atK m en n).wait = none ∧ ∃ ps, Procs w' (w.heap.size + 2) pb (np m) ps ∧ Sim (np m) (atK m en n).wait (atK m en n).states (atK m en n).seqs (atK m en n).done ps) ∨ (n = 301 ∧ ¬ Few m en)) := by
  have hp1 := hm.lim.p1
  have hp2 := hm.lim.p2
  have hnp1 : 1 ≤ np m := by unfold np; omega
  have hnp6 : np m ≤ 6 := by unfold np; omega
  obtain ⟨W0, hW0⟩ : ∃ W0, W0 = w.alloc (.cells #[.int .i64 m.procs, .int .i64 m.states, .int .i64 m.loads, lv, rv, sv] 31) := ⟨_, rfl⟩
  have HW0 : Hid (W0 = w.alloc (.cells #[.int .i64 m.procs, .int .i64 m.states, .int .i64 m.loads, lv, rv, sv] 31)) := hW0
  have hB0 : Below w.heap.size w W0 := by rw [hW0]; exact (Below.refl _ _).alloc (Nat.le_refl _) _
  have hmb : Blk W0 w.heap.size #[.int .i64 m.procs, .int .i64 m.states, .int .i64 m.loads, lv, rv, sv] 31 := by rw [hW0]; exact heap_alloc_new w _
  have hz : W0.heap.size = w.heap.size + 1 := by rw [hW0]; simp
  have Hz : Hid (W0.heap.size = w.heap.size + 1) := hz
  have hnew := newProcs_any W0 Bm lv rv sv m R en (hM.keep (hB0.mono hBm)) (Nat.le_trans hBm hB0.size) hm
  have c0 : W0.cell? ⟨w.heap.size, 0, none⟩ = some (.int .i64 m.procs) := hmb.cell 0
  have c1 : W0.cell? ⟨w.heap.size, 1, none⟩ = some (.int .i64 m.states) := hmb.cell 1
  have c2 : W0.cell? ⟨w.heap.size, 2, none⟩ = some (.int .i64 m.loads) := hmb.cell 2
  have c3 : W0.cell? ⟨w.heap.size, 3, none⟩ = some lv := hmb.cell 3
  have c4 : W0.cell? ⟨w.heap.size, 4, none⟩ = some rv := hmb.cell 4
  have c5 : W0.cell? ⟨w.heap.size, 5, none⟩ = some sv := hmb.cell 5
  clear hW0 hz
  go_enter Try.func43, Try.ntmps43
  go_upto_region 1 with fail
  rw [← HW0.out]
  go_wp2_with fail
  refine hnew.mono ?_
  rintro e1 w1 ⟨pb, ps, rfl, hP, hS, hpu, hb1, -⟩
  rw [Hz.out] at hP
  clear hnew c0 c1 c2 c3 c4 c5
  have hbl1 : Below (w.heap.size + 1) W0 w1 := by rw [Hz.out] at hb1; exact hb1
  have hI0 : Inv m (atK m en 0) := inv_c0 hm
  go_wp2
  go_loopw [7] (fun s7 wr => ∃ (k : Nat) (ps : List Pr), s7 = .int .i64 k ∧ k ≤ 301 ∧ Procs wr (w.heap.size + 2) pb (np m) ps ∧ Sim (np m) (atK m en k).wait (atK m en k).states (atK m en k).seqs (atK m en k).done ps ∧ (atK m en k).all = k ∧ Inv m (atK m en k) ∧ Live m en k ∧ (∀ p ∈ ps, p.pushed ≤ 12 + 4 * k) ∧ Below (w.heap.size + 1) W0 wr) (fun s7 _ => 301 - (intOf s7).toNat)
  case atStart => exact ⟨0, ps, rfl, by omega, hP, hS, rfl, hI0, fun i hi => by omega, fun p hp => by have := hpu p hp; omega, hbl1⟩
  case round =>
    clear hP hS hpu hb1 hbl1 hI0
    obtain ⟨k, ps, rfl, hk, hP, hS, hall, hI, hLive, hpu, hbl⟩ := hrel
    have Hall : Hid ((atK m en k).all = k) := hall
    clear hall
    have hbw : Below w.heap.size w wr := hB0.trans (hbl.mono (by omega))
    by_cases hle : k ≤ 300
    · have hlp := leastProc_any wr (w.heap.size + 2) pb (np m) ps hP hS.len hnp1 hnp6
      go_wp2_with fail
      refine hlp.mono ?_
      rintro e2 w1 ⟨i, p, rfl, hpi, hU, g1⟩
      clear hlp
      have hP1 := hP.grow (kept_of_below' g1)
      have hPp := hP1.each p (List.mem_of_getElem? hpi)
      have hlq := hPp.core.blk.lt
      have hbB : w.heap.size + 2 ≤ wr.heap.size := Nat.le_trans hP.low (Nat.le_of_lt hP.arr.lt)
      cases ht : p.top with
      | none =>
        have hnx0 : nx en (atK m en k).wait = none := nx_none (fun e he => by rw [(next_of hI hS hU).2 ht] at he; simp at he)
        have hFew : Few m en := ⟨k, hle, hnx0⟩
        have Hnx0 : Hid (nx en (atK m en k).wait = none) := hnx0
        clear hnx0
        have hleast := pLeast_none w1 (w.heap.size + 2) p hPp ht
        go_wp2_with fail
        refine hleast.mono ?_
        rintro e3 w2 ⟨rfl, g2⟩
        clear hleast
        go_wp2
        go_ret2
        refine ⟨k, pb, rfl, ?_, .inl ⟨hle, hFew, Hnx0.out, ps, ?_, hS⟩⟩
        rotate_left
        · exact hP1.grow (KeptF.alloc (kept_of_below' g2) _)
        exact (hbw.trans ((g1.trans (g2.mono g1.size)).mono hbw.size)).alloc (Nat.le_trans hbw.size (Nat.le_trans g1.size g2.size)) _
      | some t =>
        have hleast := pLeast_some w1 (w.heap.size + 2) p t hPp ht
        have htl := hPp.top_least ht
        go_wp2_with fail
        refine hleast.mono ?_
        rintro e3 w2 ⟨rfl, g2⟩
        clear hleast
        have g12 : Below wr.heap.size wr w2 := g1.trans (g2.mono g1.size)
        have hbx : Blk (w2.alloc (.cells #[.int .i64 t.t, .int .i64 t.f, .int .i64 t.s, .int .i64 t.l] 120)) w2.heap.size #[.int .i64 t.t, .int .i64 t.f, .int .i64 t.s, .int .i64 t.l] 120 := heap_alloc_new w2 _
        by_cases hte : t.t < en
        · obtain ⟨j, e, hj, hep, hei, hnx⟩ := find_event hI hS hpi hU ht htl.1 hte
          obtain ⟨hev0, hev1, het0, het1, -⟩ := hI.ev e (List.mem_of_getElem? hj)
          have hin : i < np m := by rw [← hS.len]; exact get_lt hpi
          have hei2 : e.p.toNat = i := by omega
          have hst := hS.st i p hpi
          have hsq := hS.sent i p hpi
          have hnum := hS.num i p hpi
          have hsqb := hI.sq _ _ hsq
          have hdn := hS.dn i p hpi
          have hdlb := hI.dl _ _ hdn
          rw [Hall.out] at hdlb
          rw [Hall.out] at hsqb
          have hppu := hpu p (List.mem_of_getElem? hpi)
          have hInt : ∀ a ∈ p.its, InInt a.t := fun a ha => by
            obtain ⟨e', he', _, hea⟩ := mem_atP.1 ((hS.items i p hpi).mem_iff.1 ha)
            have := hI.ev e' he'
            rw [← hea]; unfold InInt; omega
          obtain ⟨hdd, hds, hdq, cause, hdw⟩ := doEv_out (m := m) (c := atK m en k) (j := j) (e := e) (st := p.st) (sent := p.sent) (dl := p.dn) (by rw [hei2]; exact hst) (by rw [hei2]; exact hsq) (by rw [hei2]; exact hdn)
          have hstep : atK m en (k + 1) = doEv m (atK m en k) j e := stepF_some hnx hj
          rw [hei2] at hdd hds hdq
          have hro := ruleOut_ok hm (num := p.num) (st := p.st) (sent := p.sent) (x := t) (by rw [← hei]; exact het0) (by omega)
          have hpe : e.p = p.num := by rw [hep, hnum]
          rw [hpe, hei] at hdd hds hdq hdw
          obtain ⟨ro, hro_eq⟩ : ∃ ro, ro = ruleOut m p.num p.st p.sent t := ⟨_, rfl⟩
          rw [← hro_eq] at hdd hds hdq hdw hro
          have Hdd : Hid ((atK m en (k + 1)).done = (atK m en k).done.set i (p.dn ++ [⟨t, ro.2.1⟩])) := by show _ = _; rw [hstep]; exact hdd
          have Hds : Hid ((atK m en (k + 1)).states = (atK m en k).states.set i ro.2.1) := by show _ = _; rw [hstep]; exact hds
          have Hdq : Hid ((atK m en (k + 1)).seqs = (atK m en k).seqs.set i ro.2.2) := by show _ = _; rw [hstep]; exact hdq
          have Hdw : Hid ((atK m en (k + 1)).wait = (atK m en k).wait.eraseIdx j ++ ro.1.map (toEv m cause)) := by show _ = _; rw [hstep]; exact hdw
          have Hall2 : Hid ((atK m en (k + 1)).all = k + 1) := by show _ = _; rw [hstep, doEv_all, Hall.out]
          have hI2 : Inv m (atK m en (k + 1)) := by rw [hstep]; exact inv_do hm hI hen hj (by rw [hei]; exact hte)
          have hLive2 : Live m en (k + 1) := fun i hi => by
            by_cases e : i = k
            · subst e; rw [hnx]; simp
            · exact hLive i (by omega)
          have Hro : Hid (ro = ruleOut m p.num p.st p.sent t) := hro_eq
          have Hei : Hid (e.it = t) := hei
          have Hei2 : Hid (e.p = (i : Int)) := hep
          have Hj : Hid ((atK m en k).wait[j]? = some e) := hj
          have Hpi : Hid (ps[i]? = some p) := hpi
          clear hdd hds hdq hdw hstep hro_eq hei hnx hpe hst hsq hj hpi hnum hdn
          -- the world in which the item lies
          have hPA := hP.grow (KeptF.alloc (kept_of_below' g12) (.cells #[.int .i64 t.t, .int .i64 t.f, .int .i64 t.s, .int .i64 t.l] 120))
          have hblA : Below (w.heap.size + 1) W0 (w2.alloc (.cells #[.int .i64 t.t, .int .i64 t.f, .int .i64 t.s, .int .i64 t.l] 120)) := hbl.trans ((g12.mono (by omega)).alloc (Nat.le_trans (by omega) g12.size) _)
          have hzA : w2.heap.size < (w2.alloc (.cells #[.int .i64 t.t, .int .i64 t.f, .int .i64 t.s, .int .i64 t.l] 120)).heap.size := by simp
          have hlA : wr.heap.size ≤ w2.heap.size := g12.size
          have hlq2 : p.qb < w2.heap.size := by have := ((hP.each p (List.mem_of_getElem? Hpi.out)).core.blk.lt); omega
          have hpop := pPop (w2.alloc (.cells #[.int .i64 t.t, .int .i64 t.f, .int .i64 t.s, .int .i64 t.l] 120)) (w.heap.size + 2) p t (hPA.each p (List.mem_of_getElem? Hpi.out)) ht hInt (by omega)
          go_wp2_with fail
          refine hpop.mono ?_
          rintro e4 w3 ⟨rfl, p1, hT, hpp1, hits⟩
          clear hpop
          have hPF : ∀ g, PF p g → g < wr.heap.size := fun g hg => ((hP.each p (List.mem_of_getElem? Hpi.out)).lt hg).2
          have hP3 := hPA.turned Hpi.out hT
          have hS3 := hS.pop Hpi.out Hj.out Hei2.out hT.num hT.st hT.sent hT.dn (by rw [Hei.out]; exact hits)
          have hx3 := hbx.keep hT.kept (fun hf => by have := hPF _ hf; omega)
          have hk3 : Below (w.heap.size + 1) (w2.alloc (.cells #[.int .i64 t.t, .int .i64 t.f, .int .i64 t.s, .int .i64 t.l] 120)) w3 := KeptF.below hT.kept (by omega) (fun i hi => by have := ((hPA.each p (List.mem_of_getElem? Hpi.out)).lt hi).1; omega)
          have hbl3 : Below (w.heap.size + 1) W0 w3 := hblA.trans hk3
          have hbw3 : Below w.heap.size w w3 := hB0.trans (hbl3.mono (by omega))
          have hi3 : (ps.set i p1)[i]? = some p1 := List.getElem?_set_self (get_lt Hpi.out)
          have Hi3 : Hid ((ps.set i p1)[i]? = some p1) := hi3
          have hp1at := hP3.each p1 (List.mem_of_getElem? hi3)
          have hsz3 : w.heap.size + 2 ≤ w3.heap.size := Nat.le_trans hP3.low (Nat.le_of_lt hP3.arr.lt)
          have hdo := pdo_any w3 (w.heap.size + 2) Bm lv rv sv m R p1 t hp1at hm (hM.keep (hbw3.mono hBm)) (by omega) hsz3 (by have := Hei.out; rw [← this]; exact het0) (by have := Hei.out; rw [← this]; exact het1) (by rw [hT.sent]; omega) (by rw [hT.sent]; omega) (by rw [hT.dn]; omega)
          have hroe : ruleOut m p1.num p1.st p1.sent t = ro := by rw [hT.num, hT.st, hT.sent, ← Hro.out]
          rw [hroe, show (Value.pointer (some ⟨p1.qb, 0, none⟩)) = .pointer (some ⟨p.qb, 0, none⟩) by rw [hT.qb]] at hdo
          clear hroe
          have hm3 : Blk w3 w.heap.size #[.int .i64 m.procs, .int .i64 m.states, .int .i64 m.loads, lv, rv, sv] 31 := (hbl3.block _ (Nat.lt_succ_self _)).trans hmb
          have m0 : w3.cell? ⟨w.heap.size, 0, none⟩ = some (.int .i64 m.procs) := hm3.cell 0
          have m1 : w3.cell? ⟨w.heap.size, 1, none⟩ = some (.int .i64 m.states) := hm3.cell 1
          have m2 : w3.cell? ⟨w.heap.size, 2, none⟩ = some (.int .i64 m.loads) := hm3.cell 2
          have m3 : w3.cell? ⟨w.heap.size, 3, none⟩ = some lv := hm3.cell 3
          have m4 : w3.cell? ⟨w.heap.size, 4, none⟩ = some rv := hm3.cell 4
          have m5 : w3.cell? ⟨w.heap.size, 5, none⟩ = some sv := hm3.cell 5
          have t0 : w3.cell? ⟨w2.heap.size, 0, none⟩ = some (.int .i64 t.t) := hx3.cell 0
          have t1 : w3.cell? ⟨w2.heap.size, 1, none⟩ = some (.int .i64 t.f) := hx3.cell 1
          have t2 : w3.cell? ⟨w2.heap.size, 2, none⟩ = some (.int .i64 t.s) := hx3.cell 2
          have t3 : w3.cell? ⟨w2.heap.size, 3, none⟩ = some (.int .i64 t.l) := hx3.cell 3
          go_wp2_with fail
          refine hdo.mono ?_
          rintro e5 w4 ⟨v, rfl, hO, hk4, dv2, hp2, hft, hvp⟩
          clear hdo m0 m1 m2 m3 m4 m5 t0 t1 t2 t3 hi3
          have hP4 := hP3.turn Hi3.out hk4 hp2 rfl hft
          have hS4 := hS3.set (p' := { p1 with st := ro.2.1, sent := ro.2.2, dnv := dv2, dn := p1.dn ++ [⟨t, ro.2.1⟩] }) Hi3.out rfl rfl
          have hbl4 : Below (w.heap.size + 1) W0 w4 := hbl3.trans (KeptF.below hk4 (by omega) (fun i hi => by have := (hp1at.lt hi).1; omega))
          have hpu4 : ∀ q ∈ (ps.set i p1).set i { p1 with st := ro.2.1, sent := ro.2.2, dnv := dv2, dn := p1.dn ++ [⟨t, ro.2.1⟩] }, q.pushed ≤ 12 + 4 * k := fun q hq => by
            obtain ⟨n', hn'⟩ := List.getElem?_of_mem hq
            rcases set_get hn' with ⟨_, e2⟩ | ⟨_, e2⟩
            · rw [e2]; show p1.pushed ≤ _; rw [hpp1]; exact hppu
            · rcases set_get e2 with ⟨_, e3⟩ | ⟨_, e3⟩
              · rw [e3, hpp1]; exact hppu
              · exact hpu q (List.mem_of_getElem? e3)
          have hap4 : ∀ q ∈ (ps.set i p1).set i { p1 with st := ro.2.1, sent := ro.2.2, dnv := dv2, dn := p1.dn ++ [⟨t, ro.2.1⟩] }, ∀ g, PF q g → v.ownBlock ≠ some g := fun q hq g hg e' => by
            have h1 := (hO.lt e').1
            obtain ⟨n', hn'⟩ := List.getElem?_of_mem hq
            rcases set_get hn' with ⟨_, e2⟩ | ⟨_, e2⟩
            · subst e2
              exact hvp g e' hg
            · have := ((hP3.each q (List.mem_of_getElem? e2)).lt hg).2; omega
          generalize (ps.set i p1).set i { p1 with st := ro.2.1, sent := ro.2.2, dnv := dv2, dn := p1.dn ++ [⟨t, ro.2.1⟩] } = ps4 at *
          have Hdn1 : Hid (p1.dn = p.dn) := hT.dn
          rw [Hdn1.out] at hS4
          obtain ⟨aov, capv, hvf, hcapv⟩ := hO.form'
          subst hvf
          have hrl := hro.1
          clear hP3 hS3 hx3 hm3 hP hS hPA hbx hp1at hp2 hk4 hT hits hInt hft hvp
          go_wp2
          go_loopw [44] (fun s44 wr => ∃ (l : Nat) (ps : List Pr), s44 = .int .i64 l ∧ l ≤ ro.1.length ∧ Procs wr (w.heap.size + 2) pb (np m) ps ∧ Sim (np m) ((atK m en k).wait.eraseIdx j ++ (ro.1.map (toEv m cause)).take l) ((atK m en k).states.set i ro.2.1) ((atK m en k).seqs.set i ro.2.2) ((atK m en k).done.set i (p.dn ++ [⟨t, ro.2.1⟩])) ps ∧ (∀ p ∈ ps, p.pushed ≤ 12 + 4 * k + l) ∧ (∀ q ∈ ps, ∀ g, PF q g → (Value.slice aov ro.1.length capv).ownBlock ≠ some g) ∧ Own emE wr w3.heap.size (.slice aov ro.1.length capv) ro.1 ∧ Below (w.heap.size + 1) W0 wr) (fun s44 _ => ro.1.length - (intOf s44).toNat)
          case atStart => exact ⟨0, ps4, rfl, Nat.zero_le _, hP4, by rw [List.take_zero, List.append_nil]; exact hS4, fun p hp => by have := hpu4 p hp; omega, hap4, hO, hbl4⟩
          case round =>
            clear hP4 hS4 hpu4 hap4 hO hbl4
            obtain ⟨l, ps5, rfl, hl, hP, hS, hpu5, hap, hO, hbl5⟩ := hrel
            have hbw5 : Below w.heap.size w wr := hB0.trans (hbl5.mono (by omega))
            have hsz5 : w.heap.size + 2 ≤ wr.heap.size := Nat.le_trans hP.low (Nat.le_of_lt hP.arr.lt)
            by_cases hlt : l < ro.1.length
            · obtain ⟨x, hx⟩ := get_of_lt hlt
              obtain ⟨⟨hxt0, hxt1⟩, hxk0, hxk1, y, hy, hy0, hy1⟩ := hro.2 x (List.mem_of_getElem? hx)
              obtain ⟨g, cap', hg, _⟩ := Own.at_ hO hx
              simp only [Value.slice.injEq] at hg
              obtain ⟨rfl, -, -⟩ := hg
              have a0 := hO.cell hx (k := 0) (u := .int .i64 x.it.t) rfl
              have a1 := hO.cell hx (k := 1) (u := .int .i64 x.it.f) rfl
              have a2 := hO.cell hx (k := 2) (u := .int .i64 x.it.s) rfl
              have a3 := hO.cell hx (k := 3) (u := .int .i64 x.it.l) rfl
              have a4 := hO.cell hx (k := 4) (u := .int .i64 0) rfl
              have a5 := hO.cell hx (k := 5) (u := .int .i64 x.k) rfl
              have a0 : wr.cell? ⟨g, l * 6, none⟩ = some (.int .i64 x.it.t) := a0
              have a1 : wr.cell? ⟨g, l * 6 + 1, none⟩ = some (.int .i64 x.it.f) := a1
              have a2 : wr.cell? ⟨g, l * 6 + 2, none⟩ = some (.int .i64 x.it.s) := a2
              have a3 : wr.cell? ⟨g, l * 6 + 3, none⟩ = some (.int .i64 x.it.l) := a3
              have a4 : wr.cell? ⟨g, l * 6 + 4, none⟩ = some (.int .i64 0) := a4
              have a5 : wr.cell? ⟨g, l * 6 + 5, none⟩ = some (.int .i64 x.k) := a5
              obtain ⟨aol, capl, hlv, hcapl⟩ := RowsAt.form hM.links
              subst hlv
              obtain ⟨lb, lo, hao, hlbB, hlc⟩ := RowsAt.at_ (hM.keep (hbw5.mono hBm)).links hy
              subst hao
              have y1 := hlc 1 (.int .i64 y.t) rfl
              have m3 : wr.cell? ⟨w.heap.size, 3, none⟩ = some (.slice (some ⟨lb, lo, none⟩) m.links.length capl) := (hbl5.cell (p := ⟨w.heap.size, 3, none⟩) (Nat.lt_succ_self _)).trans (hmb.cell 3)
              obtain ⟨q, hq⟩ := get_of_lt (d := ps5) (k := y.t.toNat) (by rw [hS.len]; unfold np; omega)
              have cq := hP.cell hq
              have hlpb := hP.arr.lt
              have hlq := (hP.each q (List.mem_of_getElem? hq)).core.blk.lt
              have hyn : y.t < (np m : Int) := by unfold np; omega
              have hqpu := hpu5 q (List.mem_of_getElem? hq)
              have hPd := (hP.grow ((KeptF.refl (fun _ => False) wr).alloc (.cells #[.int .i64 x.it.t, .int .i64 x.it.f, .int .i64 x.it.s, .int .i64 x.it.l, .int .i64 0, .int .i64 x.k] 159))).grow (KeptF.drew (KeptF.refl (fun _ => False) _))
              have hpush := pPush _ (w.heap.size + 2) q x.it (hPd.each q (List.mem_of_getElem? hq)) (by simp; omega) (by unfold InInt; omega) (by omega)
              have hlg : g < wr.heap.size := block_lt_of_cell a0
              have hllb : lb < wr.heap.size := block_lt_of_cell y1
              have hlw : w.heap.size < wr.heap.size := by omega
              have Hx : Hid (ro.1[l]? = some x) := hx
              have Hy : Hid (m.links[x.k.toNat]? = some y) := hy
              have Hq : Hid (ps5[y.t.toNat]? = some q) := hq
              clear hx hy hq hlc
              go_wp2
              refine still_tail' 14 (by kernel_rfl) (by kernel_rfl) ?_
              simp only [List.take_succ_cons, List.take_zero, List.drop_succ_cons, List.drop_zero]
              repeat still_step
              refine wpStill_nil ?_
              go_wp2_with fail
              refine hpush.mono ?_
              rintro e6 w6 ⟨rfl, q', hT, hpp, hits⟩
              clear hpush a0 a1 a2 a3 a4 a5 y1 m3 cq
              go_wp2
              go_roundw
              case rel =>
                have hkd : KeptF (fun _ => False) wr (wr.alloc (.cells #[.int .i64 x.it.t, .int .i64 x.it.f, .int .i64 x.it.s, .int .i64 x.it.l, .int .i64 0, .int .i64 x.k] 159)).drew := ((KeptF.refl _ wr).alloc _).drew
                have hqP := hPd.each q (List.mem_of_getElem? Hq.out)
                have hW : (ro.1.map (toEv m cause)).take (l + 1) = (ro.1.map (toEv m cause)).take l ++ [toEv m cause x] := by
                  have h2 : (ro.1.map (toEv m cause))[l]? = some (toEv m cause x) := by rw [List.getElem?_map, Hx.out]; rfl
                  rw [List.take_add_one, h2]; rfl
                refine ⟨l + 1, ps5.set y.t.toNat q', by go_num, hlt, hPd.turned Hq.out hT, ?_, ?_, ?_, ?_, ?_⟩
                · rw [hW, ← List.append_assoc]
                  refine hS.push Hq.out ?_ hT.num hT.st hT.sent hT.dn hits
                  show linkTo m x.k = _
                  rw [linkTo_at Hy.out]; omega
                · intro z hz
                  obtain ⟨n', hn'⟩ := List.getElem?_of_mem hz
                  rcases set_get hn' with ⟨_, e2⟩ | ⟨_, e2⟩
                  · rw [e2, hpp]; omega
                  · have := hpu5 z (List.mem_of_getElem? e2); omega
                · intro z hz g' hg' e'
                  obtain ⟨n', hn'⟩ := List.getElem?_of_mem hz
                  rcases set_get hn' with ⟨_, e2⟩ | ⟨_, e2⟩
                  · subst e2
                    rcases hT.foot g' hg' with h1 | h1
                    · exact hap q (List.mem_of_getElem? Hq.out) g' h1 e'
                    · have h2 := (hO.lt e').2
                      simp at h1; omega
                  · exact hap z (List.mem_of_getElem? e2) g' hg' e'
                · exact (hO.keep hkd (fun _ _ e => e)).keep hT.kept (fun g' hg' hf => hap q (List.mem_of_getElem? Hq.out) g' hf hg')
                · have hk1 : Below (w.heap.size + 1) wr (wr.alloc (.cells #[.int .i64 x.it.t, .int .i64 x.it.f, .int .i64 x.it.s, .int .i64 x.it.l, .int .i64 0, .int .i64 x.k] 159)).drew := KeptF.below hkd (by omega) (fun i hi => hi.elim)
                  exact hbl5.trans (hk1.trans (KeptF.below hT.kept (by simp; omega) (fun i hi => by have := (hqP.lt hi).1; omega)))
              case measure => simp [intOf]; omega
            · have hle2 : l = ro.1.length := by omega
              have HS : Hid (Sim (np m) (atK m en (k + 1)).wait (atK m en (k + 1)).states (atK m en (k + 1)).seqs (atK m en (k + 1)).done ps5) := by
                show Sim _ _ _ _ _ _
                rw [Hdw.out, Hds.out, Hdq.out, Hdd.out]
                rw [hle2, List.take_of_length_le (by simp)] at hS
                exact hS
              go_wp2
              go_roundw
              case rel => exact ⟨k + 1, ps5, by go_num, by omega, hP, HS.out, Hall2.out, hI2, hLive2, fun p hp => by have := hpu5 p hp; omega, hbl5⟩
              case measure => simp [intOf]; omega
        · have hnx0 : nx en (atK m en k).wait = none := nx_none (fun e he => by
            have h1 := (next_of hI hS hU).1 t ht e he
            unfold It.lt at h1; omega)
          have hFew : Few m en := ⟨k, hle, hnx0⟩
          have Hnx0 : Hid (nx en (atK m en k).wait = none) := hnx0
          clear hnx0
          go_wp2
          go_ret2
          refine ⟨k, pb, rfl, ?_, .inl ⟨hle, hFew, Hnx0.out, ps, ?_, hS⟩⟩
          rotate_left
          · exact hP.grow (KeptF.alloc (kept_of_below' g12) _)
          exact (hbw.trans (g12.mono hbw.size)).alloc (Nat.le_trans hbw.size g12.size) _
    · have hke : k = 301 := by omega
      subst hke
      go_wp2
      go_ret2
      exact ⟨301, pb, rfl, hbw, .inr ⟨rfl, few_not hLive⟩⟩

end Go.Proofs.Ytaieackeflmhgaa

namespace Go.Proofs.Ytaieackeflmhgaa
open Go.RowKit Go.Sort Go.Maps

def fewB (m : Mdl) (en : Int) : Bool := (List.range 301).any (fun k => (nx en (atK m en k).wait).isNone)
theorem fewB_iff {m : Mdl} {en : Int} : fewB m en = true ↔ Few m en := by
  simp only [fewB, List.any_eq_true, List.mem_range, Option.isNone_iff_eq_none, Few]
  constructor
  · rintro ⟨k, h1, h2⟩; exact ⟨k, by omega, h2⟩
  · rintro ⟨k, h1, h2⟩; exact ⟨k, by omega, h2⟩

/-- what P3 asks: the error and its number -/
def answer (m : Mdl) (en : Int) : Int × Int := if valid m en = (0, 0) then (if fewB m en = true then (0, 0) else (6, 0)) else valid m en

theorem valid_zero {m : Mdl} {en : Int} (h : (valid m en).1 = 0) : valid m en = (0, 0) := by
  unfold valid at h ⊢
  split <;> rename_i h1
  · rw [if_pos h1] at h
    split <;> rename_i h2
    · rw [if_pos h2] at h; cases h
    · rw [if_neg h2] at h
      split <;> rename_i h3
      · rw [if_pos h3] at h; cases h
      · rw [if_neg h3] at h
        split <;> rename_i h4
        · rw [if_pos h4] at h; cases h
        · rw [if_neg h4] at h
          split <;> rename_i h5
          · rfl
          · rw [if_neg h5] at h; cases h
  · rw [if_neg h1] at h; cases h

set_option maxRecDepth 100000 in
set_option maxHeartbeats 4000000 in
theorem refCheck_any (m : Mdl) (lv rv sv : Value) (R : List RuleV) (B : Nat) (en : Int) (w : World) (h : ModelAt w B lv rv sv m R) (hB : B ≤ w.heap.size) (hne : ∀ r ∈ m.rules, r.es.length ≤ 5864062014634) :
    Calls Try.prog 17 #[.agg #[.int .i64 m.procs, .int .i64 m.states, .int .i64 m.loads, lv, rv, sv], .int .i64 en] w fun e w' => ∃ pv : Value, e = .returned (.tuple #[pv, .int .i64 (answer m en).1, .int .i64 (answer m en).2]) ∧ Below w.heap.size w w' ∧
      (answer m en = (0, 0) → ∃ B' cb k wv sb qb db kb D C, pv = .pointer (some ⟨cb, 0, none⟩) ∧ w.heap.size ≤ B' ∧ k ≤ 300 ∧ nx en (atK m en k).wait = none ∧ CAt w' B' cb lv rv sv m wv sb qb db kb D C (atK m en k)) := by
  have hB0 : Below w.heap.size w (w.alloc (.cells #[.int .i64 m.procs, .int .i64 m.states, .int .i64 m.loads, lv, rv, sv] 26)) := (Below.refl _ _).alloc (Nat.le_refl _) _
  have hmb : Blk (w.alloc (.cells #[.int .i64 m.procs, .int .i64 m.states, .int .i64 m.loads, lv, rv, sv] 26)) w.heap.size #[.int .i64 m.procs, .int .i64 m.states, .int .i64 m.loads, lv, rv, sv] 26 := heap_alloc_new w _
  have hval := refValid_any m lv rv sv R B en (w.alloc (.cells #[.int .i64 m.procs, .int .i64 m.states, .int .i64 m.loads, lv, rv, sv] 26)) (h.keep (hB0.mono hB)) (Nat.le_trans hB hB0.size) hne
  go_enter Try.func17, Try.ntmps17
  go_wp2_with fail
  refine hval.mono ?_
  rintro e1 w1 ⟨rfl, hb1⟩
  clear hval
  have hb01 : Below w.heap.size w w1 := hB0.trans (hb1.mono hB0.size)
  have hm1 : Blk w1 w.heap.size #[.int .i64 m.procs, .int .i64 m.states, .int .i64 m.loads, lv, rv, sv] 26 := hmb.keep (kept_of_below' hb1) (fun e => e)
  by_cases hv : (valid m en).1 = 0
  · have hv2 := valid_zero hv
    have Hv : Hid (valid m en = (0, 0)) := hv2
    rw [hv2]
    obtain ⟨hR, hen0, hen⟩ := right_of_valid hv2
    have hseq := sequel_any m lv rv sv R B en w1 (h.keep (hb01.mono hB)) (Nat.le_trans hB hb01.size) hR hen
    have c0 : w1.cell? ⟨w.heap.size, 0, none⟩ = some (.int .i64 m.procs) := hm1.cell 0
    have c1 : w1.cell? ⟨w.heap.size, 1, none⟩ = some (.int .i64 m.states) := hm1.cell 1
    have c2 : w1.cell? ⟨w.heap.size, 2, none⟩ = some (.int .i64 m.loads) := hm1.cell 2
    have c3 : w1.cell? ⟨w.heap.size, 3, none⟩ = some lv := hm1.cell 3
    have c4 : w1.cell? ⟨w.heap.size, 4, none⟩ = some rv := hm1.cell 4
    have c5 : w1.cell? ⟨w.heap.size, 5, none⟩ = some sv := hm1.cell 5
    clear hv hv2
    go_wp2_with fail
    refine hseq.mono ?_
    rintro e2 w2 ⟨cb, b, rfl, hb2, hcase⟩
    clear hseq
    have hb02 : Below w.heap.size w w2 := hb01.trans (hb2.mono hb01.size)
    rcases hcase with ⟨rfl, k, wv, sb, qb, db, kb, D, C, hk, hnx, hC⟩ | ⟨rfl, hfew⟩
    · have Hans : Hid (answer m en = (0, 0)) := by show _ = _; rw [answer, if_pos Hv.out, if_pos (fewB_iff.2 ⟨k, hk, hnx⟩)]
      go_wp2
      go_ret3
      refine ⟨.pointer (some ⟨cb, 0, none⟩), by rw [Hans.out]; rfl, hb02, fun _ => ⟨_, cb, k, wv, sb, qb, db, kb, D, C, rfl, ?_, hk, hnx, hC⟩⟩
      have := hb01.size; omega
    · have Hans : Hid (answer m en = (6, 0)) := by
        show _ = _
        rw [answer, if_pos Hv.out, if_neg]
        intro hf; exact hfew (fewB_iff.1 hf)
      clear hfew
      go_wp2
      go_ret3
      refine ⟨.pointer none, by rw [Hans.out]; rfl, hb02, fun hx => ?_⟩
      rw [Hans.out] at hx
      cases hx
  · have Hans : Hid (answer m en = valid m en) := by
      show _ = _
      rw [answer, if_neg]
      intro hx; exact hv (by rw [hx])
    have Hnz : Hid (valid m en ≠ (0, 0)) := fun hx => hv (by rw [hx])
    go_wp2
    go_ret3
    refine ⟨.pointer none, by rw [Hans.out]; rfl, hb01, fun hx => ?_⟩
    rw [Hans.out] at hx
    exact absurd hx Hnz.out

end Go.Proofs.Ytaieackeflmhgaa

namespace Go.Proofs.Ytaieackeflmhgaa
open Go.RowKit Go.Sort Go.Maps

theorem answer_err {m : Mdl} {en f j : Int} (h : valid m en = (f, j)) (hf : f ≠ 0) : answer m en = (f, j) := by
  rw [answer, if_neg, h]
  intro e
  rw [h] at e
  cases e
  exact hf rfl

set_option maxRecDepth 100000 in
set_option maxHeartbeats 4000000 in
theorem check_any (m : Mdl) (lv rv sv : Value) (R : List RuleV) (B : Nat) (en : Int) (w : World) (h : ModelAt w B lv rv sv m R) (hB : B ≤ w.heap.size) (hne : ∀ r ∈ m.rules, r.es.length ≤ 5864062014634) :
    Calls Try.prog 16 #[.agg #[.int .i64 m.procs, .int .i64 m.states, .int .i64 m.loads, lv, rv, sv], .int .i64 en] w fun e w' => e = .returned (.tuple #[.int .i64 (answer m en).1, .int .i64 (answer m en).2]) ∧ Below w.heap.size w w' := by
  obtain ⟨W0, hW0⟩ : ∃ W0, W0 = w.alloc (.cells #[.int .i64 m.procs, .int .i64 m.states, .int .i64 m.loads, lv, rv, sv] 31) := ⟨_, rfl⟩
  have HW0 : Hid (W0 = w.alloc (.cells #[.int .i64 m.procs, .int .i64 m.states, .int .i64 m.loads, lv, rv, sv] 31)) := hW0
  have hB0 : Below w.heap.size w W0 := by rw [hW0]; exact (Below.refl _ _).alloc (Nat.le_refl _) _
  have hmb : Blk W0 w.heap.size #[.int .i64 m.procs, .int .i64 m.states, .int .i64 m.loads, lv, rv, sv] 31 := by rw [hW0]; exact heap_alloc_new w _
  have k0 := Gr.cells (v := .int .i64 m.procs) (hmb.cell 0)
  have k1 := Gr.cells (v := .int .i64 m.states) (hmb.cell 1)
  have k2 := Gr.cells (v := .int .i64 m.loads) (hmb.cell 2)
  have k3 := Gr.cells (v := lv) (hmb.cell 3)
  have k4 := Gr.cells (v := rv) (hmb.cell 4)
  have k5 := Gr.cells (v := sv) (hmb.cell 5)
  have hBW : B ≤ W0.heap.size := Nat.le_trans hB hB0.size
  have hM0 := h.keep (hB0.mono hB)
  have hg0 := Gr.refl W0
  have hl : ∃ ao cap, lv = .slice ao m.links.length cap := by obtain ⟨a, b, c, _⟩ := RowsAt.form h.links; exact ⟨a, b, c⟩
  have hr : ∃ ao cap, rv = .slice ao m.rules.length cap := by obtain ⟨a, b, c, _⟩ := RowsAt.form h.rules.1; rw [h.rlen] at c; exact ⟨a, b, c⟩
  have hs : ∃ ao cap, sv = .slice ao m.starts.length cap := by obtain ⟨a, b, c, _⟩ := RowsAt.form h.starts; exact ⟨a, b, c⟩
  clear hW0
  have hf := fits_any m lv rv sv hl hr hs W0
  clear hl hr hs
  go_enter Try.func16, Try.ntmps16
  go_upto_region 1 with fail
  rw [← HW0.out]
  clear HW0
  go_wp2_with fail
  refine hf.mono ?_
  rintro e1 w1 ⟨rfl, g1⟩
  clear hf
  have hg1 : Gr W0 w1 := g1
  cases el : limB m with
  | false =>
    have HA : Hid (answer m en = (1, 0)) := answer_err (valid_range el) (by decide)
    clear el
    go_wp2
    go_ret2
    exact ⟨ret_two HA.out.symm, Gr.below hg1 hB0⟩
  | true =>
    have lim := lim_of_limB el
    have HL : Hid (limB m = true) := el
    clear el
    have hlk := fwLink_any m lim lv rv sv R B w1 (hM0.keep (hg1.mono hBW)) (Nat.le_trans hBW hg1.size)
    obtain ⟨a, ha⟩ : ∃ a, firstIx (linkBad m) m.links = a := ⟨_, rfl⟩
    rw [ha] at hlk
    have Ha : Hid (firstIx (linkBad m) m.links = a) := ha
    clear ha
    go_wp2_with fail
    refine hlk.mono ?_
    rintro e2 w2 ⟨rfl, g2⟩
    clear hlk
    have hg2 : Gr W0 w2 := Gr.trans hg1 g2
    by_cases h0 : 0 ≤ a
    · have HA : Hid (answer m en = (2, a)) := answer_err (valid_link HL.out Ha.out h0) (by decide)
      go_wp2
      go_ret2
      exact ⟨ret_two HA.out.symm, Gr.below hg2 hB0⟩
    · have H1 : Hid (firstIx (linkBad m) m.links = -1) := (firstIx_neg (by rw [Ha.out]; exact h0)).1
      have hrl := firstWrongRule_any m lim lv rv sv R B w2 (hM0.keep (hg2.mono hBW)) (Nat.le_trans hBW hg2.size) hne
      go_wp2_with fail
      refine hrl.mono ?_
      rintro e3 w3 ⟨b, rfl, hfb, g3⟩
      clear hrl
      have hg3 : Gr W0 w3 := Gr.trans hg2 g3
      have Hb : Hid (wrongRule m = b) := (wrongRule_of hfb).symm
      have hbn : 0 ≤ b ∨ b = -1 := by
        rcases hfb with ⟨e, _⟩ | ⟨i, e, _⟩ <;> omega
      clear hfb
      by_cases h0 : 0 ≤ b
      · have HA : Hid (answer m en = (3, b)) := answer_err (valid_rule HL.out H1.out Hb.out h0) (by decide)
        go_wp2
        go_ret2
        exact ⟨ret_two HA.out.symm, Gr.below hg3 hB0⟩
      · have H2 : Hid (wrongRule m = -1) := by show _ = _; rw [Hb.out]; omega
        have hst := fwStart_any m lim lv rv sv R B w3 (hM0.keep (hg3.mono hBW)) (Nat.le_trans hBW hg3.size)
        obtain ⟨c, hc⟩ : ∃ c, firstIx (startBad m) m.starts = c := ⟨_, rfl⟩
        rw [hc] at hst
        have Hc : Hid (firstIx (startBad m) m.starts = c) := hc
        clear hc
        go_wp2_with fail
        refine hst.mono ?_
        rintro e4 w4 ⟨rfl, g4⟩
        clear hst
        have hg4 : Gr W0 w4 := Gr.trans hg3 g4
        by_cases h0 : 0 ≤ c
        · have HA : Hid (answer m en = (4, c)) := answer_err (valid_start HL.out H1.out H2.out Hc.out h0) (by decide)
          go_wp2
          go_ret2
          exact ⟨ret_two HA.out.symm, Gr.below hg4 hB0⟩
        · have H3 : Hid (firstIx (startBad m) m.starts = -1) := (firstIx_neg (by rw [Hc.out]; exact h0)).1
          have hwi := within_any en 0 200 w4
          cases e5 : withinB en 0 200 with
          | false =>
            have HA : Hid (answer m en = (5, 0)) := answer_err (valid_end HL.out H1.out H2.out H3.out e5) (by decide)
            rw [e5] at hwi
            clear e5
            go_wp2_with fail
            refine hwi.mono ?_
            rintro e6 w5 ⟨rfl, rfl⟩
            go_wp2
            go_ret2
            exact ⟨ret_two HA.out.symm, Gr.below hg4 hB0⟩
          | true =>
            rw [e5] at hwi
            go_wp2_with fail
            refine hwi.mono ?_
            rintro e6 w5 ⟨rfl, rfl⟩
            have hg5 := hg4
            have HV : Hid (valid m en = (0, 0)) := valid_ok HL.out H1.out H2.out H3.out e5
            obtain ⟨hRt, hen0, hen⟩ := right_of_valid HV.out
            have hcnt := events_any w5 B lv rv sv m R en (hM0.keep (hg5.mono hBW)) (Nat.le_trans hBW hg5.size) hRt hen
            go_wp2_with fail
            refine hcnt.mono ?_
            rintro e6 w6 ⟨n, pb, rfl, g6, hcase⟩
            clear hcnt
            have hg6 : Gr W0 w6 := Gr.trans hg5 g6
            rcases hcase with ⟨hn, hF, -⟩ | ⟨rfl, hF⟩
            · have HA : Hid (answer m en = (0, 0)) := by show _ = _; rw [answer, if_pos HV.out, if_pos (fewB_iff.2 hF)]
              clear hF
              go_wp2
              go_ret2
              exact ⟨ret_two HA.out.symm, Gr.below hg6 hB0⟩
            · have HA : Hid (answer m en = (6, 0)) := by
                show _ = _
                rw [answer, if_pos HV.out, if_neg]
                intro hf; exact hF (fewB_iff.1 hf)
              clear hF
              go_wp2
              go_ret2
              exact ⟨ret_two HA.out.symm, Gr.below hg6 hB0⟩

end Go.Proofs.Ytaieackeflmhgaa

namespace Go.Proofs.Ytaieackeflmhgaa
open Go.RowKit Go.Sort Go.Maps

theorem results_tmp4 {fn : Func} {t u v x : Tmp} (h : fn.results = #[.tmp t, .tmp u, .tmp v, .tmp x]) (tmps : Array Value) (P : Program) (w : World) :
    (results fn tmps).run P w = .ok (.tuple #[tmps.getD t undef, tmps.getD u undef, tmps.getD v undef, tmps.getD x undef]) w := by
  simp [results, h]

theorem fill_ints (S : List Int) (n i : Nat) (x : Int) (hi : S[i]? = some x) (hl : S.length = n) : (ints (S.take i ++ List.replicate (n - i) 0)).setIfInBounds i (.int .i64 x) = ints (S.take (i + 1) ++ List.replicate (n - (i + 1)) 0) := by
  have hlt := get_lt hi
  have e : n - i = (n - (i + 1)) + 1 := by omega
  have hlen : (S.take i).length = i := by simp; omega
  rw [ints_set, e, List.replicate_succ, List.set_append_right _ _ (by omega), hlen, Nat.sub_self, List.set_cons_zero, List.take_add_one, hi]
  simp
theorem fill_vals (L : List Value) (n : Nat) (z y : Value) (h : L.length < n) : (L ++ List.replicate (n - L.length) z).toArray.setIfInBounds L.length y = ((L ++ [y]) ++ List.replicate (n - (L.length + 1)) z).toArray := by
  have e : n - L.length = (n - (L.length + 1)) + 1 := by omega
  rw [e, List.replicate_succ, List.setIfInBounds_toArray, List.set_append_right _ _ (Nat.le_refl _), Nat.sub_self]
  simp
theorem info_ints : (Try.prog.info? 3).map (fun i => (i.zero, i.size, i.bytes)) = some (some (.int .i64 0), 1, 8) := by kernel_rfl
theorem info_dones : (Try.prog.info? 60).map (fun i => (i.zero, i.size, i.bytes)) = some (some (.slice none 0 0), 1, 24) := by kernel_rfl

theorem answer_zero {m : Mdl} {en : Int} (h : answer m en = (0, 0)) : valid m en = (0, 0) ∧ Few m en := by
  unfold answer at h
  split at h
  · rename_i hv
    refine ⟨hv, ?_⟩
    split at h
    · rename_i hf; exact fewB_iff.1 hf
    · cases h
  · rename_i hv
    exact absurd h hv
theorem answer_ne {m : Mdl} {en : Int} (h : answer m en ≠ (0, 0)) : (answer m en).1 ≠ 0 := by
  intro e
  apply h
  unfold answer at e ⊢
  split
  · rename_i hv
    rw [if_pos hv] at e
    split
    · rfl
    · rename_i hf; rw [if_neg hf] at e; cases e
  · rename_i hv
    rw [if_neg hv] at e
    exact absurd (valid_zero e) hv

/-- what Run answers, in memory -/
structure RunAt (w : World) (m : Mdl) (en : Int) (sb lb k : Nat) (L : List Value) : Prop where
  stop : nx en (atK m en k).wait = none
  st : Blk w sb (ints (atK m en k).states) 3
  ls : Blk w lb L.toArray 60
  len : L.length = np m
  rows : ∀ (p : Nat) (v : Value) (l : List Dn), L[p]? = some v → (atK m en k).done[p]? = some l → RowsAt 5 dnC w w.heap.size v l

theorem RunAt.keep {w w' : World} {m : Mdl} {en : Int} {sb lb k : Nat} {L : List Value} (h : RunAt w m en sb lb k L) (hb : Below w.heap.size w w') : RunAt w' m en sb lb k L :=
  ⟨h.stop, h.st.keep (kept_of_below' hb) (fun e => e), h.ls.keep (kept_of_below' hb) (fun e => e), h.len, fun p v l h1 h2 => ((h.rows p v l h1 h2).keep hb).mono hb.size⟩

/-- what Run answers, in memory, from lo on -/
structure RunIn (lo : Nat) (w : World) (m : Mdl) (en : Int) (sb lb k : Nat) (L : List Value) : Prop where
  stop : nx en (atK m en k).wait = none
  st : Blk w sb (ints (atK m en k).states) 3
  ls : Blk w lb L.toArray 60
  len : L.length = np m
  rows : ∀ (p : Nat) (v : Value) (l : List Dn), L[p]? = some v → (atK m en k).done[p]? = some l → RowsIn 5 dnC lo w v l
  lows : lo ≤ sb
  lowl : lo ≤ lb

theorem RunIn.keep {lo : Nat} {F : Nat → Prop} {w w' : World} {m : Mdl} {en : Int} {sb lb k : Nat} {L : List Value} (h : RunIn lo w m en sb lb k L) (hk : KeptF F w w') (hF : ∀ i, F i → i < lo) : RunIn lo w' m en sb lb k L :=
  ⟨h.stop, h.st.keep hk (fun e => by have := hF _ e; have := h.lows; omega), h.ls.keep hk (fun e => by have := hF _ e; have := h.lowl; omega), h.len, fun p v l h1 h2 => (h.rows p v l h1 h2).keep hk hF, h.lows, h.lowl⟩
theorem RunIn.at {lo : Nat} {w : World} {m : Mdl} {en : Int} {sb lb k : Nat} {L : List Value} (h : RunIn lo w m en sb lb k L) : RunAt w m en sb lb k L :=
  ⟨h.stop, h.st, h.ls, h.len, fun p v l h1 h2 => (h.rows p v l h1 h2).at⟩

set_option maxRecDepth 100000 in
set_option maxHeartbeats 8000000 in
theorem run_in (m : Mdl) (lv rv sv : Value) (R : List RuleV) (B : Nat) (en : Int) (w : World) (h : ModelAt w B lv rv sv m R) (hB : B ≤ w.heap.size) (hne : ∀ r ∈ m.rules, r.es.length ≤ 5864062014634) :
    Calls Try.prog 22 #[.agg #[.int .i64 m.procs, .int .i64 m.states, .int .i64 m.loads, lv, rv, sv], .int .i64 en] w fun e w' => Below w.heap.size w w' ∧
      ((answer m en ≠ (0, 0) ∧ e = .returned (.tuple #[.slice none 0 0, .slice none 0 0, .int .i64 (answer m en).1, .int .i64 (answer m en).2])) ∨
       (answer m en = (0, 0) ∧ ∃ sb lb k L, e = .returned (.tuple #[.slice (some ⟨sb, 0, none⟩) (np m) (np m), .slice (some ⟨lb, 0, none⟩) (np m) (np m), .int .i64 0, .int .i64 0]) ∧ RunIn w.heap.size w' m en sb lb k L)) := by
  obtain ⟨W0, hW0⟩ : ∃ W0, W0 = w.alloc (.cells #[.int .i64 m.procs, .int .i64 m.states, .int .i64 m.loads, lv, rv, sv] 31) := ⟨_, rfl⟩
  have HW0 : Hid (W0 = w.alloc (.cells #[.int .i64 m.procs, .int .i64 m.states, .int .i64 m.loads, lv, rv, sv] 31)) := hW0
  have hB0 : Below w.heap.size w W0 := by rw [hW0]; exact (Below.refl _ _).alloc (Nat.le_refl _) _
  have hmb : Blk W0 w.heap.size #[.int .i64 m.procs, .int .i64 m.states, .int .i64 m.loads, lv, rv, sv] 31 := by rw [hW0]; exact heap_alloc_new w _
  have k0 := Gr.cells (v := .int .i64 m.procs) (hmb.cell 0)
  have k1 := Gr.cells (v := .int .i64 m.states) (hmb.cell 1)
  have k2 := Gr.cells (v := .int .i64 m.loads) (hmb.cell 2)
  have k3 := Gr.cells (v := lv) (hmb.cell 3)
  have k4 := Gr.cells (v := rv) (hmb.cell 4)
  have k5 := Gr.cells (v := sv) (hmb.cell 5)
  have hBW : B ≤ W0.heap.size := Nat.le_trans hB hB0.size
  have hM0 := h.keep (hB0.mono hB)
  have hg0 := Gr.refl W0
  clear hW0
  have hck := check_any m lv rv sv R B en W0 hM0 hBW hne
  go_enter Try.func22, Try.ntmps22
  go_upto_region 1 with fail
  rw [← HW0.out]
  clear HW0
  go_wp2_with fail
  refine hck.mono ?_
  rintro e1 w1 ⟨rfl, g1⟩
  clear hck
  have hg1 : Gr W0 w1 := g1
  by_cases ha : answer m en = (0, 0)
  · have Ha : Hid (answer m en = (0, 0)) := ha
    rw [ha]
    clear ha
    obtain ⟨hv, hFew⟩ := answer_zero Ha.out
    obtain ⟨hRt, hen0, hen⟩ := right_of_valid hv
    have hp1 := hRt.lim.p1
    have hp2 := hRt.lim.p2
    have hnp6 : np m ≤ 6 := by unfold np; omega
    clear hv
    have hev := events_any w1 B lv rv sv m R en (hM0.keep (hg1.mono hBW)) (Nat.le_trans hBW hg1.size) hRt hen
    go_wp2_with fail
    refine hev.mono ?_
    rintro e2 w2 ⟨k, pb, rfl, g2, hcase⟩
    clear hev k0 k1 k2 k3 k4 k5
    have hg2 : Gr W0 w2 := Gr.trans hg1 g2
    rcases hcase with ⟨hk, -, hnx, ps, hP, hS⟩ | ⟨-, hF⟩
    rotate_left
    · exact absurd hFew hF
    have hI := atK_inv hRt hen k
    have hall : (atK m en k).all ≤ k := atK_all m en k
    have hdl : ∀ p ∈ ps, p.dn.length ≤ 5000 := fun p hp => by
      obtain ⟨i, hi⟩ := List.getElem?_of_mem hp
      have := hI.dl i p.dn (hS.dn i p hi)
      omega
    obtain ⟨S, hSe⟩ : ∃ S, S = (atK m en k).states := ⟨_, rfl⟩
    have HS : Hid (S = (atK m en k).states) := hSe
    have hSl : S.length = np m := by rw [hSe]; exact hI.ls
    have HSl : Hid (S.length = np m) := hSl
    have Hnx : Hid (nx en (atK m en k).wait = none) := hnx
    have hbw2 : Below w.heap.size w w2 := Gr.below hg2 hB0
    have Hlen : Hid (ps.length = np m) := hS.len
    clear hSe hSl hnx hall
    obtain ⟨n, hn⟩ : ∃ n, n = np m := ⟨_, rfl⟩
    have Hn : Hid (n = np m) := hn
    rw [← hn] at hnp6
    have hmk1 := run_make_row' (P := Try.prog) 55 3 (.int .i64 0) 8 Try.underlying55 info_ints rfl .i64 .i64 n (by omega) (by omega)
    have hmk2 := run_make_row' (P := Try.prog) 56 60 (.slice none 0 0) 24 Try.underlying56 info_dones rfl .i64 .i64 n (by omega) (by omega)
    have hst0 : Blk ((w2.alloc (.cells (madeCells #[.int .i64 0] n) 3)).alloc (.cells (madeCells #[.slice none 0 0] n) 60)) w2.heap.size (ints (S.take 0 ++ List.replicate (n - 0) 0)) 3 := by
      rw [List.take_zero, List.nil_append, Nat.sub_zero, ← made_ints]
      exact Blk.alloc (heap_alloc_new w2 _) _
    have hls0 : Blk ((w2.alloc (.cells (madeCells #[.int .i64 0] n) 3)).alloc (.cells (madeCells #[.slice none 0 0] n) 60)) (w2.heap.size + 1) (([] : List Value) ++ List.replicate (n - 0) (Value.slice none 0 0)).toArray 60 := by
      rw [List.nil_append, Nat.sub_zero, ← made_nils]
      exact blk_newP (by simp)
    have hb0 : Below w2.heap.size w2 ((w2.alloc (.cells (madeCells #[.int .i64 0] n) 3)).alloc (.cells (madeCells #[.slice none 0 0] n) 60)) := ((Below.refl _ _).alloc (Nat.le_refl _) _).alloc (by simp) _
    rw [← hn]
    clear hn
    go_wp2
    clear hmk1 hmk2
    go_loopw [40] (fun s40 wr => ∃ (i : Nat) (L : List Value), s40 = .int .i64 i ∧ i ≤ n ∧ L.length = i ∧ Blk wr w2.heap.size (ints (S.take i ++ List.replicate (n - i) 0)) 3 ∧ Blk wr (w2.heap.size + 1) (L ++ List.replicate (n - i) (Value.slice none 0 0)).toArray 60 ∧ (∀ (j : Nat) (v : Value) (p : Pr), L[j]? = some v → ps[j]? = some p → RowsIn 5 dnC (w2.heap.size + 2) wr v p.dn) ∧ Below w2.heap.size w2 wr) (fun s40 _ => n - (intOf s40).toNat)
    case atStart => exact ⟨0, [], rfl, Nat.zero_le _, rfl, hst0, hls0, fun j v p hj => by simp at hj, hb0⟩
    case round =>
      clear hst0 hls0 hb0
      obtain ⟨i, L, rfl, hi, hL, hst, hls, hrows, hbr⟩ := hrel
      have HL : Hid (L.length = i) := hL
      clear hL
      by_cases hlt : i < n
      · obtain ⟨p, hp⟩ := get_of_lt (d := ps) (k := i) (by rw [Hlen.out, ← Hn.out]; exact hlt)
        obtain ⟨x, hx⟩ := get_of_lt (d := S) (k := i) (by rw [HSl.out, ← Hn.out]; exact hlt)
        have hxs : x = p.st := by
          have h1 := hS.st i p hp
          rw [← HS.out, hx] at h1
          cases h1; rfl
        subst hxs
        have hPr := hP.grow (kept_of_below' hbr)
        have cp := hPr.cell hp
        have hPd := (hPr.each p (List.mem_of_getElem? hp)).keep (KeptF.drew (KeptF.refl (fun _ => False) wr)) (fun _ _ e => e)
        have htold := told_any wr.drew _ p hPd (hdl p (List.mem_of_getElem? hp))
        have c6 := hPd.cells.2.1
        have hPlt : p.qb < w2.heap.size := (hP.each p (List.mem_of_getElem? hp)).core.blk.lt
        have hlq : p.qb < wr.heap.size := hPd.core.blk.lt
        have hsz : w2.heap.size + 2 ≤ wr.heap.size := hls.lt
        have hpl : pb < wr.heap.size := hPr.arr.lt
        have Hp : Hid (ps[i]? = some p) := hp
        have Hx : Hid (S[i]? = some p.st) := hx
        have hils : (i : Int) < n := by omega
        have g0 : (ints (S.take i ++ List.replicate (n - i) 0))[i]? = some (.int .i64 0) := ints_get (by
          have hlen : (S.take i).length = i := by rw [List.length_take, HSl.out, ← Hn.out]; omega
          rw [List.getElem?_append_right (by omega), hlen, Nat.sub_self, List.getElem?_replicate, if_pos (by omega)])
        have g1' : (L ++ List.replicate (n - i) (Value.slice none 0 0)).toArray[i]? = some (Value.slice none 0 0) := by
          rw [List.getElem?_toArray, List.getElem?_append_right (by rw [HL.out]; exact Nat.le_refl _), HL.out, Nat.sub_self, List.getElem?_replicate, if_pos (by omega)]
        clear hp hx
        go_wp2
        go_region_held3 (fun W => W.cell? ⟨p.qb, 9, none⟩ = some (.int .i64 p.st)) (first | assumption | (rw [World.cell?_setCell_other _ _ _ _ (fun e => by have e := congrArg Addr.block e; simp only at e; omega)]; assumption)) ((refine htold.mono ?_; rintro e3 w3 ⟨ao, cap, rfl, hb3, hr3⟩; have hst3 := hst.drew.keep (kept_of_below' hb3) (fun e => e); have hls3 := hls.drew.keep (kept_of_below' hb3) (fun e => e); have d6 := (hb3.cell (p := ⟨p.qb, 9, none⟩) hlq).trans c6; have f0 := hst3.frozen i; have f1 := hls3.frozen i; have e0 := (hst3.cell i).trans g0; have e1 := (hls3.cell i).trans g1'))
        all_goals
          go_wp2
          go_roundw
          case rel =>
            have hk1 : KeptF (fun j => j = w2.heap.size ∨ j = w2.heap.size + 1) w3 ((w3.setCell ⟨w2.heap.size, i, none⟩ (.int .i64 p.st)).setCell ⟨w2.heap.size + 1, i, none⟩ (.slice ao p.dn.length cap)) := ((KeptF.refl _ w3).setCell (p := ⟨w2.heap.size, i, none⟩) (.inl (.inl rfl)) _).setCell (p := ⟨w2.heap.size + 1, i, none⟩) (.inl (.inr rfl)) _
            have hst4 := (hst3.set i (.int .i64 p.st)).set_other (a := ⟨w2.heap.size + 1, i, none⟩) (show w2.heap.size ≠ w2.heap.size + 1 by omega) (.slice ao p.dn.length cap)
            have hls4 := (hls3.set_other (a := ⟨w2.heap.size, i, none⟩) (show w2.heap.size + 1 ≠ w2.heap.size by omega) (.int .i64 p.st)).set i (.slice ao p.dn.length cap)
            rw [fill_ints S n i p.st Hx.out (by rw [HSl.out, Hn.out])] at hst4
            have hfv := fill_vals L n (Value.slice none 0 0) (.slice ao p.dn.length cap) (by rw [HL.out]; exact hlt)
            rw [HL.out] at hfv
            rw [hfv] at hls4
            refine ⟨i + 1, L ++ [.slice ao p.dn.length cap], by go_num, hlt, by rw [List.length_append, HL.out]; rfl, hst4, hls4, fun j v q hj hq => ?_, ?_⟩
            · have hlj := get_lt hj
              rw [List.length_append, List.length_singleton, HL.out] at hlj
              by_cases hji : j < i
              · rw [List.getElem?_append_left (by rw [HL.out]; exact hji)] at hj
                exact (((hrows j v q hj hq).keep (KeptF.drew (KeptF.refl (fun _ => False) wr)) (fun _ e => e.elim)).keep (kept_of_below' hb3) (fun _ e => e.elim)).keep hk1 (fun k hk => by omega)
              · have e : j = i := by omega
                rw [e] at hj hq
                rw [List.getElem?_append_right (by rw [HL.out]; exact Nat.le_refl _), HL.out, Nat.sub_self] at hj
                simp only [List.getElem?_cons_zero, Option.some.injEq] at hj
                rw [Hp.out] at hq
                cases hq
                subst hj
                exact (hr3.mono hsz).keep hk1 (fun k hk => by omega)
            · refine hbr.trans ((Below.trans (KeptF.below (F := fun _ => False) (KeptF.drew (KeptF.refl _ wr)) (by omega) (fun _ e => e.elim)) (hb3.mono (by show w2.heap.size ≤ wr.heap.size; omega))).trans (KeptF.below hk1 (by have := hst3.lt; omega) (fun k hk => by omega)))
          case measure => simp [intOf]; omega
      · have hie : i = n := by omega
        subst hie
        go_wp2
        (try simp only [Exit.inBlock, Exit.then])
        refine bodyPost_ret (results_tmp4 rfl _ _ _) rfl ?_
        refine ⟨hbw2.trans (hbr.mono hbw2.size), .inr ⟨Ha.out, w2.heap.size, w2.heap.size + 1, k, L, by rw [← Hn.out]; rfl, ?_⟩⟩
        rw [Nat.sub_self] at hst hls
        rw [List.replicate_zero, List.append_nil] at hst hls
        rw [List.take_of_length_le (by rw [HSl.out, Hn.out]; exact Nat.le_refl _), HS.out] at hst
        refine ⟨Hnx.out, hst, hls, by rw [HL.out, Hn.out], fun j v l h1 h2 => ?_, hbw2.size, Nat.le_succ_of_le hbw2.size⟩
        obtain ⟨p, hp⟩ := get_of_lt (d := ps) (k := j) (by rw [Hlen.out, ← Hn.out, ← HL.out]; exact get_lt h1)
        have h3 := hS.dn j p hp
        rw [h2] at h3
        cases h3
        exact (hrows j v p h1 hp).mono (Nat.le_trans hbw2.size (Nat.le_add_right _ _))
  · have Ha : Hid (answer m en ≠ (0, 0)) := ha
    have h1 := answer_ne ha
    clear ha
    go_wp2
    (try simp only [Exit.inBlock, Exit.then])
    refine bodyPost_ret (results_tmp4 rfl _ _ _) rfl ?_
    exact ⟨Gr.below hg1 hB0, .inl ⟨Ha.out, rfl⟩⟩

theorem run_any (m : Mdl) (lv rv sv : Value) (R : List RuleV) (B : Nat) (en : Int) (w : World) (h : ModelAt w B lv rv sv m R) (hB : B ≤ w.heap.size) (hne : ∀ r ∈ m.rules, r.es.length ≤ 5864062014634) :
    Calls Try.prog 22 #[.agg #[.int .i64 m.procs, .int .i64 m.states, .int .i64 m.loads, lv, rv, sv], .int .i64 en] w fun e w' => Below w.heap.size w w' ∧
      ((answer m en ≠ (0, 0) ∧ e = .returned (.tuple #[.slice none 0 0, .slice none 0 0, .int .i64 (answer m en).1, .int .i64 (answer m en).2])) ∨
       (answer m en = (0, 0) ∧ ∃ sb lb k L, e = .returned (.tuple #[.slice (some ⟨sb, 0, none⟩) (np m) (np m), .slice (some ⟨lb, 0, none⟩) (np m) (np m), .int .i64 0, .int .i64 0]) ∧ RunAt w' m en sb lb k L)) := by
  refine (run_in m lv rv sv R B en w h hB hne).mono ?_
  rintro e w' ⟨g, hc | ⟨ha, sb, lb, k, L, he, hR⟩⟩
  · exact ⟨g, .inl hc⟩
  · exact ⟨g, .inr ⟨ha, sb, lb, k, L, he, hR.at⟩⟩

end Go.Proofs.Ytaieackeflmhgaa

namespace Go.Proofs.Ytaieackeflmhgaa
open Go.RowKit Go.Sort Go.Maps

theorem eql_nil {P : Program} {t e : TypeId} (ht : P.underlying t = some (.slice e)) (w : World) : (binOp .eql t (.slice none 0 0) (.slice none 0 0)).run P w = .ok (.bool true) w := by
  have h : ∀ d : Nat, (Op.equalIn (d + 1) t (.slice none 0 0) (.slice none 0 0)).run P w = .ok true w := fun d => by
    simp [Op.equalIn, run_underlying ht]
  simp only [binOp]
  simp [Op.equal, Op.maxDepth, h 9999]

theorem run_any2 (m : Mdl) (lv rv sv : Value) (R : List RuleV) (B : Nat) (en : Int) (w : World) (h : ModelAt w B lv rv sv m R) (hB : B ≤ w.heap.size) (hne : ∀ r ∈ m.rules, r.es.length ≤ 5864062014634) :
    Calls Try.prog 22 #[.agg #[.int .i64 m.procs, .int .i64 m.states, .int .i64 m.loads, lv, rv, sv], .int .i64 en] w fun e w' => Below w.heap.size w w' ∧ ∃ s l : Value, e = .returned (.tuple #[s, l, .int .i64 (answer m en).1, .int .i64 (answer m en).2]) ∧
      (answer m en ≠ (0, 0) → s = .slice none 0 0 ∧ l = .slice none 0 0) ∧
      (answer m en = (0, 0) → ∃ sb lb k L, s = .slice (some ⟨sb, 0, none⟩) (np m) (np m) ∧ l = .slice (some ⟨lb, 0, none⟩) (np m) (np m) ∧ RunAt w' m en sb lb k L) := by
  refine (run_any m lv rv sv R B en w h hB hne).mono ?_
  rintro e w' ⟨g, ⟨ha, rfl⟩ | ⟨ha, sb, lb, k, L, rfl, hR⟩⟩
  · exact ⟨g, _, _, rfl, fun _ => ⟨rfl, rfl⟩, fun e => absurd e ha⟩
  · exact ⟨g, _, _, by rw [ha], fun e => absurd ha e, fun _ => ⟨sb, lb, k, L, rfl, rfl, hR⟩⟩

theorem run_in2 (m : Mdl) (lv rv sv : Value) (R : List RuleV) (B : Nat) (en : Int) (w : World) (h : ModelAt w B lv rv sv m R) (hB : B ≤ w.heap.size) (hne : ∀ r ∈ m.rules, r.es.length ≤ 5864062014634) :
    Calls Try.prog 22 #[.agg #[.int .i64 m.procs, .int .i64 m.states, .int .i64 m.loads, lv, rv, sv], .int .i64 en] w fun e w' => Below w.heap.size w w' ∧ ∃ s l : Value, e = .returned (.tuple #[s, l, .int .i64 (answer m en).1, .int .i64 (answer m en).2]) ∧
      (answer m en ≠ (0, 0) → s = .slice none 0 0 ∧ l = .slice none 0 0) ∧
      (answer m en = (0, 0) → ∃ sb lb k L, s = .slice (some ⟨sb, 0, none⟩) (np m) (np m) ∧ l = .slice (some ⟨lb, 0, none⟩) (np m) (np m) ∧ RunIn w.heap.size w' m en sb lb k L) := by
  refine (run_in m lv rv sv R B en w h hB hne).mono ?_
  rintro e w' ⟨g, ⟨ha, rfl⟩ | ⟨ha, sb, lb, k, L, rfl, hR⟩⟩
  · exact ⟨g, _, _, rfl, fun _ => ⟨rfl, rfl⟩, fun e => absurd e ha⟩
  · exact ⟨g, _, _, by rw [ha], fun e => absurd ha e, fun _ => ⟨sb, lb, k, L, rfl, rfl, hR⟩⟩

end Go.Proofs.Ytaieackeflmhgaa

