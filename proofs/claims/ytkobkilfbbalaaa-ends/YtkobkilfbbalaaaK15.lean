/-
  The program: goOn.
  The net's numbers are small: what the program asks of a state holds in every state that steps lead to.
  The program: what a process has done, told.
  The program: Step and See.
  The program: slices.Clone at its three types.
-/
import Derived.Test.YtkobkilfbbalaaaK14
import Derived.Test.YtkobkilfbbalaaaK09
import Derived.Laws.OwnMore
import Derived.Deep.LoopGhost
import Derived.Test.YtkobkilfbbalaaaK11
namespace Go.Proofs.Ytkobkilfbbalaaa
open Go.RowKit Go.Sort Go.Maps

/-- what goes out goes along links that there are -/
theorem adv_links {m : Mdl} (hm : Right m) {num en : Int} {a : NP} (hw : ∀ w ∈ a.ws, 0 ≤ w.k ∧ w.k < m.links.length) : ∀ x ∈ (advP m num en a).2, 0 ≤ x.k ∧ x.k < m.links.length := by
  intro x hx
  rw [dA_all] at hx
  rcases List.mem_append.1 hx with h1 | h1
  · have : ∀ (l : List It) (b : NP) (y : Pcl), y ∈ (doAll m num en l (b, [])).2 → 0 ≤ y.k ∧ y.k < m.links.length := by
      intro l
      induction l with
      | nil => intro b y hy; simp [doAll] at hy
      | cons z l ih =>
        intro b y hy
        have e1 : doAll m num en (z :: l) (b, []) = doAll m num en l ((doP m num en b z).1, (doP m num en b z).2) := rfl
        rw [e1, doAll_out] at hy
        rcases List.mem_append.1 hy with hy | hy
        · unfold doP at hy
          obtain ⟨e, he, rfl⟩ := List.mem_map.1 hy
          obtain ⟨z', h2, h3, _⟩ := ruleOut_link hm (List.mem_filter.1 he).1
          have := get_lt h2
          show 0 ≤ e.k ∧ e.k < m.links.length
          omega
        · exact ih _ y hy
    exact this _ _ x h1
  · obtain ⟨w, h2, _, rfl⟩ := mem_wyO h1
    rw [(wyP_k en _ w).1]
    exact hw w h2

/-- what is asked of a state, for the program's numbers to be right -/
structure Sane (m : Mdl) (en : Int) (s : NS) (i : Nat) (a : NP) : Prop where
  srt : (toDo en (taken m s.ls i m.links.length a)).Pairwise It.lt
  ok : ∀ k, ∀ x ∈ s.ls.getD k [], PclOk x
  len : ∀ k, (s.ls.getD k []).length ≤ 40000
  tim : ∀ x ∈ (taken m s.ls i m.links.length a).q, 0 ≤ x.t ∧ x.t ≤ 200
  su0 : 0 ≤ hz en (taken m s.ls i m.links.length a).hr
  su1 : hz en (taken m s.ls i m.links.length a).hr ≤ en
  wk : ∀ w ∈ a.ws, 0 ≤ w.k ∧ w.k < m.links.length
  wa : ∀ w ∈ a.ws, 0 ≤ w.a ∧ w.a ≤ 60
  wl : a.ws.length ≤ 12
  se0 : 0 ≤ a.sent
  se1 : a.sent + 4 * (toDo en (taken m s.ls i m.links.length a)).length ≤ 5000
  dl : a.dn.length + a.q.length + (msgs (inbox m s.ls i m.links.length)).length ≤ 2000
  out : (advP m (i : Int) en (taken m s.ls i m.links.length a)).2.length ≤ 9000

theorem Sane.qlen {m : Mdl} {en : Int} {s : NS} {i : Nat} {a : NP} (h : Sane m en s i a) : (taken m s.ls i m.links.length a).dn.length + (taken m s.ls i m.links.length a).q.length ≤ 2000 := by
  have h1 := takeAll_keep (inbox m s.ls i m.links.length) a
  have h2 := (takeAll_q (inbox m s.ls i m.links.length) a).length_eq
  have h4 := h.dl
  unfold taken
  rw [h1.2.2.2, h2, List.length_append]
  omega

theorem und_lks : Try.prog.underlying 131 = some (.slice 141) := by kernel_rfl

set_option maxRecDepth 100000 in
set_option maxHeartbeats 16000000 in
theorem goOn_any (w : World) (nb : Nat) (m : Mdl) (en : Int) (s : NS) (V : NV) (i : Nat) (p : Pr) (a : NP) (h : NetAt w nb m en s V) (hm : Right m) (hen0 : 0 ≤ en) (hen : en ≤ 200) (hp : V.ps[i]? = some p) (ha : s.ps[i]? = some a) (hS : Sane m en s i a) :
    Calls Try.prog 39 #[.pointer (some ⟨nb, 0, none⟩), .pointer (some ⟨p.qb, 0, none⟩)] w fun e w' => e = .returned (.bool (goOnB m en s i)) ∧ ∃ V' : NV, NGo w w' nb m en (goOn m en s i) V V' ∧ ∃ p' : Pr, V'.ps[i]? = some p' ∧ p'.qb = p.qb := by
  have hrl0 := h.rel i p a hp ha
  have hil : i < s.ps.length := get_lt ha
  have hdlv := deliver_any w nb m en s V i p a h hm hp ha hS.ok (by rw [hrl0.pu]; have := hS.dl; omega) (fun k => by have := hS.len k; omega)
  obtain ⟨bx, hbx⟩ : ∃ bx, bx = (!(inbox m s.ls i m.links.length).isEmpty) := ⟨_, rfl⟩
  rw [← hbx] at hdlv
  have hB : goOnB m en s i = (bx || !(advP m (i : Int) en (taken m s.ls i m.links.length a)).2.isEmpty || !(toDo en (taken m s.ls i m.links.length a)).isEmpty) := by
    unfold goOnB; rw [ha, hbx]
  have hG : goOn m en s i = ⟨s.ps.set i (advP m (i : Int) en (taken m s.ls i m.links.length a)).1, send (drain m s.ls i m.links.length) (advP m (i : Int) en (taken m s.ls i m.links.length a)).2⟩ := by
    unfold goOn; rw [ha]
  have HB : Hid (goOnB m en s i = (bx || !(advP m (i : Int) en (taken m s.ls i m.links.length a)).2.isEmpty || !(toDo en (taken m s.ls i m.links.length a)).isEmpty)) := hB
  rw [hG]
  have htl := takeAll_keep (inbox m s.ls i m.links.length) a
  have htw : (taken m s.ls i m.links.length a).ws = a.ws := htl.1
  have hts : (taken m s.ls i m.links.length a).sent = a.sent := htl.2.2.1
  have htd : (taken m s.ls i m.links.length a).dn = a.dn := htl.2.2.2
  have hql := hS.qlen
  have hsr := hS.srt
  have htim := hS.tim
  have hs0 := hS.su0
  have hs1 := hS.su1
  have hse := hS.se1
  have hout := hS.out
  have hdS : dlvS m s i a m.links.length = ⟨s.ps.set i (taken m s.ls i m.links.length a), drain m s.ls i m.links.length⟩ := rfl
  rw [hdS] at hdlv
  clear hdS hB hG hbx
  generalize taken m s.ls i m.links.length a = b at *
  have Hab : Hid (b.dn.length = a.dn.length) := by show _ = _; rw [htd]
  have hlinks := adv_links hm (num := (i : Int)) (en := en) (a := b) (by rw [htw]; exact hS.wk)
  go_enter Try.func39, Try.ntmps39
  go_wp2_with fail
  refine hdlv.mono ?_
  rintro e1 w1 ⟨rfl, V1, hg1, p1, hp1, hq1⟩
  clear hdlv
  have hN1 := hg1.at_
  have hrl1 := hN1.rel i p1 b hp1 (List.getElem?_set_self hil)
  have hP1 := hN1.procs.each p1 (List.mem_of_getElem? hp1)
  obtain ⟨ad, cd, hdv, hcd⟩ := hP1.own.form'
  have c11 : w1.cell? ⟨p.qb, 11, none⟩ = some (.slice ad p1.dn.length cd) := by rw [← hq1, ← hdv]; exact hP1.cells.2.2.2
  have hdn1 : p1.dn.length = b.dn.length := by rw [hrl1.dn]
  rw [hdn1] at c11
  have hlq : p.qb < w1.heap.size := block_lt_of_cell c11
  have hadv := advance_any w1 V1.B V1.Bm V1.lv V1.rv m (V1.RS.map RuleS.v) en i p1 b hP1 hrl1 hN1.mod hm hN1.low hN1.bsz hen0 hen hsr htim hs0 hs1 (by rw [htw]; exact hS.wa) (by rw [htw]; exact hS.wl) (by rw [hts]; exact hS.se0) (by rw [hts]; exact hse) hql
  rw [hq1] at hadv
  have n0 : w1.cell? ⟨nb, 0, none⟩ = some (.int .i64 m.procs) := hN1.blk.cell 0
  have n1 : w1.cell? ⟨nb, 1, none⟩ = some (.int .i64 m.states) := hN1.blk.cell 1
  have n2 : w1.cell? ⟨nb, 2, none⟩ = some (.int .i64 m.loads) := hN1.blk.cell 2
  have n3 : w1.cell? ⟨nb, 3, none⟩ = some V1.lv := hN1.blk.cell 3
  have n4 : w1.cell? ⟨nb, 4, none⟩ = some V1.rv := hN1.blk.cell 4
  have n5 : w1.cell? ⟨nb, 5, none⟩ = some (.slice none 0 0) := hN1.blk.cell 5
  have hln := hN1.blk.lt
  clear hdv
  go_wp2_with fail
  refine hadv.mono ?_
  rintro e2 w2 ⟨v, p2, rfl, hO2, hpg2, hrl2, hvp2⟩
  clear hadv n0 n1 n2 n3 n4 n5 c11
  have hg2 := hg1.trans (hN1.turn hp1 hpg2 hrl2)
  simp only [List.set_set] at hg2
  obtain ⟨av, cv, hvf, hcv⟩ := hO2.form'
  obtain ⟨out, hoe⟩ : ∃ out, out = (advP m (i : Int) en b).2 := ⟨_, rfl⟩
  rw [← hoe] at hvf hcv hO2 hout hlinks
  subst hvf
  obtain ⟨V2, hV2⟩ : ∃ V2 : NV, V2 = { V1 with ps := V1.ps.set i p2 } := ⟨_, rfl⟩
  rw [← hV2] at hg2
  have hp2 : V2.ps[i]? = some p2 := by rw [hV2]; exact List.getElem?_set_self (get_lt hp1)
  have hq2 : p2.qb = p.qb := hpg2.qb.trans hq1
  have hvn2 : ∀ g, (Value.slice av out.length cv).ownBlock = some g → ¬ NF nb V2 g := fun g hg hf => by
    have h1 := (hO2.lt hg).1
    rw [hV2] at hf
    rcases hf with hf | hf | hf | ⟨u, hu, hf⟩
    · have := hN1.blk.lt; omega
    · have := hN1.garr.lt
      have hf : g = V1.gb := hf
      omega
    · rcases hf with hf | ⟨q, hq, hf⟩
      · have := hN1.procs.arr.lt
        have hf : g = V1.pb := hf
        omega
      · obtain ⟨j, hj⟩ := List.getElem?_of_mem hq
        rcases set_get hj with ⟨_, e⟩ | ⟨_, e⟩
        · subst e; exact hvp2 g hg hf
        · have := ((hN1.procs.each q (List.mem_of_getElem? e)).lt hf).2; omega
    · obtain ⟨j, hj⟩ := List.getElem?_of_mem hu
      have := ((hN1.each j u hj).lt hf).2; omega
  have hdn2 : p2.dn.length = b.dn.length + (toDo en b).length := by
    rw [hrl2.dn, dA_all]
    exact (dA_keep m (i : Int) en b _ (Nat.le_refl _)).2.2
  have hlen0 : ∀ k, ((drain m s.ls i m.links.length).getD k []).length ≤ 40000 := fun k => by
    rw [drain_get]
    split
    · simp
    · exact hS.len k
  have Hoe : Hid (out = (advP m (i : Int) en b).2) := hoe
  obtain ⟨ls0, hls0⟩ : ∃ ls0, ls0 = drain m s.ls i m.links.length := ⟨_, rfl⟩
  obtain ⟨ps0, hps0⟩ : ∃ ps0, ps0 = s.ps.set i (advP m (i : Int) en b).1 := ⟨_, rfl⟩
  rw [← hls0] at hg2 hlen0
  rw [← hps0] at hg2
  have hls0l : ls0.length = m.links.length := hg2.at_.llen
  have Hls0 : Hid (ls0 = drain m s.ls i m.links.length) := hls0
  have Hps0 : Hid (ps0 = s.ps.set i (advP m (i : Int) en b).1) := hps0
  obtain ⟨i0, hi0, hi1, hi2, hi3⟩ := info_parts info_em
  have hz1 : w1.heap.size ≤ w2.heap.size := hpg2.kept.size
  clear hoe hV2 hls0 hps0 hrl2 hpg2 hvp2 hP1 hrl1 hN1 hp1 hln hlq h hp ha hrl0 htw hts htd hsr htim hs0 hs1 hse hql htl hil hS
  have hg2' : NGo w w2 nb m en ⟨ps0, send ls0 (out.take 0)⟩ V V2 := by rw [List.take_zero]; exact hg2
  go_wp2
  go_loopw [26] (fun s26 wr => ∃ (j : Nat) (V3 : NV), s26 = .int .i64 j ∧ j ≤ out.length ∧ NGo w wr nb m en ⟨ps0, send ls0 (out.take j)⟩ V V3 ∧ V3.ps[i]? = some p2 ∧ Own pclE wr w1.heap.size (.slice av out.length cv) out ∧ (∀ g, (Value.slice av out.length cv).ownBlock = some g → ¬ NF nb V3 g)) (fun s26 _ => out.length - (intOf s26).toNat)
  case atStart => exact ⟨0, V2, rfl, Nat.zero_le _, hg2', hp2, hO2, hvn2⟩
  case round =>
    clear hg2 hg2' hp2 hO2 hvn2
    obtain ⟨j, V3, rfl, hj, hg3, hp3, hO3, hvn3⟩ := hrel
    have hN3 := hg3.at_
    by_cases hlt : j < out.length
    · obtain ⟨x, hx⟩ := get_of_lt hlt
      have hxl := hlinks x (List.mem_of_getElem? hx)
      obtain ⟨g, cap', hg, _⟩ := Own.at_ hO3 hx
      simp only [Value.slice.injEq] at hg
      obtain ⟨rfl, -, -⟩ := hg
      have a0 : wr.cell? ⟨g, j * 6, none⟩ = some (.int .i64 x.it.t) := hO3.cell hx (k := 0) (u := .int .i64 x.it.t) rfl
      have a1 : wr.cell? ⟨g, j * 6 + 1, none⟩ = some (.int .i64 x.it.f) := hO3.cell hx (k := 1) (u := .int .i64 x.it.f) rfl
      have a2 : wr.cell? ⟨g, j * 6 + 2, none⟩ = some (.int .i64 x.it.s) := hO3.cell hx (k := 2) (u := .int .i64 x.it.s) rfl
      have a3 : wr.cell? ⟨g, j * 6 + 3, none⟩ = some (.int .i64 x.it.l) := hO3.cell hx (k := 3) (u := .int .i64 x.it.l) rfl
      have a4 : wr.cell? ⟨g, j * 6 + 4, none⟩ = some (.int .i64 x.kd) := hO3.cell hx (k := 4) (u := .int .i64 x.kd) rfl
      have a5 : wr.cell? ⟨g, j * 6 + 5, none⟩ = some (.int .i64 x.k) := hO3.cell hx (k := 5) (u := .int .i64 x.k) rfl
      have hlg : g < wr.heap.size := block_lt_of_cell a0
      have Htk : Hid (out.take (j + 1) = out.take j ++ [x]) := by show _ = _; rw [List.take_add_one, hx]; rfl
      obtain ⟨wx, hwx⟩ : ∃ wx, wx = wr.alloc (.cells #[.int .i64 x.it.t, .int .i64 x.it.f, .int .i64 x.it.s, .int .i64 x.it.l, .int .i64 x.kd, .int .i64 x.k] 141) := ⟨_, rfl⟩
      have Hwx : Hid (wx = wr.alloc (.cells #[.int .i64 x.it.t, .int .i64 x.it.f, .int .i64 x.it.s, .int .i64 x.it.l, .int .i64 x.kd, .int .i64 x.k] 141)) := hwx
      have hKx : KeptF (fun _ => False) wr wx := by rw [hwx]; exact (KeptF.refl _ wr).alloc _
      have hxb : Blk wx wr.heap.size #[.int .i64 x.it.t, .int .i64 x.it.f, .int .i64 x.it.s, .int .i64 x.it.l, .int .i64 x.kd, .int .i64 x.k] 141 := by rw [hwx]; exact heap_alloc_new wr _
      clear hwx
      have hgx := hg3.grow hKx
      have hNx := hgx.at_
      have hOx := hO3.keep hKx (fun _ _ e => e)
      obtain ⟨k, hk⟩ : ∃ k : Nat, k = x.k.toNat := ⟨_, rfl⟩
      have hkx : x.k = (k : Int) := by omega
      have hkl : k < m.links.length := by omega
      obtain ⟨vk, hvk⟩ := get_of_lt (d := V3.gv) (k := k) (by rw [hNx.glen]; exact hkl)
      have hOk := hNx.each k vk hvk
      obtain ⟨lk, hlk⟩ : ∃ lk, lk = (send ls0 (out.take j)).getD k [] := ⟨_, rfl⟩
      have Hlk : Hid (lk = (send ls0 (out.take j)).getD k []) := hlk
      rw [show (⟨ps0, send ls0 (out.take j)⟩ : NS).ls = send ls0 (out.take j) from rfl, ← hlk] at hOk
      have hlkn : lk.length ≤ 49000 := by
        rw [hlk, send_get (fun y hy => by have := hlinks y (List.mem_of_mem_take hy); rw [hls0l]; omega), List.length_append]
        have h1 := hlen0 k
        have h2 := List.length_filter_le (fun x : Pcl => decide (x.k.toNat = k)) (out.take j)
        rw [List.length_take] at h2
        omega
      obtain ⟨ak, ck, hvkf, hck⟩ := hOk.form'
      subst hvkf
      obtain ⟨n, hn⟩ : ∃ n, n = lk.length := ⟨_, rfl⟩
      have Hn : Hid (n = lk.length) := hn
      rw [← hn] at hck hOk hvk hlkn
      have hvnk := hNx.vn _ (List.mem_of_getElem? hvk)
      have nown : (Value.slice ak n ck).ownBlock ≠ some wr.heap.size := fun e => by
        have := ((hN3.each k _ hvk).lt e).2; omega
      have hgb : V3.gb ≠ wr.heap.size := fun e => by have := hN3.garr.lt; omega
      have hgn : V3.gb ≠ nb := fun e => hNx.ng e.symm
      have N7 := Sp.cell (b0 := V3.gb) (o0 := k) (own := (Value.slice ak n ck).ownBlock) (v := .slice (some ⟨V3.gb, 0, none⟩) m.links.length m.links.length) (show wx.cell? ⟨nb, 7, none⟩ = _ from hNx.blk.cell 7) hvnk.1 (fun e => hgn e.1.symm)
      have X0 := Sp.cell (b0 := V3.gb) (o0 := k) (own := (Value.slice ak n ck).ownBlock) (v := .int .i64 x.it.t) (hxb.cell 0) nown (fun e => hgb e.1.symm)
      have X1 := Sp.cell (b0 := V3.gb) (o0 := k) (own := (Value.slice ak n ck).ownBlock) (v := .int .i64 x.it.f) (hxb.cell 1) nown (fun e => hgb e.1.symm)
      have X2 := Sp.cell (b0 := V3.gb) (o0 := k) (own := (Value.slice ak n ck).ownBlock) (v := .int .i64 x.it.s) (hxb.cell 2) nown (fun e => hgb e.1.symm)
      have X3 := Sp.cell (b0 := V3.gb) (o0 := k) (own := (Value.slice ak n ck).ownBlock) (v := .int .i64 x.it.l) (hxb.cell 3) nown (fun e => hgb e.1.symm)
      have X4 := Sp.cell (b0 := V3.gb) (o0 := k) (own := (Value.slice ak n ck).ownBlock) (v := .int .i64 x.kd) (hxb.cell 4) nown (fun e => hgb e.1.symm)
      have X5 := Sp.cell (b0 := V3.gb) (o0 := k) (own := (Value.slice ak n ck).ownBlock) (v := .int .i64 (k : Int)) (by rw [← hkx]; exact hxb.cell 5) nown (fun e => hgb e.1.symm)
      have KG : wx.cell? ⟨V3.gb, k, none⟩ = some (.slice ak n ck) := by rw [hNx.garr.cell, List.getElem?_toArray, hvk]
      have hlnx := hNx.blk.lt
      have hlgx : V3.gb < wx.heap.size := hNx.garr.lt
      have hlxx := hxb.lt
      have hcc := newCells wx [.int .i64 x.it.t, .int .i64 x.it.f, .int .i64 x.it.s, .int .i64 x.it.l, .int .i64 x.kd, .int .i64 (k : Int)] 141
      have hWW : KeptF (fun _ => False) wx ((wx.alloc (.cells #[.int .i64 x.it.t, .int .i64 x.it.f, .int .i64 x.it.s, .int .i64 x.it.l, .int .i64 x.kd, .int .i64 (k : Int)] 141)).drew) := ((KeptF.refl _ wx).alloc _).drew
      have hWl := hWW.size
      have hone : ∀ u ∈ ([.int .i64 x.it.t, .int .i64 x.it.f, .int .i64 x.it.s, .int .i64 x.it.l, .int .i64 x.kd, .int .i64 (k : Int)] : List Value), u.oneCell' = true := by
        intro u hu
        simp only [List.mem_cons, List.not_mem_nil, or_false] at hu
        rcases hu with rfl | rfl | rfl | rfl | rfl | rfl <;> rfl
      have hown0 : ((wx.alloc (.cells #[.int .i64 x.it.t, .int .i64 x.it.f, .int .i64 x.it.s, .int .i64 x.it.l, .int .i64 x.kd, .int .i64 (k : Int)] 141)).drew).ownsRow V3.B 141 6 (.slice ak n ck) n (flat pclE lk) := by
        rw [Hn.out]; rw [Hn.out] at hOk; exact hOk.keep hWW (fun _ _ e => e)
      have Hvk : Hid (V3.gv[k]? = some (.slice ak n ck)) := hvk
      have hB3 : V3.B ≤ wx.heap.size := hNx.bsz
      have Hkx : Hid (x.k = (k : Int)) := hkx
      have hkl2 : (k : Int) < m.links.length := by omega
      clear hx hvk hn hlk hk hNx hkx
      go_upto_region 7 with fail
      rw [← Hwx.out]
      clear a0 a1 a2 a3 a4 a5
      refine wp_region_held_drew (S := (fun W => Sp wx V3.gb k (Value.slice ak n ck).ownBlock W)) (by kernel_rfl) ?_ (fun hHeld => ?_)
      · (try dsimp only)
        (first | assumption | exact Sp.drew (by assumption) | exact Sp.of_kept ((KeptF.refl _ _).drew) | exact Sp.of_kept (((KeptF.refl _ _).alloc _).drew) | exact Sp.set (by assumption) _)
      refine takeL 0 (v := ?_) rfl (by kernel_rfl) (by kernel_rfl) (by kernel_rfl) (fun _ _ _ h => h) (by rfl) ?_ (by assumption) ?_
      rotate_left
      · intro w hSw
        (try dsimp only at hSw)
        go_simp
        all_goals with_reducible rfl
      try simp only [Act.put, List.setIfInBounds_toArray, List.set_cons_zero, List.set_cons_succ]
      refine takeL 1 (v := ?_) rfl (by kernel_rfl) (by kernel_rfl) (by kernel_rfl) (fun _ _ _ h => h) (by rfl) ?_ (by assumption) ?_
      rotate_left
      · intro w hSw
        (try dsimp only at hSw)
        go_simp
        all_goals with_reducible rfl
      try simp only [Act.put, List.setIfInBounds_toArray, List.set_cons_zero, List.set_cons_succ]
      refine takeL 2 (v := ?_) rfl (by kernel_rfl) (by kernel_rfl) (by kernel_rfl) (fun _ _ _ h => h) (by rfl) ?_ (by assumption) ?_
      rotate_left
      · intro w hSw
        (try dsimp only at hSw)
        go_simp
        all_goals with_reducible rfl
      try simp only [Act.put, List.setIfInBounds_toArray, List.set_cons_zero, List.set_cons_succ]
      refine takeL 3 (v := ?_) rfl (by kernel_rfl) (by kernel_rfl) (by kernel_rfl) (fun _ _ _ h => h) (by rfl) ?_ (by assumption) ?_
      rotate_left
      · intro w hSw
        (try dsimp only at hSw)
        go_simp
        all_goals with_reducible rfl
      try simp only [Act.put, List.setIfInBounds_toArray, List.set_cons_zero, List.set_cons_succ]
      refine takeL 4 (v := ?_) rfl (by kernel_rfl) (by kernel_rfl) (by kernel_rfl) (fun _ _ _ h => h) (by rfl) ?_ (by assumption) ?_
      rotate_left
      · intro w hSw
        (try dsimp only at hSw)
        go_simp
        all_goals with_reducible rfl
      try simp only [Act.put, List.setIfInBounds_toArray, List.set_cons_zero, List.set_cons_succ]
      refine takeL 5 (v := ?_) rfl (by kernel_rfl) (by kernel_rfl) (by kernel_rfl) (fun _ _ _ h => h) (by rfl) ?_ (by assumption) ?_
      rotate_left
      · intro w hSw
        (try dsimp only at hSw)
        go_simp
        all_goals with_reducible rfl
      try simp only [Act.put, List.setIfInBounds_toArray, List.set_cons_zero, List.set_cons_succ]
      refine takeL 6 (v := ?_) rfl (by kernel_rfl) (by kernel_rfl) (by kernel_rfl) (fun _ _ _ h => h) (by rfl) ?_ (by assumption) ?_
      rotate_left
      · intro w hSw
        (try dsimp only at hSw)
        go_simp
        all_goals with_reducible rfl
      try simp only [Act.put, List.setIfInBounds_toArray, List.set_cons_zero, List.set_cons_succ]
      refine takeL 7 (v := ?_) rfl (by kernel_rfl) (by kernel_rfl) (by kernel_rfl) (fun _ _ _ h => h) (by rfl) ?_ (by assumption) ?_
      rotate_left
      · intro w hSw
        (try dsimp only at hSw)
        go_simp
        all_goals with_reducible rfl
      try simp only [Act.put, List.setIfInBounds_toArray, List.set_cons_zero, List.set_cons_succ]
      refine takeL 8 (v := ?_) rfl (by kernel_rfl) (by kernel_rfl) (by kernel_rfl) (fun _ _ _ h => h) (by rfl) ?_ (by assumption) ?_
      rotate_left
      · intro w hSw
        (try dsimp only at hSw)
        go_simp
        all_goals with_reducible rfl
      try simp only [Act.put, List.setIfInBounds_toArray, List.set_cons_zero, List.set_cons_succ]
      refine takeL 9 (v := ?_) rfl (by kernel_rfl) (by kernel_rfl) (by kernel_rfl) (fun _ _ _ h => h) (by rfl) ?_ (by assumption) ?_
      rotate_left
      · intro w hSw
        (try dsimp only at hSw)
        go_simp
        all_goals with_reducible rfl
      try simp only [Act.put, List.setIfInBounds_toArray, List.set_cons_zero, List.set_cons_succ]
      refine takeL 10 (v := ?_) rfl (by kernel_rfl) (by kernel_rfl) (by kernel_rfl) (fun _ _ _ h => h) (by rfl) ?_ (by assumption) ?_
      rotate_left
      · intro w hSw
        (try dsimp only at hSw)
        go_simp
        all_goals with_reducible rfl
      try simp only [Act.put, List.setIfInBounds_toArray, List.set_cons_zero, List.set_cons_succ]
      refine takeL 11 (v := ?_) rfl (by kernel_rfl) (by kernel_rfl) (by kernel_rfl) (fun _ _ _ h => h) (by rfl) ?_ (by assumption) ?_
      rotate_left
      · intro w hSw
        (try dsimp only at hSw)
        go_simp
        all_goals with_reducible rfl
      try simp only [Act.put, List.setIfInBounds_toArray, List.set_cons_zero, List.set_cons_succ]
      refine takeL 12 (v := ?_) rfl (by kernel_rfl) (by kernel_rfl) (by kernel_rfl) (fun _ _ _ h => h) (by rfl) ?_ (by assumption) ?_
      rotate_left
      · intro w hSw
        (try dsimp only at hSw)
        go_simp
        all_goals with_reducible rfl
      try simp only [Act.put, List.setIfInBounds_toArray, List.set_cons_zero, List.set_cons_succ]
      refine takeL 14 (v := ?_) rfl (by kernel_rfl) (by kernel_rfl) (by kernel_rfl) (fun _ _ _ h => h) (by rfl) ?_ (by assumption) ?_
      rotate_left
      · intro w hSw
        (try dsimp only at hSw)
        go_simp
        all_goals with_reducible rfl
      try simp only [Act.put, List.setIfInBounds_toArray, List.set_cons_zero, List.set_cons_succ]
      refine wpAnyH_ready (rs := [13, 15]) (by kernel_rfl) (by simp) ?_
      refine consL rfl (fun K hK => ?_) (consL rfl (fun K hK => ?_) AllReadyH.nil)
      go_simp
      refine hK.out _ _ ?_ (fun hHeld => ?_)
      · (try dsimp only)
        (first | assumption | exact Sp.drew (by assumption) | exact Sp.of_kept ((KeptF.refl _ _).drew) | exact Sp.of_kept (((KeptF.refl _ _).alloc _).drew) | exact Sp.set (by assumption) _)
      clear hK K
      try simp only [Act.put, List.setIfInBounds_toArray, List.set_cons_zero, List.set_cons_succ]
      refine wpAnyH_ready (rs := [15]) (by kernel_rfl) (by simp) ?_
      refine consL rfl (fun K hK => ?_) AllReadyH.nil
      go_simp
      refine hK.out _ _ ?_ (fun hHeld => ?_)
      · (try dsimp only)
        (first | assumption | exact Sp.drew (by assumption) | exact Sp.of_kept ((KeptF.refl _ _).drew) | exact Sp.of_kept (((KeptF.refl _ _).alloc _).drew) | exact Sp.set (by assumption) _)
      clear hK K
      try simp only [Act.put, List.setIfInBounds_toArray, List.set_cons_zero, List.set_cons_succ]
      refine wpAnyH_ready (rs := [16]) (by kernel_rfl) (by simp) ?_
      refine consL rfl (fun K hK => ?_) AllReadyH.nil
      refine step_append_own rfl (.tmp 43) (.tmp 45) 131 rfl V3.B 141 i0 _ 6 48 und_lks hi0 hi1 hi2 hi3 rfl (by decide) (.slice ak n ck) n (flat pclE lk) (by simp [Act.eval]) ?_ ⟨wx.heap.size, 0, none⟩ 1 1 [.int .i64 x.it.t, .int .i64 x.it.f, .int .i64 x.it.s, .int .i64 x.it.l, .int .i64 x.kd, .int .i64 (k : Int)] (by simp [Act.eval]) rfl ?_ ?_ ?_ ?_ ?_ ?_
      · exact hown0
      · exact hcc
      · exact hone
      · unfold maxLen; omega
      · omega
      · exact Nat.le_trans hB3 hWl
      intro v2 w2 hown2 hgr2 hfr2
      have hK2 : KeptF (fun r => (Value.slice ak n ck).ownBlock = some r) wx w2 := (hWW.weaken (fun _ _ e => e.elim)).trans (KeptF.of_grown hgr2 (fun k h _ => h))
      have hS2 : Sp wx V3.gb k (Value.slice ak n ck).ownBlock w2 := Sp.of_kept hK2
      have hO2 : Own pclE w2 V3.B v2 (lk ++ [x]) := by
        refine Own.snoc (x := x) ?_
        rw [← Hn.out]
        have e1 : pclE.enc x = [.int .i64 x.it.t, .int .i64 x.it.f, .int .i64 x.it.s, .int .i64 x.it.l, .int .i64 x.kd, .int .i64 (k : Int)] := by show pcC x = _; unfold pcC; rw [Hkx.out]
        rw [e1]; exact hown2
      have hgb2 := hgx.at_.garr.keep hK2 hvnk.2.1
      have hcgb : w2.cell? ⟨V3.gb, k, none⟩ = some (.slice ak n ck) := by rw [hgb2.cell, List.getElem?_toArray, Hvk.out]
      have hfgb : w2.frozen? ⟨V3.gb, k, none⟩ = false := hgb2.frozen _
      obtain ⟨ao2, cap2, hv2, hcap2⟩ := hO2.form'
      rw [List.length_append, ← Hn.out] at hv2
      have hv2 : v2 = .slice ao2 (n + 1) cap2 := hv2
      subst hv2
      refine hK.out _ _ ?_ (fun hHeld => ?_)
      · (try dsimp only)
        (first | assumption | exact Sp.drew (by assumption) | exact Sp.of_kept ((KeptF.refl _ _).drew) | exact Sp.of_kept (((KeptF.refl _ _).alloc _).drew) | exact Sp.set (by assumption) _)
      clear hK K
      try simp only [Act.put, List.setIfInBounds_toArray, List.set_cons_zero, List.set_cons_succ]
      refine takeL 17 (v := ?_) rfl (by kernel_rfl) (by kernel_rfl) (by kernel_rfl) (fun _ _ _ h => h) (by rfl) ?_ (by assumption) ?_
      rotate_left
      · intro w hSw
        (try dsimp only at hSw)
        go_simp
        all_goals with_reducible rfl
      try simp only [Act.put, List.setIfInBounds_toArray, List.set_cons_zero, List.set_cons_succ]
      refine wpAnyH_ready (rs := [18]) (by kernel_rfl) (by simp) ?_
      refine consL rfl (fun K hK => ?_) AllReadyH.nil
      go_simp
      refine hK.out _ _ ?_ (fun hHeld => ?_)
      · (try dsimp only)
        (first | assumption | exact Sp.drew (by assumption) | exact Sp.of_kept ((KeptF.refl _ _).drew) | exact Sp.of_kept (((KeptF.refl _ _).alloc _).drew) | exact Sp.set (by assumption) _)
      clear hK K
      try simp only [Act.put, List.setIfInBounds_toArray, List.set_cons_zero, List.set_cons_succ]
      refine wpAnyH_done (by kernel_rfl) ?_ _
      rotate_left 1
      go_simp
      refine hK.out _ _ ?_ (fun hHeld => ?_)
      · (try dsimp only)
        (first | assumption | exact Sp.drew (by assumption) | exact Sp.of_kept ((KeptF.refl _ _).drew) | exact Sp.of_kept (((KeptF.refl _ _).alloc _).drew) | exact Sp.set (by assumption) _)
      clear hK K
      try simp only [Act.put, List.setIfInBounds_toArray, List.set_cons_zero, List.set_cons_succ]
      refine wpAnyH_ready (rs := [13]) (by kernel_rfl) (by simp) ?_
      refine consL rfl (fun K hK => ?_) AllReadyH.nil
      go_simp
      refine hK.out _ _ ?_ (fun hHeld => ?_)
      · (try dsimp only)
        (first | assumption | exact Sp.drew (by assumption) | exact Sp.of_kept ((KeptF.refl _ _).drew) | exact Sp.of_kept (((KeptF.refl _ _).alloc _).drew) | exact Sp.set (by assumption) _)
      clear hK K
      try simp only [Act.put, List.setIfInBounds_toArray, List.set_cons_zero, List.set_cons_succ]
      refine wpAnyH_ready (rs := [16]) (by kernel_rfl) (by simp) ?_
      refine consL rfl (fun K hK => ?_) AllReadyH.nil
      refine step_append_own rfl (.tmp 43) (.tmp 45) 131 rfl V3.B 141 i0 _ 6 48 und_lks hi0 hi1 hi2 hi3 rfl (by decide) (.slice ak n ck) n (flat pclE lk) (by simp [Act.eval]) ?_ ⟨wx.heap.size, 0, none⟩ 1 1 [.int .i64 x.it.t, .int .i64 x.it.f, .int .i64 x.it.s, .int .i64 x.it.l, .int .i64 x.kd, .int .i64 (k : Int)] (by simp [Act.eval]) rfl ?_ ?_ ?_ ?_ ?_ ?_
      · exact hown0
      · exact hcc
      · exact hone
      · unfold maxLen; omega
      · omega
      · exact Nat.le_trans hB3 hWl
      intro v2 w2 hown2 hgr2 hfr2
      have hK2 : KeptF (fun r => (Value.slice ak n ck).ownBlock = some r) wx w2 := (hWW.weaken (fun _ _ e => e.elim)).trans (KeptF.of_grown hgr2 (fun k h _ => h))
      have hS2 : Sp wx V3.gb k (Value.slice ak n ck).ownBlock w2 := Sp.of_kept hK2
      have hO2 : Own pclE w2 V3.B v2 (lk ++ [x]) := by
        refine Own.snoc (x := x) ?_
        rw [← Hn.out]
        have e1 : pclE.enc x = [.int .i64 x.it.t, .int .i64 x.it.f, .int .i64 x.it.s, .int .i64 x.it.l, .int .i64 x.kd, .int .i64 (k : Int)] := by show pcC x = _; unfold pcC; rw [Hkx.out]
        rw [e1]; exact hown2
      have hgb2 := hgx.at_.garr.keep hK2 hvnk.2.1
      have hcgb : w2.cell? ⟨V3.gb, k, none⟩ = some (.slice ak n ck) := by rw [hgb2.cell, List.getElem?_toArray, Hvk.out]
      have hfgb : w2.frozen? ⟨V3.gb, k, none⟩ = false := hgb2.frozen _
      obtain ⟨ao2, cap2, hv2, hcap2⟩ := hO2.form'
      rw [List.length_append, ← Hn.out] at hv2
      have hv2 : v2 = .slice ao2 (n + 1) cap2 := hv2
      subst hv2
      refine hK.out _ _ ?_ (fun hHeld => ?_)
      · (try dsimp only)
        (first | assumption | exact Sp.drew (by assumption) | exact Sp.of_kept ((KeptF.refl _ _).drew) | exact Sp.of_kept (((KeptF.refl _ _).alloc _).drew) | exact Sp.set (by assumption) _)
      clear hK K
      try simp only [Act.put, List.setIfInBounds_toArray, List.set_cons_zero, List.set_cons_succ]
      refine takeL 17 (v := ?_) rfl (by kernel_rfl) (by kernel_rfl) (by kernel_rfl) (fun _ _ _ h => h) (by rfl) ?_ (by assumption) ?_
      rotate_left
      · intro w hSw
        (try dsimp only at hSw)
        go_simp
        all_goals with_reducible rfl
      try simp only [Act.put, List.setIfInBounds_toArray, List.set_cons_zero, List.set_cons_succ]
      refine wpAnyH_ready (rs := [18]) (by kernel_rfl) (by simp) ?_
      refine consL rfl (fun K hK => ?_) AllReadyH.nil
      go_simp
      refine hK.out _ _ ?_ (fun hHeld => ?_)
      · (try dsimp only)
        (first | assumption | exact Sp.drew (by assumption) | exact Sp.of_kept ((KeptF.refl _ _).drew) | exact Sp.of_kept (((KeptF.refl _ _).alloc _).drew) | exact Sp.set (by assumption) _)
      clear hK K
      try simp only [Act.put, List.setIfInBounds_toArray, List.set_cons_zero, List.set_cons_succ]
      refine wpAnyH_done (by kernel_rfl) ?_ _
      rotate_left 1
      all_goals
        have hng := hgx.at_.setLink (k := k) (v := .slice ak n ck) (v' := .slice ao2 (n + 1) cap2) (l' := lk ++ [x]) Hvk.out hK2 hO2 (fun r hr => by
          rcases hfr2 r hr with h1 | h1
          · exact .inl h1
          · exact .inr (Nat.le_trans hWl h1))
        have hngf := hgx.trans hng
        have hsf : (⟨(⟨ps0, send ls0 (out.take j)⟩ : NS).ps, (⟨ps0, send ls0 (out.take j)⟩ : NS).ls.set k (lk ++ [x])⟩ : NS) = ⟨ps0, send ls0 (out.take (j + 1))⟩ := by
          rw [Htk.out, send_append]
          show _ = (⟨ps0, send1 (send ls0 (out.take j)) x⟩ : NS)
          unfold send1
          rw [show x.k.toNat = k by rw [Hkx.out]; simp, ← Hlk.out]
        rw [hsf] at hngf
        have Hngf : Hid (NGo w (w2.setCell ⟨V3.gb, k, none⟩ (.slice ao2 (n + 1) cap2)) nb m en ⟨ps0, send ls0 (out.take (j + 1))⟩ V { V3 with gv := V3.gv.set k (.slice ao2 (n + 1) cap2) }) := hngf
        have hvl : (Value.slice (some ⟨g, 0, none⟩) out.length cv).ownBlock = some g := rfl
        have hO5 : Own pclE (w2.setCell ⟨V3.gb, k, none⟩ (.slice ao2 (n + 1) cap2)) w1.heap.size (.slice (some ⟨g, 0, none⟩) out.length cv) out := hOx.keep hng.kept (fun r hr hf => by
          have h1 := hvn3 r hr
          exact h1 hf)
        have hvn5 : ∀ r, (Value.slice (some ⟨g, 0, none⟩) out.length cv).ownBlock = some r → ¬ NF nb { V3 with gv := V3.gv.set k (.slice ao2 (n + 1) cap2) } r := fun r hr hf => by
          rcases hng.foot r hf with h1 | h1
          · exact hvn3 r hr h1
          · have := (hOx.lt hr).2; omega
        clear hngf hsf hng hown2 hgr2 hfr2 hown0 hcc hone hOx hgx hN3 hO3 hg3
        go_wp2
        go_roundw
        case rel => exact ⟨j + 1, _, by go_num, hlt, Hngf.out, hp3, hO5, hvn5⟩
        case measure => simp [intOf]; omega
    · have hje : j = out.length := by omega
      subst hje
      rw [List.take_of_length_le (Nat.le_refl _), Hoe.out, Hls0.out, Hps0.out] at hg3
      have hPp := hN3.procs.each p2 (List.mem_of_getElem? hp3)
      obtain ⟨ae, ce, hdv, hce⟩ := hPp.own.form'
      have c11 : wr.cell? ⟨p.qb, 11, none⟩ = some (.slice ae p2.dn.length ce) := by rw [← hq2, ← hdv]; exact hPp.cells.2.2.2
      rw [hdn2] at c11
      have hlq2 : p.qb < wr.heap.size := block_lt_of_cell c11
      have hbo : out.isEmpty = decide (out.length = 0) := by cases out <;> simp
      have htdo : (toDo en b).isEmpty = decide ((toDo en b).length = 0) := by cases toDo en b <;> simp
      have HB2 : Hid (goOnB m en s i = (bx || !decide (out.length = 0) || !decide ((toDo en b).length = 0))) := by
        show _ = _
        rw [HB.out, ← Hoe.out, hbo, htdo]
      clear hbo htdo hPp hdv hdn2 hN3 hO3 hvn3 hlen0
      have Hg3 : Hid (NGo w wr nb m en ⟨s.ps.set i (advP m (i : Int) en b).1, send (drain m s.ls i m.links.length) (advP m (i : Int) en b).2⟩ V V3) := hg3
      clear hg3
      cases bx with
      | true =>
        go_wp2
        all_goals
          go_ret
          refine ⟨?_, V3, Hg3.out, p2, hp3, hq2⟩
          rw [HB2.out]
          simp
      | false =>
        by_cases hno : out.length = 0
        · by_cases hnt : (toDo en b).length = 0
          · rw [hnt] at c11
            go_wp2
            all_goals
              go_ret
              refine ⟨?_, V3, Hg3.out, p2, hp3, hq2⟩
              rw [HB2.out, hno, hnt]
              have := Hab.out
              simp
              omega
          · go_wp2
            all_goals
              go_ret
              refine ⟨?_, V3, Hg3.out, p2, hp3, hq2⟩
              rw [HB2.out, hno]
              have := Hab.out
              simp [hnt]
              omega
        · go_wp2
          all_goals
            go_ret
            refine ⟨?_, V3, Hg3.out, p2, hp3, hq2⟩
            rw [HB2.out]
            simp [hno]
            try omega

end Go.Proofs.Ytkobkilfbbalaaa

namespace Go.Proofs.Ytkobkilfbbalaaa
open Go.RowKit Go.Sort Go.Maps

/-- what happens, and that it is little -/
structure Env (m : Mdl) (en : Int) (F : Nat → List It) (C : Nat → List Int) : Prop where
  hm : Right m
  hen0 : 0 ≤ en
  hen : en ≤ 200
  hF : Full m en F C
  pos : ∀ p, p < np m → ∀ x ∈ F p, 0 ≤ x.t
  tot : sumN ((List.range (np m)).map (fun p => (F p).length)) ≤ 300

theorem sumN_ge : ∀ {l : List Nat} {i x : Nat}, l[i]? = some x → x ≤ sumN l
  | [], i, x, h => by simp at h
  | y :: l, 0, x, h => by
    simp only [List.getElem?_cons_zero, Option.some.injEq] at h
    subst h; rw [sumN_cons]; omega
  | y :: l, i + 1, x, h => by
    simp only [List.getElem?_cons_succ] at h
    have := sumN_ge h
    rw [sumN_cons]; omega
theorem Env.len {m : Mdl} {en : Int} {F : Nat → List It} {C : Nat → List Int} (E : Env m en F C) : ∀ p, p < np m → (F p).length ≤ 300 := fun p hp => by
  have : ((List.range (np m)).map (fun p => (F p).length))[p]? = some (F p).length := by rw [List.getElem?_map, List.getElem?_range hp]; rfl
  have := sumN_ge this
  have := E.tot
  omega
theorem ems_len {m : Mdl} (hm : Right m) (q : Int) : ∀ (l : List It) (s : Int × Int) (i : Nat), (∀ x ∈ l, 0 ≤ x.t ∧ x.t < 200) → (emsFrom m q s i l).length ≤ 4 * l.length
  | [], _, _, _ => by simp [emsFrom]
  | x :: l, s, i, h => by
    have ih := ems_len hm q l (stepP m q s x) (i + 1) (fun y hy => h y (by simp [hy]))
    have hx := h x (by simp)
    have := (ruleOut_ok hm (num := q) (st := s.1) (sent := s.2) hx.1 hx.2).1
    simp only [emsFrom, List.length_append, List.length_map, List.length_cons]
    omega
theorem flat_len {α : Type} {f : Nat → List α} {g : Nat → Nat} : ∀ {n : Nat}, (∀ q, q < n → (f q).length ≤ 4 * g q) → ((List.range n).flatMap f).length ≤ 4 * sumN ((List.range n).map g)
  | 0, _ => by simp [sumN]
  | n + 1, h => by
    have ih := flat_len (n := n) (fun q hq => h q (by omega))
    have := h n (by omega)
    rw [List.range_succ, List.flatMap_append, List.map_append, sumN_append, List.length_append]
    simp only [List.flatMap_cons, List.flatMap_nil, List.append_nil, List.map_cons, List.map_nil, sumN_cons]
    omega
theorem run_sent {m : Mdl} (hm : Right m) (q : Int) : ∀ (l : List It) (s : Int × Int), (∀ x ∈ l, 0 ≤ x.t ∧ x.t < 200) → s.2 ≤ (l.foldl (stepP m q) s).2 ∧ (l.foldl (stepP m q) s).2 ≤ s.2 + 4 * (l.length : Int)
  | [], s, _ => by simp
  | x :: l, s, h => by
    have ih := run_sent hm q l (stepP m q s x) (fun y hy => h y (by simp [hy]))
    have hx := h x (by simp)
    have h1 := (ruleOut_ok hm (num := q) (st := s.1) (sent := s.2) hx.1 hx.2).1
    have h2 := ruleOut_len m q s.1 s.2 x
    have h3 : (stepP m q s x).2 = (ruleOut m q s.1 s.2 x).2.2 := rfl
    rw [List.foldl_cons]
    simp only [List.length_cons]
    omega

section
variable {m : Mdl} {en : Int} {F : Nat → List It} {C : Nat → List Int} {N : Nat → Nat} {s : NS}

theorem Env.cut_times (E : Env m en F C) {p : Nat} (hp : p < np m) : ∀ x ∈ cutI F N p, 0 ≤ x.t ∧ x.t < 200 := fun x hx => by
  have h1 : x ∈ F p := List.mem_of_mem_take hx
  have h2 := E.pos p hp x h1
  have h3 := E.hF.low p hp x h1
  have := E.hen
  omega
theorem Env.gen_len (E : Env m en F C) (N : Nat → Nat) : (genAll m (cutI F N)).length ≤ 1212 := by
  unfold genAll
  rw [List.length_append, List.length_mapIdx]
  have h1 := E.hm.lim.ns
  have h2 := flat_len (f := fun q : Nat => emsP m (q : Int) (cutI F N q)) (g := fun q => (cutI F N q).length) (n := np m) (fun q hq => ems_len E.hm _ _ _ _ (E.cut_times hq))
  have h3 := (sum_all (f := fun q => (cutI F N q).length) (g := fun q => (F q).length) (n := np m) (fun q _ => by show (cutI F N q).length ≤ _; unfold cutI; rw [List.length_take]; omega)).1
  have := E.tot
  omega
theorem NInv.waits_len (E : Env m en F C) (h : NInv m en F N s) {p : Nat} {a : NP} (hp : s.ps[p]? = some a) : a.dn.length + a.q.length + (msgs (inbox m s.ls p m.links.length)).length ≤ 1212 := by
  have hpn : p < np m := by rw [← h.lp]; exact get_lt hp
  have h1 := (h.pi p a hp).has.length_eq
  have h2 := E.gen_len N
  have h3 : (atP p (genE m en (cutI F N))).length ≤ (genAll m (cutI F N)).length := by
    unfold atP genE
    rw [List.length_map]
    exact Nat.le_trans (List.length_filter_le _ _) (List.length_filter_le _ _)
  have h4 := h.dn_len hp
  have h5 : (cutI F N p).length = N p := by
    unfold cutI; rw [List.length_take]; have := h.nle p hpn; omega
  rw [List.length_append, List.length_append] at h1
  unfold transit at h1
  omega

theorem sane_of (E : Env m en F C) (h : NInv m en F N s) (hr : rest en s ≤ 39000) {i : Nat} {a : NP} (hp : s.ps[i]? = some a) : Sane m en s i a := by
  have hpn : i < np m := by rw [← h.lp]; exact get_lt hp
  have h1 := h.deliver E.hm E.hen hp
  have hp1 : (⟨s.ps.set i (taken m s.ls i m.links.length a), drain m s.ls i m.links.length⟩ : NS).ps[i]? = some (taken m s.ls i m.links.length a) := List.getElem?_set_self (get_lt hp)
  have hP1 := h1.pi i _ hp1
  have hP := h.pi i a hp
  have hHz := h1.hzIs E.hm hp1
  obtain ⟨N', hW⟩ := h.went E.hm E.hen0 E.hen E.hF hp
  have hmine := hW.mine
  have hle := hW.inv.nle i hpn
  have h300 := E.len i hpn
  have hen := E.hen
  have hws : a.ws.length ≤ 12 := by
    have := congrArg List.length hP.wys
    rw [List.length_map, List.length_map] at this
    have h2 := ways0_length m (i : Int) m.links.length
    have := E.hm.lim.nl
    omega
  have hsent : a.sent = (runP m (i : Int) (cutI F N i)).2 := by rw [← hP.run]
  have hrs := run_sent E.hm (i : Int) (cutI F N i) (0, 0) (E.cut_times hpn)
  have hcl : (cutI F N i).length = N i := by unfold cutI; rw [List.length_take]; have := h.nle i hpn; omega
  have htd : ∀ x ∈ toDo en (taken m s.ls i m.links.length a), 0 ≤ x.t ∧ x.t < 200 := fun x hx => by
    have h2 := toDo_mem hx
    have h3 := hP1.tim x h2.1
    have := hHz.top
    omega
  refine ⟨?_, fun k x hx => ?_, fun k => ?_, hP1.tim, ?_, hHz.top, fun w hw => ?_, fun w hw => ?_, hws, ?_, ?_, ?_, ?_⟩
  · refine srtI_srt ((h1.uq hp1).sub ?_)
    exact (List.filter_sublist.trans (List.sublist_append_left _ _)).trans (List.sublist_append_left _ _)
  · have hk : k < m.links.length := by
      rcases Nat.lt_or_ge k m.links.length with h2 | h2
      · exact h2
      · rw [List.getD_eq_getElem?_getD, List.getElem?_eq_none (by rw [h.ll]; exact h2)] at hx
        simp at hx
    obtain ⟨z, hz⟩ := get_of_lt hk
    have hnl := E.hm.lim.nl
    obtain ⟨h2, h3⟩ := h.lnk k z hz x hx
    rcases h3 with h3 | h3 | h3
    · exact ⟨.inl h3.1, ⟨by omega, by omega⟩, fun _ => ⟨h3.2.1, by omega⟩⟩
    · exact ⟨.inr (.inl h3.1), ⟨by omega, by omega⟩, fun _ => ⟨h3.2.1, by omega⟩⟩
    · exact ⟨.inr (.inr h3.1), ⟨by omega, by omega⟩, fun e => absurd h3.1 e⟩
  · cases hk : s.ls[k]? with
    | none => rw [List.getD_eq_getElem?_getD, hk]; simp
    | some l =>
      rw [getD_some hk]
      have : (s.ls.map List.length)[k]? = some l.length := by rw [List.getElem?_map, hk]; rfl
      have := sumN_ge this
      unfold rest at hr
      omega
  · rcases hHz.one with e | ⟨k, hk⟩
    · rw [e]; exact E.hen0
    · exact (hP1.hrd k _ hk).2.2.1
  · obtain ⟨j, z, h2, _, h3, _⟩ := hP.ways hw
    have := get_lt h2
    omega
  · obtain ⟨j, z, h2, _, _, h3⟩ := hP.ways hw
    have := E.hm.link h2
    omega
  · rw [hsent]; unfold runP; exact hrs.1
  · rw [hsent]
    unfold runP
    have := hrs.2
    simp only at this
    omega
  · have := h.waits_len E hp; omega
  · rw [dA_all, List.length_append]
    have h2 := doAll_len m (i : Int) en E.hm (toDo en (taken m s.ls i m.links.length a)) (taken m s.ls i m.links.length a) htd
    have h3 := wyO_length en (hz en (taken m s.ls i m.links.length a).hr) (taken m s.ls i m.links.length a).ws
    have h4 : (taken m s.ls i m.links.length a).ws = a.ws := (takeAll_keep _ a).1
    rw [h4] at h3
    have h5 : (dA m (i : Int) en (taken m s.ls i m.links.length a) (toDo en (taken m s.ls i m.links.length a)).length).2 = (doAll m (i : Int) en (toDo en (taken m s.ls i m.links.length a)) (taken m s.ls i m.links.length a, [])).2 := by unfold dA; rw [List.take_length]
    rw [h5, h4]
    omega

theorem sumN_le {c : Nat} : ∀ {l : List Nat}, (∀ x ∈ l, x ≤ c) → sumN l ≤ c * l.length
  | [], _ => by simp [sumN]
  | x :: l, h => by
    have := sumN_le (l := l) (fun y hy => h y (by simp [hy]))
    have := h x (by simp)
    rw [sumN_cons, List.length_cons, Nat.mul_add]
    omega
theorem rest_open (hm : Right m) (hen0 : 0 ≤ en) (hen : en ≤ 200) : rest en (openN m) ≤ 39000 := by
  have hnp : np m ≤ 6 := by have := hm.lim.p2; unfold np; omega
  have hnl := hm.lim.nl
  have h2 : ∀ p, npR en (openP m p) ≤ 6324 := fun p => by
    unfold npR
    have h3 : sumN ((openP m p).ws.map (wyR en)) ≤ 201 * ((openP m p).ws.map (wyR en)).length := sumN_le (fun x hx => by
      obtain ⟨w, hw, rfl⟩ := List.mem_map.1 hx
      obtain ⟨_, _, _, _, _, _, _, h4⟩ := ways0_mem (show w ∈ ways0 m (p : Int) m.links.length from hw)
      unfold wyR
      omega)
    have h4 := ways0_length m (p : Int) m.links.length
    rw [List.length_map] at h3
    have h5 : (openP m p).ws.length = (ways0 m (p : Int) m.links.length).length := rfl
    have h6 : (openP m p).dn.length = 0 := rfl
    omega
  have h1 : sumN ((openN m).ps.map (npR en)) ≤ 6324 * ((openN m).ps.map (npR en)).length := sumN_le (fun x hx => by
    obtain ⟨a, ha, rfl⟩ := List.mem_map.1 hx
    obtain ⟨p, _, rfl⟩ := List.mem_map.1 (show a ∈ (List.range (np m)).map (openP m) from ha)
    exact h2 p)
  have h3 : ((openN m).ps.map (npR en)).length = np m := by simp [openN]
  have h4 : sumN ((openN m).ls.map List.length) ≤ 0 * ((openN m).ls.map List.length).length := sumN_le (fun x hx => by
    obtain ⟨l, hl, rfl⟩ := List.mem_map.1 hx
    rw [(List.mem_replicate.1 (show l ∈ List.replicate m.links.length ([] : List Pcl) from hl)).2]
    simp)
  unfold rest
  rw [h3] at h1
  omega

/-- a state that steps lead to -/
def Good (m : Mdl) (en : Int) (F : Nat → List It) (N : Nat → Nat) (s : NS) : Prop := NInv m en F N s ∧ rest en s ≤ 39000
theorem good_open (E : Env m en F C) : Good m en F (fun _ => 0) (openN m) := ⟨ninv_open E.hm E.hen0 E.pos, rest_open E.hm E.hen0 E.hen⟩
theorem rest_itr (E : Env m en F C) {p : Nat} : ∀ (k : Nat) {N : Nat → Nat} {s : NS}, NInv m en F N s → p < np m → (∀ i, i < k → goOnB m en (itr m en p i s) p = true) → rest en (itr m en p k s) + k ≤ rest en s
  | 0, _, _, _, _, _ => Nat.le_refl _
  | k + 1, N, s, h, hp, hB => by
    obtain ⟨a, ha⟩ := get_of_lt (d := s.ps) (k := p) (by rw [h.lp]; exact hp)
    obtain ⟨N1, hW⟩ := h.went E.hm E.hen0 E.hen E.hF ha
    have h1 := rest_itr E k hW.inv hp (fun i hi => hB (i + 1) (by omega))
    have h2 := rest_falls E.hm E.hen0 E.hen E.hF E.len h (hB 0 (by omega))
    have h3 : itr m en p 0 s = s := rfl
    show rest en (itr m en p k (goOn m en s p)) + (k + 1) ≤ rest en s
    omega
theorem Good.stepped (E : Env m en F C) (h : Good m en F N s) {p : Nat} (hp : p < np m) {s' : NS} {b : Bool} (hs : Stepped m en s s' p b) : ∃ N', Moved m en F N N' s s' p ∧ Good m en F N' s' := by
  obtain ⟨N', hM⟩ := h.1.stepped E.hm E.hen0 E.hen E.hF hp hs
  obtain ⟨k, hB, _, rfl, _⟩ := hs
  have := rest_itr E k h.1 hp hB
  exact ⟨N', hM, hM.inv, by have := h.2; omega⟩

end

end Go.Proofs.Ytkobkilfbbalaaa

namespace Go.Proofs.Ytkobkilfbbalaaa
open Go.RowKit Go.Sort Go.Maps

/-- rows that are read, in a block from lo on -/
def RowsIn {α : Type} (sz : Nat) (enc : α → List Value) (lo : Nat) (w : World) (v : Value) (l : List α) : Prop :=
  ∃ ao cap, v = .slice ao l.length cap ∧ l.length ≤ cap ∧ (l ≠ [] → ∃ b off, ao = some ⟨b, off, none⟩ ∧ lo ≤ b ∧ b < w.heap.size ∧ ∀ (j : Nat) (x : α) (k : Nat) (u : Value), l[j]? = some x → (enc x)[k]? = some u → w.cell? ⟨b, off + j * sz + k, none⟩ = some u)

theorem RowsIn.keep {α : Type} {sz : Nat} {enc : α → List Value} {lo : Nat} {w w' : World} {v : Value} {l : List α} {F : Nat → Prop} (h : RowsIn sz enc lo w v l) (k : KeptF F w w') (hF : ∀ i, F i → i < lo) : RowsIn sz enc lo w' v l := by
  obtain ⟨ao, cap, h1, h2, h3⟩ := h
  refine ⟨ao, cap, h1, h2, fun hne => ?_⟩
  obtain ⟨b, off, h4, h5, h6, h7⟩ := h3 hne
  exact ⟨b, off, h4, h5, Nat.lt_of_lt_of_le h6 k.size, fun j x k' u hx hu => by rw [k.cell (p := ⟨b, _, none⟩) h6 (fun hf => by have := hF b hf; omega)]; exact h7 j x k' u hx hu⟩
theorem RowsIn.mono {α : Type} {sz : Nat} {enc : α → List Value} {lo lo' : Nat} {w : World} {v : Value} {l : List α} (h : RowsIn sz enc lo w v l) (hl : lo' ≤ lo) : RowsIn sz enc lo' w v l := by
  obtain ⟨ao, cap, h1, h2, h3⟩ := h
  refine ⟨ao, cap, h1, h2, fun hne => ?_⟩
  obtain ⟨b, off, h4, h5, h6, h7⟩ := h3 hne
  exact ⟨b, off, h4, by omega, h6, h7⟩
theorem RowsIn.at {α : Type} {sz : Nat} {enc : α → List Value} {lo : Nat} {w : World} {v : Value} {l : List α} (h : RowsIn sz enc lo w v l) : RowsAt sz enc w w.heap.size v l := by
  obtain ⟨ao, cap, h1, h2, h3⟩ := h
  refine ⟨ao, cap, h1, h2, fun hne => ?_⟩
  obtain ⟨b, off, h4, h5, h6, h7⟩ := h3 hne
  exact ⟨b, off, h4, h6, h7⟩
theorem Own.rowsIn {α : Type} {E : Enc α} {w : World} {B g len cap : Nat} {l : List α} (h : Own E w B (.slice (some ⟨g, 0, none⟩) len cap) l) (c : Nat) (hc : l.length ≤ c) : RowsIn E.sz E.enc B w (.slice (some ⟨g, 0, none⟩) l.length c) l := by
  refine ⟨_, _, rfl, hc, fun hne => ⟨g, 0, rfl, (h.lt rfl).1, (h.lt rfl).2, fun j x k u hx hu => ?_⟩⟩
  rw [Nat.zero_add]
  exact h.cell hx hu
theorem RowsIn.none {α : Type} (sz : Nat) (enc : α → List Value) (lo : Nat) (w : World) (ao : Option Addr) (cap : Nat) : RowsIn sz enc lo w (.slice ao 0 cap) [] := ⟨ao, cap, rfl, Nat.zero_le _, fun h => absurd rfl h⟩

/-- all of a row of one's own is appended to another one -/
theorem wpList_append_all {P : Program} {w : World} {ops : Array Oper} {rest : List Oper} {o : Oper} {a : Act} {Q : Exit → Act → World → Prop} (hgd : o.guard = none) (s x : Operand) (t : TypeId)
    (ho : o.op = .call { callee := .builtin .append, args := #[s, x], argTypes := #[t, t] }) {α : Type} (E : Enc α)
    (base : Nat) (i : TypeInfo) (z : Value) (bytes : Nat) (ht : P.underlying t = some (.slice E.T)) (hi : P.info? E.T = some i) (hz : i.zero = some z)
    (hsize : i.size = E.sz) (hby : i.bytes = bytes) (hzs : z.cells.size = E.sz)
    (v xv : Value) (l : List α) (B : Nat) (hs : a.eval s = v) (hown : Own E w base v []) (hx : a.eval x = xv) (hsrc : Own E w B xv l)
    (h63 : l.length ≤ maxLen) (hbytes : l.length * bytes ≤ 140737488355328) (hbase : base ≤ w.heap.size)
    (h : ∀ v' w', Own E w' base v' l → w.grownBy w' v.ownBlock → wpList P ops Q rest (a.put o.dst v') w') : wpList P ops Q (o :: rest) a w :=
  wpList_plain hgd fun _ hK => by
    rcases hsrc.form with ⟨hv, hl⟩ | ⟨g, cap, hv, hcap⟩
    · have hr := run_append_owned_none (P := P) w base t o.type E.T i E.sz ht hi v 0 [] hown
      subst hv hl
      unfold Oper.wp execOp
      simp only [ho, resolve, invoke, builtin, Sem.run_bind, Sem.run_pure, Result.andThen_ok, List.map_toArray, List.map_cons, List.map_nil, hs, hx, hr]
      exact hK _ _ (h v w hown ⟨rfl, rfl, rfl, Nat.le_refl _, fun _ _ _ => rfl⟩)
    · subst hv
      have hc := hsrc.takeCells l.length (Nat.le_refl _)
      rw [List.take_length] at hc
      obtain ⟨v', w', hr, r1, r2, r3⟩ := run_append_ownX (P := P) w base t o.type E.T i z E.sz bytes ht hi hz hsize hby hzs E.pos v 0 [] hown ⟨g, 0, none⟩ l.length cap (flat E l) (flat_length E l) hc (flat_one E l) (by omega) (by rw [Nat.zero_add]; exact hbytes) hbase
      unfold Oper.wp execOp
      simp only [ho, resolve, invoke, builtin, Sem.run_bind, Sem.run_pure, Result.andThen_ok, List.map_toArray, List.map_cons, List.map_nil, hs, hx, hr]
      refine hK _ _ (h v' w' ?_ r2)
      unfold Own
      rw [Nat.zero_add, List.nil_append] at r1
      exact r1

set_option maxRecDepth 100000 in
set_option maxHeartbeats 2000000 in
theorem told_any (w : World) (B : Nat) (p : Pr) (h : PAt w B p) (hl : p.dn.length ≤ 5000) :
    Calls Try.prog 40 #[.pointer (some ⟨p.qb, 0, none⟩)] w fun e w' => ∃ ao cap, e = .returned (.slice ao p.dn.length cap) ∧ Below w.heap.size w w' ∧ RowsIn 5 dnC w.heap.size w' (.slice ao p.dn.length cap) p.dn := by
  obtain ⟨aod, capd, hdvf, hcapd⟩ := h.own.form'
  have c8 : w.cell? ⟨p.qb, 11, none⟩ = some (.slice aod p.dn.length capd) := by rw [← hdvf]; exact h.cells.2.2.2
  obtain ⟨j0, hj0, hy0, hy1, hy2⟩ := info_parts info_dp
  have hlq := h.core.blk.lt
  have hown0 : Own dpE (w.alloc (.cells #[] 113)) w.heap.size (.slice (some ⟨w.heap.size, 0, none⟩) 0 0) [] := Own.madeNil dpE w w.heap.size 0 #[] (Nat.le_refl _) (Nat.zero_le _) rfl
  have hsrc : Own dpE (w.alloc (.cells #[] 113)) B (.slice aod p.dn.length capd) p.dn := by
    rw [← hdvf]
    exact h.own.keep ((KeptF.refl (fun _ => False) w).alloc _) (fun _ _ e => e)
  have hb0 : Below w.heap.size w (w.alloc (.cells #[] 113)) := (Below.refl _ _).alloc (Nat.le_refl _) _
  clear hdvf
  go_enter Try.func40, Try.ntmps40
  go_wp2_with (at_builtin; refine wpList_append_all rfl (.tmp 9) (.tmp 13) 62 rfl dpE w.heap.size j0 _ 40 Try.underlying62 hj0 hy0 hy1 hy2 rfl (.slice (some ⟨w.heap.size, 0, none⟩) 0 0) (.slice aod p.dn.length capd) p.dn B rfl ?own rfl ?src ?b1 ?b2 ?hb ?k)
  case own => exact hown0
  case src => exact hsrc
  case b1 => unfold maxLen; omega
  case b2 => omega
  case hb => exact hb0.size
  case k =>
    intro v2 w2 hO2 hgr2
    have hb2 : Below w.heap.size w w2 := hb0.trans (KeptF.below (F := fun i => i = w.heap.size) (KeptF.of_grown hgr2 (fun k e _ => by simp [Value.ownBlock] at e; exact e.symm)) hb0.size (fun i hi => by omega))
    rcases hO2.form with ⟨hv, hn⟩ | ⟨g, cap, hv, hcap⟩
    · subst hv
      have hn0 : p.dn.length = 0 := by rw [hn]; rfl
      have Hn : Hid (p.dn = []) := hn
      rw [hn0]
      clear hn hn0
      go_wp2
      go_ret
      rw [Hn.out]
      exact ⟨none, 0, rfl, hb2, RowsIn.none _ _ _ _ _ _⟩
    · subst hv
      clear hown0 hsrc hgr2 c8
      have hrow := hO2.rowsIn p.dn.length (Nat.le_refl _)
      go_wp2
      go_ret
      exact ⟨_, _, rfl, hb2, hrow⟩

end Go.Proofs.Ytkobkilfbbalaaa

namespace Go.Proofs.Ytkobkilfbbalaaa
open Go.RowKit Go.Sort Go.Maps

set_option maxRecDepth 100000 in
set_option maxHeartbeats 2000000 in
theorem has_any (w : World) (nb : Nat) (m : Mdl) (en : Int) (s : NS) (V : NV) (x : Int) (h : NetAt w nb m en s V) (hm : Right m) :
    Calls Try.prog 38 #[.pointer (some ⟨nb, 0, none⟩), .int .i64 x] w fun e w' => e = .returned (.bool (isP m x)) ∧ Below w.heap.size w w' := by
  have n0 : w.cell? ⟨nb, 0, none⟩ = some (.int .i64 m.procs) := h.blk.cell 0
  have n1 : w.cell? ⟨nb, 1, none⟩ = some (.int .i64 m.states) := h.blk.cell 1
  have n2 : w.cell? ⟨nb, 2, none⟩ = some (.int .i64 m.loads) := h.blk.cell 2
  have n3 : w.cell? ⟨nb, 3, none⟩ = some V.lv := h.blk.cell 3
  have n4 : w.cell? ⟨nb, 4, none⟩ = some V.rv := h.blk.cell 4
  have n5 : w.cell? ⟨nb, 5, none⟩ = some (.slice none 0 0) := h.blk.cell 5
  have hl := h.blk.lt
  have hp := isProc_any m hm.lim V.lv V.rv (.slice none 0 0) x w
  go_enter Try.func38, Try.ntmps38
  go_wp2_with fail
  refine hp.mono ?_
  rintro e1 w1 ⟨rfl, hb⟩
  clear hp
  go_wp2
  all_goals
    go_ret
    exact ⟨rfl, hb⟩

theorem isP_iff {m : Mdl} {x : Int} : isP m x = true ↔ 0 ≤ x ∧ x < m.procs := by
  unfold isP withinB
  simp only [Bool.and_eq_true, decide_eq_true_eq]
  omega

set_option maxRecDepth 100000 in
set_option maxHeartbeats 4000000 in
theorem step_any (w : World) (nb : Nat) (m : Mdl) (en : Int) (F : Nat → List It) (C : Nat → List Int) (N : Nat → Nat) (s : NS) (V : NV) (x : Int) (E : Env m en F C) (h : NetAt w nb m en s V) (hG : Good m en F N s) :
    Calls Try.prog 19 #[.pointer (some ⟨nb, 0, none⟩), .int .i64 x] w fun e w' => ∃ (b : Bool) (s' : NS) (V' : NV), e = .returned (.bool b) ∧ NGo w w' nb m en s' V V' ∧ ((isP m x = false ∧ b = false ∧ s' = s) ∨ (0 ≤ x ∧ x < m.procs ∧ Stepped m en s s' x.toNat b)) := by
  have hhas := has_any w nb m en s V x h E.hm
  have hl := h.blk.lt
  have hp1 := E.hm.lim.p1
  have hp2 := E.hm.lim.p2
  cases hx : isP m x with
  | false =>
    rw [hx] at hhas
    go_enter Try.func19, Try.ntmps19
    go_wp2_with fail
    refine hhas.mono ?_
    rintro e1 w1 ⟨rfl, hb⟩
    clear hhas
    go_wp2
    go_ret
    exact ⟨false, s, V, rfl, (NGo.refl h).grow (kept_of_below' hb), .inl ⟨trivial, rfl, rfl⟩⟩
  | true =>
    rw [hx] at hhas
    obtain ⟨hx0, hx1⟩ := isP_iff.1 hx
    obtain ⟨i, hi⟩ : ∃ i : Nat, x = (i : Int) := ⟨x.toNat, by omega⟩
    subst hi
    have hin : i < np m := by unfold np; omega
    go_enter Try.func19, Try.ntmps19
    go_wp2_with fail
    refine hhas.mono ?_
    rintro e1 w1 ⟨rfl, hb⟩
    clear hhas hx
    have hg1 := (NGo.refl h).grow (kept_of_below' hb)
    go_wp2
    go_loopg [5] (rest en s + 1) (fun gk s5 wr => ∃ (k : Nat) (V' : NV) (N' : Nat → Nat), s5 = .bool (decide (0 < k)) ∧ NGo w wr nb m en (itr m en i k s) V V' ∧ (∀ j, j < k → goOnB m en (itr m en i j s) i = true) ∧ NInv m en F N' (itr m en i k s) ∧ rest en (itr m en i k s) < gk)
    case atStart => exact ⟨0, V, N, rfl, hg1, fun j hj => by omega, hG.1, Nat.lt_succ_self _⟩
    case round =>
      clear hg1
      obtain ⟨k, V', N', rfl, hg, hB, hI, hrk⟩ := hrel
      have hN := hg.at_
      obtain ⟨p, hp⟩ := get_of_lt (d := V'.ps) (k := i) (by rw [hN.plen]; exact hin)
      obtain ⟨a, ha⟩ := get_of_lt (d := (itr m en i k s).ps) (k := i) (by rw [hN.slen]; exact hin)
      have hrs := rest_itr E k hG.1 hin hB
      have hsane := sane_of E hI (by have := hG.2; omega) ha
      have hgo := goOn_any wr nb m en (itr m en i k s) V' i p a hN E.hm E.hen0 E.hen hp ha hsane
      have c6 : wr.cell? ⟨nb, 6, none⟩ = some (.slice (some ⟨V'.pb, 0, none⟩) (np m) (np m)) := hN.blk.cell 6
      have cp := hN.procs.cell hp
      have hln := hN.blk.lt
      have hlp := hN.procs.arr.lt
      have hil : (i : Int) < (np m : Int) := by omega
      obtain ⟨N1, hW⟩ := hI.went E.hm E.hen0 E.hen E.hF ha
      cases hgb : goOnB m en (itr m en i k s) i with
      | false =>
        rw [hgb] at hgo
        have Hst : Hid (Stepped m en s (itr m en i k s) i (decide (0 < k))) := ⟨k, hB, hgb, rfl, rfl⟩
        have hsame := calm_same hgb
        rw [hsame] at hgo
        clear hgb hsame hW
        go_wp2_with fail
        refine hgo.mono ?_
        rintro e2 w2 ⟨rfl, V2, hg2, _⟩
        clear hgo c6 cp
        go_wp2
        go_ret
        exact ⟨_, _, V2, rfl, hg.trans hg2, .inr ⟨hx0, hx1, by simpa using Hst.out⟩⟩
      | true =>
        rw [hgb] at hgo
        have hfall := rest_falls E.hm E.hen0 E.hen E.hF E.len hI hgb
        have Hgb : Hid (goOnB m en (itr m en i k s) i = true) := hgb
        rw [← itr_succ] at hgo hfall
        have hW1 := hW.inv
        rw [← itr_succ] at hW1
        clear hgb hW
        go_wp2_with fail
        refine hgo.mono ?_
        rintro e2 w2 ⟨rfl, V2, hg2, _⟩
        clear hgo c6 cp
        go_wp2
        go_roundg (rest en (itr m en i (k + 1) s) + 1)
        case measure => omega
        case rel =>
          refine ⟨k + 1, V2, N1, by simp, hg.trans hg2, fun j hj => ?_, hW1, Nat.lt_succ_self _⟩
          by_cases e : j = k
          · subst e; exact Hgb.out
          · exact hB j (by omega)

set_option maxRecDepth 100000 in
set_option maxHeartbeats 4000000 in
theorem see_any (w : World) (nb : Nat) (m : Mdl) (en : Int) (s : NS) (V : NV) (x : Int) (h : NetAt w nb m en s V) (hm : Right m) (hdl : ∀ (i : Nat) (a : NP), s.ps[i]? = some a → a.dn.length ≤ 5000) :
    Calls Try.prog 20 #[.pointer (some ⟨nb, 0, none⟩), .int .i64 x] w fun e w' => Below w.heap.size w w' ∧ ((isP m x = false ∧ e = .returned (.tuple #[.int .i64 0, .slice none 0 0])) ∨ (0 ≤ x ∧ x < m.procs ∧ ∃ (a : NP) (ao : Option Addr) (cap : Nat), s.ps[x.toNat]? = some a ∧ e = .returned (.tuple #[.int .i64 a.st, .slice ao a.dn.length cap]) ∧ RowsIn 5 dnC w.heap.size w' (.slice ao a.dn.length cap) a.dn)) := by
  have hhas := has_any w nb m en s V x h hm
  have hl := h.blk.lt
  have hp1 := hm.lim.p1
  have hp2 := hm.lim.p2
  cases hx : isP m x with
  | false =>
    rw [hx] at hhas
    go_enter Try.func20, Try.ntmps20
    go_wp2_with fail
    refine hhas.mono ?_
    rintro e1 w1 ⟨rfl, hb⟩
    clear hhas
    go_wp2
    go_ret2
    exact ⟨hb, .inl ⟨trivial, rfl⟩⟩
  | true =>
    rw [hx] at hhas
    obtain ⟨hx0, hx1⟩ := isP_iff.1 hx
    obtain ⟨i, hi⟩ : ∃ i : Nat, x = (i : Int) := ⟨x.toNat, by omega⟩
    subst hi
    have hin : i < np m := by unfold np; omega
    obtain ⟨p, hp⟩ := get_of_lt (d := V.ps) (k := i) (by rw [h.plen]; exact hin)
    obtain ⟨a, ha⟩ := get_of_lt (d := s.ps) (k := i) (by rw [h.slen]; exact hin)
    have hrl := h.rel i p a hp ha
    go_enter Try.func20, Try.ntmps20
    go_wp2_with fail
    refine hhas.mono ?_
    rintro e1 w1 ⟨rfl, hb⟩
    clear hhas hx
    have hN := h.grow (kept_of_below' hb)
    have hPp := hN.procs.each p (List.mem_of_getElem? hp)
    have c6 : w1.cell? ⟨nb, 6, none⟩ = some (.slice (some ⟨V.pb, 0, none⟩) (np m) (np m)) := hN.blk.cell 6
    have cp := hN.procs.cell hp
    have c9 := hPp.cells.2.1
    rw [hrl.st] at c9
    have hln := hN.blk.lt
    have hlp := hN.procs.arr.lt
    have hlq := hPp.core.blk.lt
    have hil : (i : Int) < (np m : Int) := by omega
    have htold := told_any w1.drew V.B p (hPp.keep (KeptF.drew (KeptF.refl (fun _ => False) w1)) (fun _ _ e => e)) (by rw [hrl.dn]; exact hdl i a ha)
    rw [hrl.dn] at htold
    have Ha : Hid (s.ps[i]? = some a) := ha
    clear hp ha
    go_wp2
    go_region_held3 (fun W => W.cell? ⟨nb, 6, none⟩ = some (.slice (some ⟨V.pb, 0, none⟩) (np m) (np m)) ∧ W.cell? ⟨V.pb, i, none⟩ = some (.pointer (some ⟨p.qb, 0, none⟩)) ∧ W.cell? ⟨p.qb, 9, none⟩ = some (.int .i64 a.st)) (first | assumption | exact ⟨c6, cp, c9⟩ | exact ⟨d6, dp, d9⟩) ((refine htold.mono ?_; rintro e3 w3 ⟨ao, cap, rfl, hb3, hr3⟩; have d6 := (hb3.cell (p := ⟨nb, 6, none⟩) hln).trans c6; have dp := (hb3.cell (p := ⟨V.pb, i, none⟩) hlp).trans cp; have d9 := (hb3.cell (p := ⟨p.qb, 9, none⟩) hlq).trans c9))
    all_goals
      go_wp2
      go_ret2
      refine ⟨?_, .inr ⟨hx0, hx1, a, ao, cap, by simpa using Ha.out, rfl, ?_⟩⟩
      · have b1 : Below w.heap.size w1 w1.drew := ⟨rfl, rfl, rfl, Nat.le_refl _, fun _ _ => rfl⟩
        exact hb.trans (b1.trans (hb3.mono hb.size))
      · exact hr3.mono hb.size

end Go.Proofs.Ytkobkilfbbalaaa

namespace Go.Proofs.Ytkobkilfbbalaaa
open Go.RowKit Go.Sort Go.Maps

theorem eql_slice {P : Program} {t e : TypeId} (ht : P.underlying t = some (.slice e)) (w : World) (ao : Option Addr) (n c : Nat) : (binOp .eql t (.slice ao n c) (.slice none 0 0)).run P w = .ok (.bool ao.isNone) w := by
  have h : ∀ d : Nat, (Op.equalIn (d + 1) t (.slice ao n c) (.slice none 0 0)).run P w = .ok ao.isNone w := fun d => by
    cases ao <;> simp [Op.equalIn, run_underlying ht]
  simp only [binOp]
  simp [Op.equal, Op.maxDepth, h 9999]

theorem RowsAt.flatC {α : Type} {E : Enc α} {w : World} {B : Nat} {a : Addr} {len cap : Nat} {l : List α} (h : RowsAt E.sz E.enc w B (.slice (some a) len cap) l) : ∀ o u, (flat E l)[o]? = some u → w.cell? (a.add o) = some u := by
  intro o u hu
  have ho := get_lt hu
  rw [flat_length] at ho
  have hpos := E.pos
  have hj : o / E.sz < l.length := Nat.div_lt_of_lt_mul (by rw [Nat.mul_comm]; exact ho)
  obtain ⟨x, hx⟩ := get_of_lt hj
  have hk : o % E.sz < E.sz := Nat.mod_lt _ hpos
  have e : o / E.sz * E.sz + o % E.sz = o := by rw [Nat.mul_comm]; exact Nat.div_add_mod o E.sz
  have h1 := flat_get E l (o / E.sz) x (o % E.sz) hx hk
  rw [e, hu] at h1
  obtain ⟨b, off, hao, _, hc⟩ := RowsAt.at_ h hx
  simp only [Option.some.injEq] at hao
  subst hao
  have h2 := hc (o % E.sz) u h1.symm
  rw [Nat.add_assoc, e] at h2
  unfold Addr.add
  split
  · rename_i e0
    subst e0
    simpa using h2
  · exact h2

theorem und_lk : Try.prog.underlying 27 = some (.slice 78) := by kernel_rfl
set_option maxRecDepth 100000 in
set_option maxHeartbeats 2000000 in
theorem clone_lk (w : World) (Bm : Nat) (v : Value) (l : List MLink) (h : RowsAt lkE.sz lkE.enc w Bm v l) (hBm : Bm ≤ w.heap.size) (hl : l.length ≤ 1000) :
    Calls Try.prog 89 #[v] w fun e w' => ∃ v' : Value, e = .returned v' ∧ Own lkE w' w.heap.size v' l ∧ Below w.heap.size w w' := by
  obtain ⟨ao, cap, hv, hcap⟩ := RowsAt.form h
  subst hv
  have heq := fun W => eql_slice und_lk W ao l.length cap
  obtain ⟨i0, hi0, hi1, hi2, hi3⟩ := info_parts info_lk
  cases ao with
  | none =>
    have hnil : l = [] := by
      cases l with
      | nil => rfl
      | cons x l' =>
        obtain ⟨b, off, hb, _⟩ := RowsAt.at_ h (j := 0) (x := x) rfl
        cases hb
    have Hnil : Hid (l = []) := hnil
    clear hnil
    simp only [Option.isNone_none] at heq
    go_enter Try.func89, Try.ntmps89
    go_wp2
    go_ret
    refine ⟨_, rfl, ?_, Below.refl _ _⟩
    rw [Hnil.out]
    exact Own.nil _ _ _
  | some a =>
    simp only [Option.isNone_some] at heq
    have hown0 : (w.alloc (.cells #[] 78)).ownsRow w.heap.size 78 3 (.slice (some ⟨w.heap.size, 0, none⟩) 0 0) 0 (flat lkE []) := Own.madeNil lkE w w.heap.size 0 #[] (Nat.le_refl _) (Nat.zero_le _) rfl
    have hb0 : Below w.heap.size w (w.alloc (.cells #[] 78)) := (Below.refl _ _).alloc (Nat.le_refl _) _
    have hcells := RowsAt.flatC (E := lkE) (h.keep (hb0.mono hBm))
    go_enter Try.func89, Try.ntmps89
    go_wp2_with (at_builtin; (refine wpList_append_ownX rfl (.tmp 5) (.tmp 6) 27 rfl w.heap.size 78 i0 _ 3 24 und_lk hi0 hi1 hi2 hi3 rfl (by decide) (.slice (some ⟨w.heap.size, 0, none⟩) 0 0) 0 (flat lkE []) rfl ?_ a l.length cap (flat lkE l) rfl ?_ ?_ ?_ ?_ ?_ ?_ ?_))
    · exact hown0
    · exact flat_length lkE l
    · exact hcells
    · exact flat_one lkE l
    · unfold maxLen; omega
    · omega
    · exact hb0.size
    · intro v2 w2 hown2 hgr2 hfr2
      have hb2 : Below w.heap.size w w2 := hb0.trans (KeptF.below (F := fun i => i = w.heap.size) (KeptF.of_grown hgr2 (fun k e _ => by simp [Value.ownBlock] at e; exact e.symm)) hb0.size (fun i hi => by omega))
      have hO : Own lkE w2 w.heap.size v2 l := by
        exact hown2
      clear hown2 hgr2 hfr2 hown0 hcells heq
      go_wp2
      go_ret
      exact ⟨_, rfl, hO, hb2⟩

theorem und_rl : Try.prog.underlying 28 = some (.slice 87) := by kernel_rfl
set_option maxRecDepth 100000 in
set_option maxHeartbeats 2000000 in
theorem clone_rl (w : World) (Bm : Nat) (v : Value) (l : List RuleS) (h : RowsAt rlE.sz rlE.enc w Bm v l) (hBm : Bm ≤ w.heap.size) (hl : l.length ≤ 1000) :
    Calls Try.prog 90 #[v] w fun e w' => ∃ v' : Value, e = .returned v' ∧ Own rlE w' w.heap.size v' l ∧ Below w.heap.size w w' := by
  obtain ⟨ao, cap, hv, hcap⟩ := RowsAt.form h
  subst hv
  have heq := fun W => eql_slice und_rl W ao l.length cap
  obtain ⟨i0, hi0, hi1, hi2, hi3⟩ := info_parts info_rl
  cases ao with
  | none =>
    have hnil : l = [] := by
      cases l with
      | nil => rfl
      | cons x l' =>
        obtain ⟨b, off, hb, _⟩ := RowsAt.at_ h (j := 0) (x := x) rfl
        cases hb
    have Hnil : Hid (l = []) := hnil
    clear hnil
    simp only [Option.isNone_none] at heq
    go_enter Try.func90, Try.ntmps90
    go_wp2
    go_ret
    refine ⟨_, rfl, ?_, Below.refl _ _⟩
    rw [Hnil.out]
    exact Own.nil _ _ _
  | some a =>
    simp only [Option.isNone_some] at heq
    have hown0 : (w.alloc (.cells #[] 87)).ownsRow w.heap.size 87 5 (.slice (some ⟨w.heap.size, 0, none⟩) 0 0) 0 (flat rlE []) := Own.madeNil rlE w w.heap.size 0 #[] (Nat.le_refl _) (Nat.zero_le _) rfl
    have hb0 : Below w.heap.size w (w.alloc (.cells #[] 87)) := (Below.refl _ _).alloc (Nat.le_refl _) _
    have hcells := RowsAt.flatC (E := rlE) (h.keep (hb0.mono hBm))
    go_enter Try.func90, Try.ntmps90
    go_wp2_with (at_builtin; (refine wpList_append_ownX rfl (.tmp 5) (.tmp 6) 28 rfl w.heap.size 87 i0 _ 5 56 und_rl hi0 hi1 hi2 hi3 rfl (by decide) (.slice (some ⟨w.heap.size, 0, none⟩) 0 0) 0 (flat rlE []) rfl ?_ a l.length cap (flat rlE l) rfl ?_ ?_ ?_ ?_ ?_ ?_ ?_))
    · exact hown0
    · exact flat_length rlE l
    · exact hcells
    · exact flat_one rlE l
    · unfold maxLen; omega
    · omega
    · exact hb0.size
    · intro v2 w2 hown2 hgr2 hfr2
      have hb2 : Below w.heap.size w w2 := hb0.trans (KeptF.below (F := fun i => i = w.heap.size) (KeptF.of_grown hgr2 (fun k e _ => by simp [Value.ownBlock] at e; exact e.symm)) hb0.size (fun i hi => by omega))
      have hO : Own rlE w2 w.heap.size v2 l := by
        exact hown2
      clear hown2 hgr2 hfr2 hown0 hcells heq
      go_wp2
      go_ret
      exact ⟨_, rfl, hO, hb2⟩

theorem und_et : Try.prog.underlying 82 = some (.slice 85) := by kernel_rfl
set_option maxRecDepth 100000 in
set_option maxHeartbeats 2000000 in
theorem clone_et (w : World) (Bm : Nat) (v : Value) (l : List MEmit) (h : RowsAt etE.sz etE.enc w Bm v l) (hBm : Bm ≤ w.heap.size) (hl : l.length ≤ 1000) :
    Calls Try.prog 91 #[v] w fun e w' => ∃ v' : Value, e = .returned v' ∧ Own etE w' w.heap.size v' l ∧ Below w.heap.size w w' := by
  obtain ⟨ao, cap, hv, hcap⟩ := RowsAt.form h
  subst hv
  have heq := fun W => eql_slice und_et W ao l.length cap
  obtain ⟨i0, hi0, hi1, hi2, hi3⟩ := info_parts info_et
  cases ao with
  | none =>
    have hnil : l = [] := by
      cases l with
      | nil => rfl
      | cons x l' =>
        obtain ⟨b, off, hb, _⟩ := RowsAt.at_ h (j := 0) (x := x) rfl
        cases hb
    have Hnil : Hid (l = []) := hnil
    clear hnil
    simp only [Option.isNone_none] at heq
    go_enter Try.func91, Try.ntmps91
    go_wp2
    go_ret
    refine ⟨_, rfl, ?_, Below.refl _ _⟩
    rw [Hnil.out]
    exact Own.nil _ _ _
  | some a =>
    simp only [Option.isNone_some] at heq
    have hown0 : (w.alloc (.cells #[] 85)).ownsRow w.heap.size 85 3 (.slice (some ⟨w.heap.size, 0, none⟩) 0 0) 0 (flat etE []) := Own.madeNil etE w w.heap.size 0 #[] (Nat.le_refl _) (Nat.zero_le _) rfl
    have hb0 : Below w.heap.size w (w.alloc (.cells #[] 85)) := (Below.refl _ _).alloc (Nat.le_refl _) _
    have hcells := RowsAt.flatC (E := etE) (h.keep (hb0.mono hBm))
    go_enter Try.func91, Try.ntmps91
    go_wp2_with (at_builtin; (refine wpList_append_ownX rfl (.tmp 5) (.tmp 6) 82 rfl w.heap.size 85 i0 _ 3 24 und_et hi0 hi1 hi2 hi3 rfl (by decide) (.slice (some ⟨w.heap.size, 0, none⟩) 0 0) 0 (flat etE []) rfl ?_ a l.length cap (flat etE l) rfl ?_ ?_ ?_ ?_ ?_ ?_ ?_))
    · exact hown0
    · exact flat_length etE l
    · exact hcells
    · exact flat_one etE l
    · unfold maxLen; omega
    · omega
    · exact hb0.size
    · intro v2 w2 hown2 hgr2 hfr2
      have hb2 : Below w.heap.size w w2 := hb0.trans (KeptF.below (F := fun i => i = w.heap.size) (KeptF.of_grown hgr2 (fun k e _ => by simp [Value.ownBlock] at e; exact e.symm)) hb0.size (fun i hi => by omega))
      have hO : Own etE w2 w.heap.size v2 l := by
        exact hown2
      clear hown2 hgr2 hfr2 hown0 hcells heq
      go_wp2
      go_ret
      exact ⟨_, rfl, hO, hb2⟩

end Go.Proofs.Ytkobkilfbbalaaa

