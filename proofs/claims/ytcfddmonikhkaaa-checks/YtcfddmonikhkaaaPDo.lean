/-
  The program: a process does an event.
-/
import Derived.Test.YtcfddmonikhkaaaLProc
import Derived.Test.YtcfddmonikhkaaaRefD
namespace Go.Proofs.Ytcfddmonikhkaaa
open Go.RowKit Go.Sort Go.Maps

structure Em where
  it : It
  k : Int
def emC (e : Em) : List Value := [.int .i64 e.it.t, .int .i64 e.it.f, .int .i64 e.it.s, .int .i64 e.it.l, .int .i64 e.k]
def emE : Enc Em := ⟨5, 131, emC, fun _ => rfl, by omega, fun x u hu => by
  simp only [emC, List.mem_cons, List.not_mem_nil, or_false] at hu
  rcases hu with rfl | rfl | rfl | rfl | rfl <;> rfl⟩
theorem info_em : (Try.prog.info? 131).map (fun i => (i.zero, i.size, i.bytes)) = some (some (.agg #[.int .i64 0, .int .i64 0, .int .i64 0, .int .i64 0, .int .i64 0]), 5, 40) := by kernel_rfl

def em1 (num sent t : Int) (i : Nat) (x : MEmit) : Em := ⟨⟨t + x.d, num, sent + i, x.l⟩, x.k⟩
/-- what a process emits, its state and its number of emissions behind it -/
def ruleOut (m : Mdl) (num st sent : Int) (x : It) : List Em × Int × Int := match ruleAt m num st x.l with
  | none => ([], st, sent)
  | some r => (r.es.mapIdx (em1 num sent x.t), r.n, sent + r.es.length)

theorem blk_newP {W : World} {b : Nat} {c : Array Value} {T : TypeId} (h : b = W.heap.size) : Blk (W.alloc (.cells c T)) b c T := by
  subst h; exact heap_alloc_new W _
theorem Gr.drewP {a b : World} (h : Gr a b) : Gr a b.drew := ⟨h.os, h.tape, h.output, h.size, h.block⟩
theorem Gr.setNew {a b : World} (h : Gr a b) {p : Addr} (hp : a.heap.size ≤ p.block) (v : Value) : Gr a (b.setCell p v) := Below.setCell h hp v

theorem Own.madeNil {α : Type} (E : Enc α) (w : World) (B c : Nat) (cells : Array Value) (hB : B ≤ w.heap.size) (hc : c ≤ maxLen) (hs : cells.size = c * E.sz) : Own E (w.alloc (.cells cells E.T)) B (.slice (some ⟨w.heap.size, 0, none⟩) 0 c) [] :=
  World.ownsRow_made w _ c hB hc hs

set_option maxRecDepth 100000 in
set_option maxHeartbeats 8000000 in
theorem pdo_any (w : World) (B Bm : Nat) (lv rv sv : Value) (m : Mdl) (R : List RuleV) (p : Pr) (x : It) (h : PAt w B p) (hm : Right m) (hM : ModelAt w Bm lv rv sv m R) (hBm : Bm ≤ B) (hB : B ≤ w.heap.size)
    (hx0 : 0 ≤ x.t) (hx1 : x.t ≤ 260) (hs0 : 0 ≤ p.sent) (hs1 : p.sent ≤ 5000) :
    Calls Try.prog 48 #[.pointer (some ⟨p.qb, 0, none⟩), .agg #[.int .i64 m.procs, .int .i64 m.states, .int .i64 m.loads, lv, rv, sv], .agg #[.int .i64 x.t, .int .i64 x.f, .int .i64 x.s, .int .i64 x.l]] w fun e w' => ∃ v : Value, e = .returned v ∧ Own emE w' w.heap.size v (ruleOut m p.num p.st p.sent x).1 ∧ PAt w' B { p with st := (ruleOut m p.num p.st p.sent x).2.1, sent := (ruleOut m p.num p.st p.sent x).2.2 } ∧ KeptF (PF p) w w' := by
  obtain ⟨hc5, hc6, hc7⟩ := h.cells
  obtain ⟨W0, hW0⟩ : ∃ W0, W0 = (w.alloc (.cells #[.int .i64 m.procs, .int .i64 m.states, .int .i64 m.loads, lv, rv, sv] 31)).alloc (.cells #[.int .i64 x.t, .int .i64 x.f, .int .i64 x.s, .int .i64 x.l] 96) := ⟨_, rfl⟩
  have hb0 : Below w.heap.size w W0 := by rw [hW0]; exact ((Below.refl _ _).alloc (Nat.le_refl _) _).alloc (by simp) _
  have hmb : Blk W0 w.heap.size #[.int .i64 m.procs, .int .i64 m.states, .int .i64 m.loads, lv, rv, sv] 31 := by rw [hW0]; exact Blk.alloc (heap_alloc_new w _) _
  have hxb : Blk W0 (w.heap.size + 1) #[.int .i64 x.t, .int .i64 x.f, .int .i64 x.s, .int .i64 x.l] 96 := by rw [hW0]; exact blk_newP (by simp)
  have hP0 := h.keep (kept_of_below' hb0) (fun _ _ e => e)
  have HW0 : Hid (W0 = (w.alloc (.cells #[.int .i64 m.procs, .int .i64 m.states, .int .i64 m.loads, lv, rv, sv] 31)).alloc (.cells #[.int .i64 x.t, .int .i64 x.f, .int .i64 x.s, .int .i64 x.l] 96)) := hW0
  have hz0 : W0.heap.size = w.heap.size + 2 := by rw [hW0]; simp
  have Hz0 : Hid (W0.heap.size = w.heap.size + 2) := hz0
  clear hW0 hz0
  have hB0 : B ≤ W0.heap.size := Nat.le_trans hB hb0.size
  have hMb := hM.keep (hb0.mono (Nat.le_trans hBm hB))
  have k4 := cell_regrown (v := rv) (hmb.cell 4)
  have k5 := cell_regrown (v := .int .i64 p.num) hP0.cells.1
  have k6 := cell_regrown (v := .int .i64 p.st) hP0.cells.2.1
  have kx := cell_regrown (v := .int .i64 x.l) (hxb.cell 3)
  have hfind : ∀ q : Regrown, Calls Try.prog 42 #[rv, .int .i64 p.num, .int .i64 p.st, .int .i64 x.l] (grow (redrawn W0 q.d) q.os) fun e' w'' => e' = .returned (.int .i64 (firstIx (ruleFor p.num p.st x.l) m.rules)) ∧ ∃ q : Regrown, w'' = grow (redrawn W0 q.d) q.os := fun q => by
    have hb2 := below_regrown W0 q.d q.os
    have hk := hMb.keep (hb2.mono (Nat.le_trans hBm hB0))
    have := Calls.regrown_of (findRule_any p.num p.st x.l rv R Bm _ hk.rules.1 (Nat.le_trans hBm (Nat.le_trans hB0 hb2.size)) (by rw [hM.rlen]; exact hm.lim.nr))
    rw [← firstIx_map RuleV.r (ruleFor p.num p.st x.l) R, hM.same] at this
    exact this
  have hfc := firstIx_cases (ruleFor p.num p.st x.l) m.rules
  generalize firstIx (ruleFor p.num p.st x.l) m.rules = fi at hfind hfc
  have hlq := h.core.blk.lt
  have hlq0 := hP0.core.blk.lt
  go_enter Try.func48, Try.ntmps48
  go_upto_region 1 with fail
  rw [← HW0.out]
  refine wp_region_quiet_below (by kernel_rfl) (by kernel_rfl) ?_
  repeat (quiet_step (exact hfind _))
  refine wpQuiet_nil ?_
  intro wq hw'
  have hbq := below_of_regrown hw'
  have hwq : Below w.heap.size w wq := hb0.trans (hbq.mono hb0.size)
  have hPq := hP0.keep (kept_of_below' hbq) (fun _ _ e => e)
  have hmq := hmb.keep (kept_of_below' hbq) (fun e => e)
  have hxq := hxb.keep (kept_of_below' hbq) (fun e => e)
  clear hw' k4 k5 k6 kx hfind hP0 hmb hxb hc5 hc6 hc7
  rcases hfc with ⟨rfl, hno⟩ | ⟨ri, r, rfl, hri, hrf, hrb⟩
  · have Hout : Hid (ruleOut m p.num p.st p.sent x = ([], p.st, p.sent)) := by
      show _ = _
      unfold ruleOut
      rw [find_none hno]
    clear hno
    go_wp2
    go_ret
    refine ⟨.slice none 0 0, rfl, ?_, ?_, KeptF.of_below hwq⟩
    · rw [Hout.out]; exact Own.nil _ _ _
    · rw [Hout.out]; exact hPq
  · have Hout : Hid (ruleOut m p.num p.st p.sent x = (r.es.mapIdx (em1 p.num p.sent x.t), r.n, p.sent + r.es.length)) := by
      show _ = _
      unfold ruleOut
      rw [find_of_firstIx hri hrf hrb]
    have hro := ruleOk_iff (hm.rule hri)
    obtain ⟨⟨r', ev⟩, hRx, hRr, hE⟩ := hM.rule (get_lt hri)
    have hrr : r' = r := by have h1 : m.rules[ri]? = some r' := hRr; rw [hri] at h1; cases h1; rfl
    subst hrr
    have hE : EmitsAt w Bm ev r'.es := hE
    obtain ⟨aoe, cape, rfl, hcape⟩ := RowsAt.form hE
    obtain ⟨aor, capr, hrv, hcapr⟩ := RowsAt.form hM.rules.1
    rw [hM.rlen] at hrv hcapr
    subst hrv
    obtain ⟨rb, ro, hao, hrbB, hrc⟩ := RowsAt.at_ hM.rules.1 hRx
    subst hao
    have hBw : Bm ≤ w.heap.size := Nat.le_trans hBm hB
    have r0 : wq.cell? ⟨rb, ro + ri * 5, none⟩ = some (.int .i64 r'.p) := (hwq.cell (p := ⟨rb, _, none⟩) (Nat.lt_of_lt_of_le hrbB hBw)).trans (hrc 0 _ rfl)
    have r1 : wq.cell? ⟨rb, ro + ri * 5 + 1, none⟩ = some (.int .i64 r'.s) := (hwq.cell (p := ⟨rb, _, none⟩) (Nat.lt_of_lt_of_le hrbB hBw)).trans (hrc 1 _ rfl)
    have r2 : wq.cell? ⟨rb, ro + ri * 5 + 2, none⟩ = some (.int .i64 r'.l) := (hwq.cell (p := ⟨rb, _, none⟩) (Nat.lt_of_lt_of_le hrbB hBw)).trans (hrc 2 _ rfl)
    have r3 : wq.cell? ⟨rb, ro + ri * 5 + 3, none⟩ = some (.int .i64 r'.n) := (hwq.cell (p := ⟨rb, _, none⟩) (Nat.lt_of_lt_of_le hrbB hBw)).trans (hrc 3 _ rfl)
    have r4 : wq.cell? ⟨rb, ro + ri * 5 + 4, none⟩ = some (.slice aoe r'.es.length cape) := (hwq.cell (p := ⟨rb, _, none⟩) (Nat.lt_of_lt_of_le hrbB hBw)).trans (hrc 4 _ rfl)
    have q4 : wq.cell? ⟨w.heap.size, 4, none⟩ = some (.slice (some ⟨rb, ro, none⟩) m.rules.length capr) := hmq.cell 4
    have hri' := get_lt hri
    have hril : (ri : Int) < m.rules.length := by omega
    have hel : r'.es.length ≤ 4 := hro.2.2.2.2.1
    have hqlt := hPq.core.blk.lt
    have hql2 := hmq.lt
    have hql3 := hxq.lt
    have hrbl : rb < wq.heap.size := block_lt_of_cell r0
    have hqf : wq.frozen? ⟨p.qb, 6, none⟩ = false := hPq.core.blk.frozen 6
    have hq6 : wq.cell? ⟨p.qb, 6, none⟩ = some (.int .i64 p.st) := hPq.cells.2.1
    obtain ⟨i0, hi0, hz0, hz1, hz2⟩ := info_parts info_em
    have hmk : ∀ W : World, (Instr.makeSlice 128 (.int .i64 0) (.int .i64 (r'.es.length : Int))).run Try.prog W = .ok (.slice (some ⟨W.heap.size, 0, none⟩) 0 r'.es.length) (W.alloc (.cells (madeCells (Value.cells (.agg #[.int .i64 0, .int .i64 0, .int .i64 0, .int .i64 0, .int .i64 0])) (r'.es.length * 5)) 131)) := fun W => by
      have := run_make (P := Try.prog) W 128 131 i0 _ Try.underlying128 hi0 hz0 .i64 .i64 0 (r'.es.length : Int) (Int.le_refl _) (by omega) (by rw [hz2]; omega) (by omega)
      rw [hz1] at this
      simpa using this
    have hP1 := ((hPq.setSt r'.n).1.keep ((KeptF.refl (fun _ => False) _).alloc (.cells #[.int .i64 r'.p, .int .i64 r'.s, .int .i64 r'.l, .int .i64 r'.n, .slice aoe r'.es.length cape] 78)) (fun _ _ e => e))
    have hk1 : KeptF (PF p) w ((wq.setCell ⟨p.qb, 6, none⟩ (.int .i64 r'.n)).alloc (.cells #[.int .i64 r'.p, .int .i64 r'.s, .int .i64 r'.l, .int .i64 r'.n, .slice aoe r'.es.length cape] 78)) := ((KeptF.of_below hwq).trans (hPq.setSt r'.n).2).alloc _
    have hz1w : ((wq.setCell ⟨p.qb, 6, none⟩ (.int .i64 r'.n)).alloc (.cells #[.int .i64 r'.p, .int .i64 r'.s, .int .i64 r'.l, .int .i64 r'.n, .slice aoe r'.es.length cape] 78)).heap.size = wq.heap.size + 1 := by simp [World.setCell]
    have hr1 : Blk ((wq.setCell ⟨p.qb, 6, none⟩ (.int .i64 r'.n)).alloc (.cells #[.int .i64 r'.p, .int .i64 r'.s, .int .i64 r'.l, .int .i64 r'.n, .slice aoe r'.es.length cape] 78)) wq.heap.size #[.int .i64 r'.p, .int .i64 r'.s, .int .i64 r'.l, .int .i64 r'.n, .slice aoe r'.es.length cape] 78 := blk_newP (by simp [World.setCell])
    have hx1 : Blk ((wq.setCell ⟨p.qb, 6, none⟩ (.int .i64 r'.n)).alloc (.cells #[.int .i64 r'.p, .int .i64 r'.s, .int .i64 r'.l, .int .i64 r'.n, .slice aoe r'.es.length cape] 78)) (w.heap.size + 1) #[.int .i64 x.t, .int .i64 x.f, .int .i64 x.s, .int .i64 x.l] 96 := (hxq.set_other (a := ⟨p.qb, 6, none⟩) (show w.heap.size + 1 ≠ p.qb by omega) _).alloc _
    go_upto_region 6 with fail
    generalize ((wq.setCell ⟨p.qb, 6, none⟩ (.int .i64 r'.n)).alloc (.cells #[.int .i64 r'.p, .int .i64 r'.s, .int .i64 r'.l, .int .i64 r'.n, .slice aoe r'.es.length cape] 78)) = W1 at *
    have r4 : W1.cell? ⟨wq.heap.size, 4, none⟩ = some (.slice aoe r'.es.length cape) := hr1.cell 4
    have Hz1 : Hid (W1.heap.size = wq.heap.size + 1) := hz1w
    have hlr := hr1.lt
    have hO2 := Own.madeNil emE W1 W1.heap.size r'.es.length (madeCells (Value.cells (.agg #[.int .i64 0, .int .i64 0, .int .i64 0, .int .i64 0, .int .i64 0])) (r'.es.length * 5)) (Nat.le_refl _) (by unfold maxLen; omega) (size_madeCells _ _)
    have hP2 := hP1.keep ((KeptF.refl (fun _ => False) W1).alloc (.cells (madeCells (Value.cells (.agg #[.int .i64 0, .int .i64 0, .int .i64 0, .int .i64 0, .int .i64 0])) (r'.es.length * 5)) 131)) (fun _ _ e => e)
    have hk2 := hk1.alloc (.cells (madeCells (Value.cells (.agg #[.int .i64 0, .int .i64 0, .int .i64 0, .int .i64 0, .int .i64 0])) (r'.es.length * 5)) 131)
    have hr2 := hr1.alloc (.cells (madeCells (Value.cells (.agg #[.int .i64 0, .int .i64 0, .int .i64 0, .int .i64 0, .int .i64 0])) (r'.es.length * 5)) 131)
    have hx2 := hx1.alloc (.cells (madeCells (Value.cells (.agg #[.int .i64 0, .int .i64 0, .int .i64 0, .int .i64 0, .int .i64 0])) (r'.es.length * 5)) 131)
    clear r0 r1 r2 r3 q4 hqf hq6 hrc hPq hmq hxq hz1w hlq hlq0 hql2 hql3 hqlt hrbl
    go_wp2
    clear hmk r4
    go_loopw [9, 45] (fun s9 s45 wr => ∃ (k : Nat) (v : Value), s9 = v ∧ s45 = .int .i64 k ∧ k ≤ r'.es.length ∧ Own emE wr W1.heap.size v ((r'.es.mapIdx (em1 p.num p.sent x.t)).take k) ∧ PAt wr B { p with st := r'.n, sent := p.sent + (k : Int) } ∧ KeptF (PF p) w wr ∧ Blk wr wq.heap.size #[.int .i64 r'.p, .int .i64 r'.s, .int .i64 r'.l, .int .i64 r'.n, .slice aoe r'.es.length cape] 78 ∧ Blk wr (w.heap.size + 1) #[.int .i64 x.t, .int .i64 x.f, .int .i64 x.s, .int .i64 x.l] 96 ∧ W1.heap.size ≤ wr.heap.size) (fun _ s45 _ => r'.es.length - (intOf s45).toNat)
    case atStart =>
      refine ⟨0, _, rfl, rfl, Nat.zero_le _, ?_, ?_, hk2, hr2, hx2, by simp⟩
      · rw [List.take_zero]; exact hO2
      · have : p.sent + ((0 : Nat) : Int) = p.sent := by omega
        rw [this]; exact hP2
    case round =>
      clear hP1 hk1 hr1 hx1 hO2 hP2 hk2 hr2 hx2
      obtain ⟨k, v, rfl, rfl, hk, hO, hP, hK, hr, hx, hsz⟩ := hrel
      by_cases hlt : k < r'.es.length
      · obtain ⟨e, he⟩ := get_of_lt hlt
        have hbw : Below B w wr := KeptF.below hK hB (fun i hi => (h.lt hi).1)
        obtain ⟨eb, eo, hao, hebB, hec⟩ := RowsAt.at_ (RowsAt.keep hE (hbw.mono hBm)) he
        subst hao
        have x0 := hec 0 (.int .i64 e.k) rfl
        have x1 := hec 1 (.int .i64 e.d) rfl
        have x2 := hec 2 (.int .i64 e.l) rfl
        simp only [Nat.add_zero] at x0
        obtain ⟨y, hy, hyk0, hykl, hyf, hya, hyd, hyl0, hyl1⟩ := emitOk_iff (hro.2.2.2.2.2 e (List.mem_of_getElem? he))
        have hyb := hm.link hy
        have hwrap : IntKind.i64.wrap (x.t + e.d) = x.t + e.d := by rw [IntKind.wrap_i64]; omega
        have He : Hid (r'.es[k]? = some e) := he
        obtain ⟨ao2, cap2, hvf, hcap2⟩ := hO.form'
        have hlk : ((r'.es.mapIdx (em1 p.num p.sent x.t)).take k).length = k := by simp; omega
        have Hlk : Hid (((r'.es.mapIdx (em1 p.num p.sent x.t)).take k).length = k) := hlk
        rw [hlk] at hvf hcap2
        subst hvf
        clear hlk he hec hy
        have heb : Blk (wr.alloc (.cells #[.int .i64 e.k, .int .i64 e.d, .int .i64 e.l] 76)) wr.heap.size #[.int .i64 e.k, .int .i64 e.d, .int .i64 e.l] 76 := heap_alloc_new wr _
        have hPe := hP.keep ((KeptF.refl (fun _ => False) wr).alloc (.cells #[.int .i64 e.k, .int .i64 e.d, .int .i64 e.l] 76)) (fun _ _ e => e)
        have hxe := hx.alloc (.cells #[.int .i64 e.k, .int .i64 e.d, .int .i64 e.l] 76)
        have Kx := Gr.cells (v := .int .i64 x.t) (hxe.cell 0)
        have K1 := Gr.cells (v := .int .i64 e.d) (heb.cell 1)
        have K2 := Gr.cells (v := .int .i64 e.l) (heb.cell 2)
        have Kn := Gr.cells (v := .int .i64 p.num) hPe.cells.1
        have Ks := Gr.cells (v := .int .i64 (p.sent + (k : Int))) hPe.cells.2.2
        have hlb : eb < wr.heap.size := block_lt_of_cell x0
        have hlp := hP.core.blk.lt
        have hlx := hx.lt
        have hlr2 := hr.lt
        go_wp2
        go_region_held3 (fun W => Gr (wr.alloc (.cells #[.int .i64 e.k, .int .i64 e.d, .int .i64 e.l] 76)) W) (first | assumption | exact Gr.drewP (Gr.refl _) | exact Gr.alloc (by assumption) _ | exact Gr.drewP (Gr.alloc (Gr.refl _) _)) (fail)
        clear Kx K1 K2 Kn Ks
        have hcc : ∀ j u, ([.int .i64 (x.t + e.d), .int .i64 p.num, .int .i64 (p.sent + (k : Int)), .int .i64 e.l, .int .i64 e.k])[j]? = some u → ((((wr.alloc (.cells #[.int .i64 e.k, .int .i64 e.d, .int .i64 e.l] 76)).alloc (.cells #[.int .i64 (x.t + e.d), .int .i64 p.num, .int .i64 (p.sent + (k : Int)), .int .i64 e.l] 96)).drew).alloc (.cells #[.int .i64 (x.t + e.d), .int .i64 p.num, .int .i64 (p.sent + (k : Int)), .int .i64 e.l, .int .i64 e.k] 131)).cell? ((⟨wr.heap.size + 2, 0, none⟩ : Addr).add j) = some u := fun j u hu => by
          have := newCells (((wr.alloc (.cells #[.int .i64 e.k, .int .i64 e.d, .int .i64 e.l] 76)).alloc (.cells #[.int .i64 (x.t + e.d), .int .i64 p.num, .int .i64 (p.sent + (k : Int)), .int .i64 e.l] 96)).drew) [.int .i64 (x.t + e.d), .int .i64 p.num, .int .i64 (p.sent + (k : Int)), .int .i64 e.l, .int .i64 e.k] 131 j u hu
          simpa using this
        have hone : ∀ u ∈ ([.int .i64 (x.t + e.d), .int .i64 p.num, .int .i64 (p.sent + (k : Int)), .int .i64 e.l, .int .i64 e.k] : List Value), u.oneCell' = true := by
          intro u hu
          simp only [List.mem_cons, List.not_mem_nil, or_false] at hu
          rcases hu with rfl | rfl | rfl | rfl | rfl <;> rfl
        have hWW : KeptF (fun _ => False) wr ((((wr.alloc (.cells #[.int .i64 e.k, .int .i64 e.d, .int .i64 e.l] 76)).alloc (.cells #[.int .i64 (x.t + e.d), .int .i64 p.num, .int .i64 (p.sent + (k : Int)), .int .i64 e.l] 96)).drew).alloc (.cells #[.int .i64 (x.t + e.d), .int .i64 p.num, .int .i64 (p.sent + (k : Int)), .int .i64 e.l, .int .i64 e.k] 131)) := ((((KeptF.refl _ wr).alloc _).alloc _).drew).alloc _
        have hWl := hWW.size
        have hown0 : ((((wr.alloc (.cells #[.int .i64 e.k, .int .i64 e.d, .int .i64 e.l] 76)).alloc (.cells #[.int .i64 (x.t + e.d), .int .i64 p.num, .int .i64 (p.sent + (k : Int)), .int .i64 e.l] 96)).drew).alloc (.cells #[.int .i64 (x.t + e.d), .int .i64 p.num, .int .i64 (p.sent + (k : Int)), .int .i64 e.l, .int .i64 e.k] 131)).ownsRow W1.heap.size 131 5 (.slice ao2 k cap2) k (flat emE ((r'.es.mapIdx (em1 p.num p.sent x.t)).take k)) := by
          have := hO.keep hWW (fun _ _ e => e)
          unfold Own at this
          rw [Hlk.out] at this
          exact this
        go_wp2_with (at_builtin; refine wpList_append_ownX rfl (.tmp 65) (.tmp 70) 128 rfl W1.heap.size 131 i0 _ 5 40 Try.underlying128 hi0 hz0 hz1 hz2 rfl (by decide) (.slice ao2 k cap2) k (flat emE ((r'.es.mapIdx (em1 p.num p.sent x.t)).take k)) rfl ?own ⟨wr.heap.size + 2, 0, none⟩ 1 1 [.int .i64 (x.t + e.d), .int .i64 p.num, .int .i64 (p.sent + (k : Int)), .int .i64 e.l, .int .i64 e.k] rfl ?len ?cells ?one ?b1 ?b2 ?hb ?k)
        case own => exact hown0
        case len => rfl
        case cells => exact hcc
        case one => exact hone
        case b1 => unfold maxLen; omega
        case b2 => omega
        case hb => exact Nat.le_trans hsz hWl
        case k =>
          intro v2 w2 hown2 hgr2 hfr2
          have hsw : w.heap.size < W1.heap.size := by rw [Hz1.out]; have := hwq.size; omega
          have hK2 : KeptF (fun g => (Value.slice ao2 k cap2).ownBlock = some g) wr w2 := (hWW.weaken (fun _ _ e => e.elim)).trans (KeptF.of_grown hgr2 (fun k h _ => h))
          have hOb : ∀ g, (Value.slice ao2 k cap2).ownBlock = some g → W1.heap.size ≤ g := fun g hg => (hO.lt hg).1
          have hP2 := hP.keep hK2 (fun i hi e => by have := (h.lt hi).2; have := hOb i e; omega)
          have hr2 := hr.keep hK2 (fun e => by
            have h1 := hOb _ e
            have h2 : W1.heap.size = wq.heap.size + 1 := Hz1.out
            omega)
          have hx2 := hx.keep hK2 (fun e => by
            have h1 := hOb _ e
            have h2 : W1.heap.size = wq.heap.size + 1 := Hz1.out
            have h3 : w.heap.size + 2 ≤ wq.heap.size := by have := hbq.size; rw [Hz0.out] at this; exact this
            omega)
          have hKw : KeptF (PF p) w w2 := hK.trans' hK2 (fun i hi e => by have := hOb i e; omega)
          have hO2 : Own emE w2 W1.heap.size v2 ((r'.es.mapIdx (em1 p.num p.sent x.t)).take (k + 1)) := by
            have h2 : (r'.es.mapIdx (em1 p.num p.sent x.t))[k]? = some (em1 p.num p.sent x.t k e) := by rw [List.getElem?_mapIdx, He.out]; rfl
            rw [List.take_add_one, h2]
            exact Own.snoc (by rw [Hlk.out]; exact hown2)
          have c7 : w2.cell? ⟨p.qb, 7, none⟩ = some (.int .i64 (p.sent + (k : Int))) := hP2.cells.2.2
          have f7 : w2.frozen? ⟨p.qb, 7, none⟩ = false := hP2.core.blk.frozen 7
          have hsz2 : W1.heap.size ≤ w2.heap.size := Nat.le_trans hsz hK2.size
          have hol : ∀ g, v2.ownBlock = some g → W1.heap.size ≤ g := fun g hg => (hO2.lt hg).1
          clear hown2 hgr2 hfr2 hown0 hcc hone hWW hO
          go_wp2
          go_roundw
          case rel =>
            have hs2 := (hP2.setSent (p.sent + (k : Int) + 1)).1
            have hk2 := (hP2.setSent (p.sent + (k : Int) + 1)).2
            have e1 : p.sent + ((k + 1 : Nat) : Int) = p.sent + (k : Int) + 1 := by omega
            have hqw : p.qb < w.heap.size := h.core.blk.lt
            refine ⟨k + 1, v2, rfl, by go_num, hlt, hO2.keep ((KeptF.refl (fun i => i = p.qb) w2).setCell (p := ⟨p.qb, 7, none⟩) (.inl rfl) _) (fun g hg e => by have := hol g hg; omega), ?_, hKw.trans hk2, hr2.set_other (a := ⟨p.qb, 7, none⟩) (show wq.heap.size ≠ p.qb by have := hwq.size; omega) _, hx2.set_other (a := ⟨p.qb, 7, none⟩) (show w.heap.size + 1 ≠ p.qb by omega) _, by simpa [World.setCell] using hsz2⟩
            rw [e1]; exact hs2
          case measure => simp [intOf]; omega
      · have hke : k = r'.es.length := by omega
        subst hke
        go_wp2
        go_ret
        refine ⟨_, rfl, ?_, ?_, hK⟩
        · rw [Hout.out]
          have := hO
          rw [List.take_of_length_le (by simp)] at this
          exact this.mono (by
            have h1 := hwq.size
            have h2 : W1.heap.size = wq.heap.size + 1 := Hz1.out
            omega)
        · rw [Hout.out]; exact hP

end Go.Proofs.Ytcfddmonikhkaaa
