/-
  The program: a process does an event.
  The program: what a process has done, told.
  The law's own: alike.
-/
import Derived.Test.YtaieackeflmhgaaJ09
import Derived.Test.YtaieackeflmhgaaJ08
import Derived.Deep.Cut
import Derived.Deep.CutRange
import Derived.Deep.DeepCutAuto
import Derived.Deep.RegionHeld3
import Derived.Laws.OwnMore
namespace Go.Proofs.Ytaieackeflmhgaa
open Go.RowKit Go.Sort Go.Maps

def emC (e : Em) : List Value := [.int .i64 e.it.t, .int .i64 e.it.f, .int .i64 e.it.s, .int .i64 e.it.l, .int .i64 0, .int .i64 e.k]
def emE : Enc Em := ⟨6, 159, emC, fun _ => rfl, by omega, fun x u hu => by
  simp only [emC, List.mem_cons, List.not_mem_nil, or_false] at hu
  rcases hu with rfl | rfl | rfl | rfl | rfl | rfl <;> rfl⟩
theorem info_dp : (Try.prog.info? 69).map (fun i => (i.zero, i.size, i.bytes)) = some (some (.agg #[.int .i64 0, .int .i64 0, .int .i64 0, .int .i64 0, .int .i64 0]), 5, 40) := by kernel_rfl
theorem info_em : (Try.prog.info? 159).map (fun i => (i.zero, i.size, i.bytes)) = some (some (.agg #[.int .i64 0, .int .i64 0, .int .i64 0, .int .i64 0, .int .i64 0, .int .i64 0]), 6, 48) := by kernel_rfl

theorem blk_newP {W : World} {b : Nat} {c : Array Value} {T : TypeId} (h : b = W.heap.size) : Blk (W.alloc (.cells c T)) b c T := by
  subst h; exact heap_alloc_new W _
theorem Gr.drewP {a b : World} (h : Gr a b) : Gr a b.drew := ⟨h.os, h.tape, h.output, h.size, h.block⟩
theorem Gr.setNew {a b : World} (h : Gr a b) {p : Addr} (hp : a.heap.size ≤ p.block) (v : Value) : Gr a (b.setCell p v) := Below.setCell h hp v

theorem Own.madeNil {α : Type} (E : Enc α) (w : World) (B c : Nat) (cells : Array Value) (hB : B ≤ w.heap.size) (hc : c ≤ maxLen) (hs : cells.size = c * E.sz) : Own E (w.alloc (.cells cells E.T)) B (.slice (some ⟨w.heap.size, 0, none⟩) 0 c) [] :=
  World.ownsRow_made w _ c hB hc hs

theorem findP_at {m : Mdl} {p s l : Int} {i : Nat} {r : MRule} (h1 : m.rules[i]? = some r) (h2 : ruleFor p s l r = true) (h3 : ∀ (j : Nat) (y : MRule), j < i → m.rules[j]? = some y → ruleFor p s l y = false) : ruleAt m p s l = some r := by
  unfold ruleAt
  have hi := get_lt h1
  rw [List.find?_eq_some_iff_getElem]
  refine ⟨h2, i, hi, ?_, fun j hj => ?_⟩
  · rw [List.getElem?_eq_getElem hi, Option.some.injEq] at h1; exact h1
  · have := h3 j _ hj (List.getElem?_eq_getElem (by omega))
    simp [this]
theorem findP_none {m : Mdl} {p s l : Int} (h : ∀ (j : Nat) (y : MRule), m.rules[j]? = some y → ruleFor p s l y = false) : ruleAt m p s l = none := by
  unfold ruleAt
  rw [List.find?_eq_none]
  intro x hx
  obtain ⟨j, hj⟩ := List.getElem?_of_mem hx
  simp [h j x hj]

set_option maxRecDepth 100000 in
set_option maxHeartbeats 8000000 in
theorem emit_any (w : World) (B Bm : Nat) (ev : Value) (es : List MEmit) (t : Int) (p : Pr) (h : PAt w B p) (hE : EmitsAt w Bm ev es) (hBm : Bm ≤ B) (hB : B ≤ w.heap.size) (hel : es.length ≤ 4) (hd : ∀ x ∈ es, 0 ≤ x.d ∧ x.d ≤ 60)
    (ht0 : 0 ≤ t) (ht1 : t ≤ 260) (hs0 : 0 ≤ p.sent) (hs1 : p.sent ≤ 5000) :
    Calls Try.prog 101 #[.pointer (some ⟨p.qb, 0, none⟩), ev, .int .i64 t] w fun e w' => ∃ v : Value, e = .returned v ∧ Own emE w' w.heap.size v (es.mapIdx (em1 p.num p.sent t)) ∧ PAt w' B { p with sent := p.sent + es.length } ∧ KeptF (fun i => i = p.qb) w w' := by
  obtain ⟨aoe, cape, rfl, hcape⟩ := RowsAt.form hE
  obtain ⟨i0, hi0, hz0, hz1, hz2⟩ := info_parts info_em
  have hmk : ∀ W : World, (Instr.makeSlice 145 (.int .i64 0) (.int .i64 (es.length : Int))).run Try.prog W = .ok (.slice (some ⟨W.heap.size, 0, none⟩) 0 es.length) (W.alloc (.cells (madeCells (Value.cells (.agg #[.int .i64 0, .int .i64 0, .int .i64 0, .int .i64 0, .int .i64 0, .int .i64 0])) (es.length * 6)) 159)) := fun W => by
    have := run_make (P := Try.prog) W 145 159 i0 _ Try.underlying145 hi0 hz0 .i64 .i64 0 (es.length : Int) (Int.le_refl _) (by omega) (by rw [hz2]; omega) (by omega)
    rw [hz1] at this
    simpa using this
  have hlq := h.core.blk.lt
  have hO2 := Own.madeNil emE w w.heap.size es.length (madeCells (Value.cells (.agg #[.int .i64 0, .int .i64 0, .int .i64 0, .int .i64 0, .int .i64 0, .int .i64 0])) (es.length * 6)) (Nat.le_refl _) (by unfold maxLen; omega) (size_madeCells _ _)
  have hP2 := h.keep ((KeptF.refl (fun _ => False) w).alloc (.cells (madeCells (Value.cells (.agg #[.int .i64 0, .int .i64 0, .int .i64 0, .int .i64 0, .int .i64 0, .int .i64 0])) (es.length * 6)) 159)) (fun _ _ e => e)
  have hk2 : KeptF (fun i => i = p.qb) w (w.alloc (.cells (madeCells (Value.cells (.agg #[.int .i64 0, .int .i64 0, .int .i64 0, .int .i64 0, .int .i64 0, .int .i64 0])) (es.length * 6)) 159)) := (KeptF.refl _ w).alloc _
  go_enter Try.func101, Try.ntmps101
  go_wp2
  clear hmk
  go_loopw [7, 16] (fun s7 s16 wr => ∃ (k : Nat) (v : Value), s7 = v ∧ s16 = .int .i64 k ∧ k ≤ es.length ∧ Own emE wr w.heap.size v ((es.mapIdx (em1 p.num p.sent t)).take k) ∧ PAt wr B { p with sent := p.sent + (k : Int) } ∧ KeptF (fun i => i = p.qb) w wr) (fun _ s16 _ => es.length - (intOf s16).toNat)
  case atStart =>
    refine ⟨0, _, rfl, rfl, Nat.zero_le _, ?_, ?_, hk2⟩
    · rw [List.take_zero]; exact hO2
    · have : p.sent + ((0 : Nat) : Int) = p.sent := by omega
      rw [this]; exact hP2
  case round =>
    clear hO2 hP2 hk2
    obtain ⟨k, v, rfl, rfl, hk, hO, hP, hK⟩ := hrel
    have hsz := hK.size
    by_cases hlt : k < es.length
    · obtain ⟨e, he⟩ := get_of_lt hlt
      have hbw : Below B w wr := KeptF.below hK hB (fun i hi => by subst hi; exact h.core.lowq)
      obtain ⟨eb, eo, hao, hebB, hec⟩ := RowsAt.at_ (RowsAt.keep hE (hbw.mono hBm)) he
      subst hao
      have x0 := hec 0 (.int .i64 e.k) rfl
      have x1 := hec 1 (.int .i64 e.d) rfl
      have x2 := hec 2 (.int .i64 e.l) rfl
      simp only [Nat.add_zero] at x0
      have hed := hd e (List.mem_of_getElem? he)
      have hwrap : IntKind.i64.wrap (t + e.d) = t + e.d := by rw [IntKind.wrap_i64]; omega
      have He : Hid (es[k]? = some e) := he
      obtain ⟨ao2, cap2, hvf, hcap2⟩ := hO.form'
      have hlk : ((es.mapIdx (em1 p.num p.sent t)).take k).length = k := by simp; omega
      have Hlk : Hid (((es.mapIdx (em1 p.num p.sent t)).take k).length = k) := hlk
      rw [hlk] at hvf hcap2
      subst hvf
      clear hlk he hec
      have heb : Blk (wr.alloc (.cells #[.int .i64 e.k, .int .i64 e.d, .int .i64 e.l] 101)) wr.heap.size #[.int .i64 e.k, .int .i64 e.d, .int .i64 e.l] 101 := heap_alloc_new wr _
      have hPe := hP.keep ((KeptF.refl (fun _ => False) wr).alloc (.cells #[.int .i64 e.k, .int .i64 e.d, .int .i64 e.l] 101)) (fun _ _ e => e)
      have K1 := Gr.cells (v := .int .i64 e.d) (heb.cell 1)
      have K2 := Gr.cells (v := .int .i64 e.l) (heb.cell 2)
      have Kn := Gr.cells (v := .int .i64 p.num) hPe.cells.1
      have Ks := Gr.cells (v := .int .i64 (p.sent + (k : Int))) hPe.cells.2.2.1
      have hlb : eb < wr.heap.size := block_lt_of_cell x0
      have hlp := hP.core.blk.lt
      go_wp2
      go_region_held3 (fun W => Gr (wr.alloc (.cells #[.int .i64 e.k, .int .i64 e.d, .int .i64 e.l] 101)) W) (first | assumption | exact Gr.drewP (Gr.refl _) | exact Gr.alloc (by assumption) _ | exact Gr.drewP (Gr.alloc (Gr.refl _) _)) (fail)
      clear K1 K2 Kn Ks
      have hcc : ∀ j u, ([.int .i64 (t + e.d), .int .i64 p.num, .int .i64 (p.sent + (k : Int)), .int .i64 e.l, .int .i64 0, .int .i64 e.k])[j]? = some u → ((((wr.alloc (.cells #[.int .i64 e.k, .int .i64 e.d, .int .i64 e.l] 101)).alloc (.cells #[.int .i64 (t + e.d), .int .i64 p.num, .int .i64 (p.sent + (k : Int)), .int .i64 e.l] 120)).drew).alloc (.cells #[.int .i64 (t + e.d), .int .i64 p.num, .int .i64 (p.sent + (k : Int)), .int .i64 e.l, .int .i64 0, .int .i64 e.k] 159)).cell? ((⟨wr.heap.size + 2, 0, none⟩ : Addr).add j) = some u := fun j u hu => by
        have := newCells (((wr.alloc (.cells #[.int .i64 e.k, .int .i64 e.d, .int .i64 e.l] 101)).alloc (.cells #[.int .i64 (t + e.d), .int .i64 p.num, .int .i64 (p.sent + (k : Int)), .int .i64 e.l] 120)).drew) [.int .i64 (t + e.d), .int .i64 p.num, .int .i64 (p.sent + (k : Int)), .int .i64 e.l, .int .i64 0, .int .i64 e.k] 159 j u hu
        simpa using this
      have hone : ∀ u ∈ ([.int .i64 (t + e.d), .int .i64 p.num, .int .i64 (p.sent + (k : Int)), .int .i64 e.l, .int .i64 0, .int .i64 e.k] : List Value), u.oneCell' = true := by
        intro u hu
        simp only [List.mem_cons, List.not_mem_nil, or_false] at hu
        rcases hu with rfl | rfl | rfl | rfl | rfl | rfl <;> rfl
      have hWW : KeptF (fun _ => False) wr ((((wr.alloc (.cells #[.int .i64 e.k, .int .i64 e.d, .int .i64 e.l] 101)).alloc (.cells #[.int .i64 (t + e.d), .int .i64 p.num, .int .i64 (p.sent + (k : Int)), .int .i64 e.l] 120)).drew).alloc (.cells #[.int .i64 (t + e.d), .int .i64 p.num, .int .i64 (p.sent + (k : Int)), .int .i64 e.l, .int .i64 0, .int .i64 e.k] 159)) := ((((KeptF.refl _ wr).alloc _).alloc _).drew).alloc _
      have hWl := hWW.size
      have hown0 : ((((wr.alloc (.cells #[.int .i64 e.k, .int .i64 e.d, .int .i64 e.l] 101)).alloc (.cells #[.int .i64 (t + e.d), .int .i64 p.num, .int .i64 (p.sent + (k : Int)), .int .i64 e.l] 120)).drew).alloc (.cells #[.int .i64 (t + e.d), .int .i64 p.num, .int .i64 (p.sent + (k : Int)), .int .i64 e.l, .int .i64 0, .int .i64 e.k] 159)).ownsRow w.heap.size 159 6 (.slice ao2 k cap2) k (flat emE ((es.mapIdx (em1 p.num p.sent t)).take k)) := by
        have := hO.keep hWW (fun _ _ e => e)
        unfold Own at this
        rw [Hlk.out] at this
        exact this
      go_wp2_with (at_builtin; refine wpList_append_ownX rfl (.tmp 35) (.tmp 40) 145 rfl w.heap.size 159 i0 _ 6 48 Try.underlying145 hi0 hz0 hz1 hz2 rfl (by decide) (.slice ao2 k cap2) k (flat emE ((es.mapIdx (em1 p.num p.sent t)).take k)) rfl ?own ⟨wr.heap.size + 2, 0, none⟩ 1 1 [.int .i64 (t + e.d), .int .i64 p.num, .int .i64 (p.sent + (k : Int)), .int .i64 e.l, .int .i64 0, .int .i64 e.k] rfl ?len ?cells ?one ?b1 ?b2 ?hb ?k)
      case own => exact hown0
      case len => rfl
      case cells => exact hcc
      case one => exact hone
      case b1 => unfold maxLen; omega
      case b2 => omega
      case hb => exact Nat.le_trans hsz hWl
      case k =>
        intro v2 w2 hown2 hgr2 hfr2
        have hK2 : KeptF (fun g => (Value.slice ao2 k cap2).ownBlock = some g) wr w2 := (hWW.weaken (fun _ _ e => e.elim)).trans (KeptF.of_grown hgr2 (fun k h _ => h))
        have hOb : ∀ g, (Value.slice ao2 k cap2).ownBlock = some g → w.heap.size ≤ g := fun g hg => (hO.lt hg).1
        have hP2 := hP.keep hK2 (fun i hi e => by have := (h.lt hi).2; have := hOb i e; omega)
        have hKw : KeptF (fun i => i = p.qb) w w2 := hK.trans' hK2 (fun i hi e => by have := hOb i e; omega)
        have hO2 : Own emE w2 w.heap.size v2 ((es.mapIdx (em1 p.num p.sent t)).take (k + 1)) := by
          have h2 : (es.mapIdx (em1 p.num p.sent t))[k]? = some (em1 p.num p.sent t k e) := by rw [List.getElem?_mapIdx, He.out]; rfl
          rw [List.take_add_one, h2]
          exact Own.snoc (by rw [Hlk.out]; exact hown2)
        have c7 : w2.cell? ⟨p.qb, 10, none⟩ = some (.int .i64 (p.sent + (k : Int))) := hP2.cells.2.2.1
        have f7 : w2.frozen? ⟨p.qb, 10, none⟩ = false := hP2.core.blk.frozen 10
        have hsz2 : w.heap.size ≤ w2.heap.size := Nat.le_trans hsz hK2.size
        have hol : ∀ g, v2.ownBlock = some g → w.heap.size ≤ g := fun g hg => (hO2.lt hg).1
        clear hown2 hgr2 hfr2 hown0 hcc hone hWW hO
        go_wp2
        go_roundw
        case rel =>
          have hs2 := (hP2.setSent (p.sent + (k : Int) + 1)).1
          have hk2 := (hP2.setSent (p.sent + (k : Int) + 1)).2
          have e1 : p.sent + ((k + 1 : Nat) : Int) = p.sent + (k : Int) + 1 := by omega
          have hqw : p.qb < w.heap.size := h.core.blk.lt
          refine ⟨k + 1, v2, rfl, by go_num, hlt, hO2.keep ((KeptF.refl (fun i => i = p.qb) w2).setCell (p := ⟨p.qb, 10, none⟩) (.inl rfl) _) (fun g hg e => by have := hol g hg; omega), ?_, hKw.trans hk2⟩
          rw [e1]; exact hs2
        case measure => simp [intOf]; omega
    · have hke : k = es.length := by omega
      subst hke
      go_wp2
      go_ret
      refine ⟨_, rfl, ?_, hP, hK⟩
      have := hO
      rw [List.take_of_length_le (by simp)] at this
      exact this

set_option maxRecDepth 100000 in
set_option maxHeartbeats 8000000 in
theorem pdo_any (w : World) (B Bm : Nat) (lv rv sv : Value) (m : Mdl) (R : List RuleV) (p : Pr) (x : It) (h : PAt w B p) (hm : Right m) (hM : ModelAt w Bm lv rv sv m R) (hBm : Bm ≤ B) (hB : B ≤ w.heap.size)
    (hx0 : 0 ≤ x.t) (hx1q : x.t ≤ 260) (hs0 : 0 ≤ p.sent) (hs1 : p.sent ≤ 5000) (hdl : p.dn.length ≤ 5000) :
    Calls Try.prog 73 #[.pointer (some ⟨p.qb, 0, none⟩), .agg #[.int .i64 m.procs, .int .i64 m.states, .int .i64 m.loads, lv, rv, sv], .agg #[.int .i64 x.t, .int .i64 x.f, .int .i64 x.s, .int .i64 x.l]] w fun e w' => ∃ v : Value, e = .returned v ∧ Own emE w' w.heap.size v (ruleOut m p.num p.st p.sent x).1 ∧ KeptF (PF p) w w' ∧ ∃ dv2 : Value, PAt w' B { p with st := (ruleOut m p.num p.st p.sent x).2.1, sent := (ruleOut m p.num p.st p.sent x).2.2, dnv := dv2, dn := p.dn ++ [⟨x, (ruleOut m p.num p.st p.sent x).2.1⟩] } ∧
      (∀ i, PF { p with st := (ruleOut m p.num p.st p.sent x).2.1, sent := (ruleOut m p.num p.st p.sent x).2.2, dnv := dv2, dn := p.dn ++ [⟨x, (ruleOut m p.num p.st p.sent x).2.1⟩] } i → PF p i ∨ w.heap.size ≤ i) ∧
      (∀ g, v.ownBlock = some g → ¬ PF { p with st := (ruleOut m p.num p.st p.sent x).2.1, sent := (ruleOut m p.num p.st p.sent x).2.2, dnv := dv2, dn := p.dn ++ [⟨x, (ruleOut m p.num p.st p.sent x).2.1⟩] } g) := by
  obtain ⟨W0, hW0⟩ : ∃ W0, W0 = (w.alloc (.cells #[.int .i64 m.procs, .int .i64 m.states, .int .i64 m.loads, lv, rv, sv] 31)).alloc (.cells #[.int .i64 x.t, .int .i64 x.f, .int .i64 x.s, .int .i64 x.l] 120) := ⟨_, rfl⟩
  have hb0 : Below w.heap.size w W0 := by rw [hW0]; exact ((Below.refl _ _).alloc (Nat.le_refl _) _).alloc (by simp) _
  have hmb : Blk W0 w.heap.size #[.int .i64 m.procs, .int .i64 m.states, .int .i64 m.loads, lv, rv, sv] 31 := by rw [hW0]; exact Blk.alloc (heap_alloc_new w _) _
  have hxb : Blk W0 (w.heap.size + 1) #[.int .i64 x.t, .int .i64 x.f, .int .i64 x.s, .int .i64 x.l] 120 := by rw [hW0]; exact blk_newP (by simp)
  have hP0 := h.keep (kept_of_below' hb0) (fun _ _ e => e)
  have HW0 : Hid (W0 = (w.alloc (.cells #[.int .i64 m.procs, .int .i64 m.states, .int .i64 m.loads, lv, rv, sv] 31)).alloc (.cells #[.int .i64 x.t, .int .i64 x.f, .int .i64 x.s, .int .i64 x.l] 120)) := hW0
  clear hW0
  have hB0 : B ≤ W0.heap.size := Nat.le_trans hB hb0.size
  have hMb := hM.keep (hb0.mono (Nat.le_trans hBm hB))
  have k4 := cell_regrown (v := rv) (hmb.cell 4)
  have k5 := cell_regrown (v := .int .i64 p.num) hP0.cells.1
  have k6 := cell_regrown (v := .int .i64 p.st) hP0.cells.2.1
  have kx := cell_regrown (v := .int .i64 x.l) (hxb.cell 3)
  have hfind : ∀ q : Regrown, Calls Try.prog 68 #[rv, .int .i64 p.num, .int .i64 p.st, .int .i64 x.l] (grow (redrawn W0 q.d) q.os) fun e' w'' => e' = .returned (.int .i64 (firstIx (ruleFor p.num p.st x.l) m.rules)) ∧ ∃ q : Regrown, w'' = grow (redrawn W0 q.d) q.os := fun q => by
    have hb2 := below_regrown W0 q.d q.os
    have hk := hMb.keep (hb2.mono (Nat.le_trans hBm hB0))
    have := Calls.regrown_of (findRule_any p.num p.st x.l rv R Bm _ hk.rules.1 (Nat.le_trans hBm (Nat.le_trans hB0 hb2.size)) (by rw [hM.rlen]; exact hm.lim.nr))
    rw [← firstIx_map RuleV.r (ruleFor p.num p.st x.l) R, hM.same] at this
    exact this
  have hfc := firstIx_cases (ruleFor p.num p.st x.l) m.rules
  generalize firstIx (ruleFor p.num p.st x.l) m.rules = fi at hfind hfc
  have hlq := h.core.blk.lt
  have hlq0 := hP0.core.blk.lt
  go_enter Try.func73, Try.ntmps73
  go_upto_region 2 with fail
  rw [← HW0.out]
  refine wp_region_quiet_below (by kernel_rfl) (by kernel_rfl) ?_
  repeat (quiet_step (exact hfind _))
  refine wpQuiet_nil ?_
  intro wq hw'
  have hbq := below_of_regrown hw'
  have hwq : Below w.heap.size w wq := hb0.trans (hbq.mono hb0.size)
  have hPq := hP0.keep (kept_of_below' hbq) (fun _ _ e => e)
  have hmq := hmb.keep (kept_of_below' hbq) (fun e => e)
  have hxq := hxb.keep (kept_of_below' hbq) (fun e => e)
  clear hw' k4 k5 k6 kx hfind hP0 hmb hxb
  go_upto_if 23 with fail
  go_cut [7] (fun s7 wc => ∃ v : Value, v = s7 ∧ Own emE wc w.heap.size v (ruleOut m p.num p.st p.sent x).1 ∧ PAt wc B { p with st := (ruleOut m p.num p.st p.sent x).2.1, sent := (ruleOut m p.num p.st p.sent x).2.2 } ∧ KeptF (fun i => i = p.qb) w wc ∧ Blk wc (w.heap.size + 1) #[.int .i64 x.t, .int .i64 x.f, .int .i64 x.s, .int .i64 x.l] 120)
  case first =>
    rcases hfc with ⟨rfl, hno⟩ | ⟨ri, r, rfl, hri, hrf, hrb⟩
    · have Hout : Hid (ruleOut m p.num p.st p.sent x = ([], p.st, p.sent)) := by
        show _ = _
        unfold ruleOut
        rw [findP_none hno]
      clear hno
      go_wp2
      go_meet
      case rel =>
        refine ⟨.slice none 0 0, rfl, ?_, ?_, KeptF.of_below hwq, hxq⟩
        · rw [Hout.out]; exact Own.nil _ _ _
        · rw [Hout.out]; exact hPq
    · have Hout : Hid (ruleOut m p.num p.st p.sent x = (r.es.mapIdx (em1 p.num p.sent x.t), r.n, p.sent + r.es.length)) := by
        show _ = _
        unfold ruleOut
        rw [findP_at hri hrf hrb]
      have hro := ruleOk_iff (hm.rule hri)
      obtain ⟨⟨r', ev⟩, hRx, hRr, hE⟩ := hM.rule (get_lt hri)
      have hrr : r' = r := by have h1 : m.rules[ri]? = some r' := hRr; rw [hri] at h1; cases h1; rfl
      subst hrr
      have hE : EmitsAt w Bm ev r'.es := hE
      obtain ⟨aor, capr, hrv, hcapr⟩ := RowsAt.form hM.rules.1
      rw [hM.rlen] at hrv hcapr
      subst hrv
      obtain ⟨rb, ro, hao, hrbB, hrc⟩ := RowsAt.at_ hM.rules.1 hRx
      subst hao
      obtain ⟨aoe, cape, rfl, hcape⟩ := RowsAt.form hE
      have hBw : Bm ≤ w.heap.size := Nat.le_trans hBm hB
      have r3 : wq.cell? ⟨rb, ro + ri * 5 + 3, none⟩ = some (.int .i64 r'.n) := (hwq.cell (p := ⟨rb, _, none⟩) (Nat.lt_of_lt_of_le hrbB hBw)).trans (hrc 3 _ rfl)
      have r4 : wq.cell? ⟨rb, ro + ri * 5 + 4, none⟩ = some (.slice aoe r'.es.length cape) := (hwq.cell (p := ⟨rb, _, none⟩) (Nat.lt_of_lt_of_le hrbB hBw)).trans (hrc 4 _ rfl)
      have q4 : wq.cell? ⟨w.heap.size, 4, none⟩ = some (.slice (some ⟨rb, ro, none⟩) m.rules.length capr) := hmq.cell 4
      have hri' := get_lt hri
      have hril : (ri : Int) < m.rules.length := by omega
      have hel : r'.es.length ≤ 4 := hro.2.2.2.2.1
      have hed : ∀ y ∈ r'.es, 0 ≤ y.d ∧ y.d ≤ 60 := fun y hy => by
        obtain ⟨z, z1, z2, z3, z4, z5, z6, _⟩ := emitOk_iff (hro.2.2.2.2.2 y hy)
        have := hm.link z1
        omega
      have hql2 := hmq.lt
      have hql3 := hxq.lt
      have hrbl : rb < wq.heap.size := block_lt_of_cell r3
      have hqlt := hPq.core.blk.lt
      have hqf : wq.frozen? ⟨p.qb, 9, none⟩ = false := hPq.core.blk.frozen 9
      have hq6 : wq.cell? ⟨p.qb, 9, none⟩ = some (.int .i64 p.st) := hPq.cells.2.1
      have hP1 := (hPq.setSt r'.n).1
      have hk1 : KeptF (fun i => i = p.qb) w (wq.setCell ⟨p.qb, 9, none⟩ (.int .i64 r'.n)) := (KeptF.of_below hwq).trans (hPq.setSt r'.n).2
      have hm1 := hmq.set_other (a := ⟨p.qb, 9, none⟩) (show w.heap.size ≠ p.qb by omega) (.int .i64 r'.n)
      have hx1 := hxq.set_other (a := ⟨p.qb, 9, none⟩) (show w.heap.size + 1 ≠ p.qb by omega) (.int .i64 r'.n)
      clear hri hRx hRr
      go_upto_region 5 with fail
      generalize wq.setCell ⟨p.qb, 9, none⟩ (.int .i64 r'.n) = W1 at *
      have hbl1 : Below B w W1 := KeptF.below hk1 hB (fun i hi => by subst hi; exact h.core.lowq)
      have c4 : W1.cell? ⟨rb, ro + ri * 5 + 4, none⟩ = some (.slice aoe r'.es.length cape) := (hbl1.cell (p := ⟨rb, _, none⟩) (Nat.lt_of_lt_of_le hrbB hBm)).trans (hrc 4 _ rfl)
      have p4 : W1.cell? ⟨w.heap.size, 4, none⟩ = some (.slice (some ⟨rb, ro, none⟩) m.rules.length capr) := hm1.cell 4
      have x0 : W1.cell? ⟨w.heap.size + 1, 0, none⟩ = some (.int .i64 x.t) := hx1.cell 0
      have hP1d := hP1.keep (KeptF.drew (KeptF.refl (fun _ => False) W1)) (fun _ _ e => e)
      have hemit := emit_any W1.drew B Bm (.slice aoe r'.es.length cape) r'.es x.t { p with st := r'.n } hP1d (RowsAt.keep hE ((KeptF.below (KeptF.drew hk1) hB (fun i hi => by subst hi; exact h.core.lowq) : Below B w W1.drew).mono hBm)) hBm (Nat.le_trans hB hk1.size) hel hed hx0 hx1q hs0 hs1
      have hl1 := hm1.lt
      have hl2 := hx1.lt
      have hl3 : rb < W1.heap.size := block_lt_of_cell c4
      clear r3 r4 q4 hqf hq6 hrc hPq hmq hxq hql2 hql3 hqlt hrbl hrf hrb
      refine still_tail' 9 (by kernel_rfl) (by kernel_rfl) ?_
      simp only [List.take_succ_cons, List.take_zero, List.drop_succ_cons, List.drop_zero]
      repeat still_step
      refine wpStill_nil ?_
      go_wp2_with fail
      refine hemit.mono ?_
      rintro e2 w2 ⟨v, rfl, hO, hP2, hK2⟩
      clear hemit c4 p4 x0
      go_wp2
      go_meet
      case rel =>
        have hK2' : KeptF (fun i => i = p.qb) w w2 := (KeptF.trans (b := W1.drew) (KeptF.drew hk1) hK2)
        refine ⟨v, rfl, ?_, ?_, hK2', ?_⟩
        · rw [Hout.out]; exact hO.mono hk1.size
        · rw [Hout.out]; exact hP2
        · exact (Blk.drew hx1).keep hK2 (fun e => by have e : w.heap.size + 1 = p.qb := e; omega)
  case rest =>
    obtain ⟨v, rfl, hO, hP, hK, hx⟩ := hcut
    clear hfc hPq hmq hxq hMb
    obtain ⟨ro, hro⟩ : ∃ ro, ro = ruleOut m p.num p.st p.sent x := ⟨_, rfl⟩
    have Hro : Hid (ro = ruleOut m p.num p.st p.sent x) := hro
    rw [← hro] at hO hP
    clear hro
    obtain ⟨j0, hj0, hy0, hy1, hy2⟩ := info_parts info_dp
    have hown := hP.own
    have hown : Own dpE wc B p.dnv p.dn := hown
    obtain ⟨aod, capd, hdvf, hcapd⟩ := hown.form'
    have Hdvf : Hid (p.dnv = .slice aod p.dn.length capd) := hdvf
    rw [hdvf] at hown
    have hdold : ∀ g, (Value.slice aod p.dn.length capd).ownBlock = some g → g < w.heap.size := fun g hg => (h.own.lt (by rw [Hdvf.out]; exact hg)).2
    have hdq : ∀ g, (Value.slice aod p.dn.length capd).ownBlock = some g → g ≠ p.qb := fun g hg => h.oq g (by rw [Hdvf.out]; exact hg)
    clear hdvf
    have nq : (Value.slice aod p.dn.length capd).ownBlock ≠ some p.qb := fun e => hdq _ e rfl
    have K8 : wc.cell? ⟨p.qb, 11, none⟩ = some (.slice aod p.dn.length capd) := by rw [← Hdvf.out]; exact hP.cells.2.2.2
    have K6 := Sp.cell (b0 := p.qb) (o0 := 11) (own := (Value.slice aod p.dn.length capd).ownBlock) (v := .int .i64 ro.2.1) hP.cells.2.1 nq (fun e => by cases e.2)
    have hwq1 : w.heap.size + 1 ≠ p.qb := by omega
    have T0 := Sp.cell (b0 := p.qb) (o0 := 11) (own := (Value.slice aod p.dn.length capd).ownBlock) (v := .int .i64 x.t) (hx.cell 0) (fun e' => by have := hdold _ e'; omega) (fun ⟨h1, _⟩ => hwq1 h1)
    have T1 := Sp.cell (b0 := p.qb) (o0 := 11) (own := (Value.slice aod p.dn.length capd).ownBlock) (v := .int .i64 x.f) (hx.cell 1) (fun e' => by have := hdold _ e'; omega) (fun ⟨h1, _⟩ => hwq1 h1)
    have T2 := Sp.cell (b0 := p.qb) (o0 := 11) (own := (Value.slice aod p.dn.length capd).ownBlock) (v := .int .i64 x.s) (hx.cell 2) (fun e' => by have := hdold _ e'; omega) (fun ⟨h1, _⟩ => hwq1 h1)
    have T3 := Sp.cell (b0 := p.qb) (o0 := 11) (own := (Value.slice aod p.dn.length capd).ownBlock) (v := .int .i64 x.l) (hx.cell 3) (fun e' => by have := hdold _ e'; omega) (fun ⟨h1, _⟩ => hwq1 h1)
    have hlqc := hP.core.blk.lt
    have hlxc := hx.lt
    have hcc := newCells wc [.int .i64 x.t, .int .i64 x.f, .int .i64 x.s, .int .i64 x.l, .int .i64 ro.2.1] 69
    have hWW : KeptF (fun _ => False) wc ((wc.alloc (.cells #[.int .i64 x.t, .int .i64 x.f, .int .i64 x.s, .int .i64 x.l, .int .i64 ro.2.1] 69)).drew) := ((KeptF.refl _ wc).alloc _).drew
    have hWl := hWW.size
    have hBc : B ≤ wc.heap.size := Nat.le_trans hB hK.size
    have hone : ∀ u ∈ [Value.int .i64 x.t, .int .i64 x.f, .int .i64 x.s, .int .i64 x.l, .int .i64 ro.2.1], u.oneCell' = true := by
      intro u hu
      simp only [List.mem_cons, List.not_mem_nil, or_false] at hu
      rcases hu with rfl | rfl | rfl | rfl | rfl <;> rfl
    have hown0 : ((wc.alloc (.cells #[.int .i64 x.t, .int .i64 x.f, .int .i64 x.s, .int .i64 x.l, .int .i64 ro.2.1] 69)).drew).ownsRow B 69 5 (.slice aod p.dn.length capd) p.dn.length (flat dpE p.dn) := hown.keep hWW (fun _ _ e => e)
    go_wp2
    refine wp_region_held_drew (S := (fun W => Sp wc p.qb 11 (Value.slice aod p.dn.length capd).ownBlock W)) (by kernel_rfl) ?_ (fun hHeld => ?_)
    · (try dsimp only)
      (first | assumption | exact Sp.drew (by assumption) | exact Sp.of_kept ((KeptF.refl _ _).drew) | exact Sp.of_kept (((KeptF.refl _ _).alloc _).drew) | exact Sp.set (by assumption) _)
    refine takeL 0 (v := ?_) rfl (by kernel_rfl) (by kernel_rfl) (by kernel_rfl) (fun _ _ _ h => h) (by rfl) ?_ (by assumption) ?_
    rotate_left
    · intro w hSw
      (try dsimp only at hSw)
      go_simp
      all_goals with_reducible rfl
    try simp only [Act.put, List.setIfInBounds_toArray, List.set_cons_zero, List.set_cons_succ]
    refine takeL 1 (v := ?_) rfl (by kernel_rfl) (by kernel_rfl) (by kernel_rfl) (fun _ _ _ h => h) (by rfl) ?_ (by assumption) ?_
    rotate_left
    · intro w hSw
      (try dsimp only at hSw)
      go_simp
      all_goals with_reducible rfl
    try simp only [Act.put, List.setIfInBounds_toArray, List.set_cons_zero, List.set_cons_succ]
    refine takeL 2 (v := ?_) rfl (by kernel_rfl) (by kernel_rfl) (by kernel_rfl) (fun _ _ _ h => h) (by rfl) ?_ (by assumption) ?_
    rotate_left
    · intro w hSw
      (try dsimp only at hSw)
      go_simp
      all_goals with_reducible rfl
    try simp only [Act.put, List.setIfInBounds_toArray, List.set_cons_zero, List.set_cons_succ]
    refine takeL 3 (v := ?_) rfl (by kernel_rfl) (by kernel_rfl) (by kernel_rfl) (fun _ _ _ h => h) (by rfl) ?_ (by assumption) ?_
    rotate_left
    · intro w hSw
      (try dsimp only at hSw)
      go_simp
      all_goals with_reducible rfl
    try simp only [Act.put, List.setIfInBounds_toArray, List.set_cons_zero, List.set_cons_succ]
    refine takeL 5 (v := ?_) rfl (by kernel_rfl) (by kernel_rfl) (by kernel_rfl) (fun _ _ _ h => h) (by rfl) ?_ (by assumption) ?_
    rotate_left
    · intro w hSw
      (try dsimp only at hSw)
      go_simp
      all_goals with_reducible rfl
    try simp only [Act.put, List.setIfInBounds_toArray, List.set_cons_zero, List.set_cons_succ]
    refine takeL 6 (v := ?_) rfl (by kernel_rfl) (by kernel_rfl) (by kernel_rfl) (fun _ _ _ h => h) (by rfl) ?_ (by assumption) ?_
    rotate_left
    · intro w hSw
      (try dsimp only at hSw)
      go_simp
      all_goals with_reducible rfl
    try simp only [Act.put, List.setIfInBounds_toArray, List.set_cons_zero, List.set_cons_succ]
    refine takeL 7 (v := ?_) rfl (by kernel_rfl) (by kernel_rfl) (by kernel_rfl) (fun _ _ _ h => h) (by rfl) ?_ (by assumption) ?_
    rotate_left
    · intro w hSw
      (try dsimp only at hSw)
      go_simp
      all_goals with_reducible rfl
    try simp only [Act.put, List.setIfInBounds_toArray, List.set_cons_zero, List.set_cons_succ]
    refine takeL 8 (v := ?_) rfl (by kernel_rfl) (by kernel_rfl) (by kernel_rfl) (fun _ _ _ h => h) (by rfl) ?_ (by assumption) ?_
    rotate_left
    · intro w hSw
      (try dsimp only at hSw)
      go_simp
      all_goals with_reducible rfl
    try simp only [Act.put, List.setIfInBounds_toArray, List.set_cons_zero, List.set_cons_succ]
    refine takeL 9 (v := ?_) rfl (by kernel_rfl) (by kernel_rfl) (by kernel_rfl) (fun _ _ _ h => h) (by rfl) ?_ (by assumption) ?_
    rotate_left
    · intro w hSw
      (try dsimp only at hSw)
      go_simp
      all_goals with_reducible rfl
    try simp only [Act.put, List.setIfInBounds_toArray, List.set_cons_zero, List.set_cons_succ]
    refine takeL 10 (v := ?_) rfl (by kernel_rfl) (by kernel_rfl) (by kernel_rfl) (fun _ _ _ h => h) (by rfl) ?_ (by assumption) ?_
    rotate_left
    · intro w hSw
      (try dsimp only at hSw)
      go_simp
      all_goals with_reducible rfl
    try simp only [Act.put, List.setIfInBounds_toArray, List.set_cons_zero, List.set_cons_succ]
    refine takeL 11 (v := ?_) rfl (by kernel_rfl) (by kernel_rfl) (by kernel_rfl) (fun _ _ _ h => h) (by rfl) ?_ (by assumption) ?_
    rotate_left
    · intro w hSw
      (try dsimp only at hSw)
      go_simp
      all_goals with_reducible rfl
    try simp only [Act.put, List.setIfInBounds_toArray, List.set_cons_zero, List.set_cons_succ]
    refine takeL 12 (v := ?_) rfl (by kernel_rfl) (by kernel_rfl) (by kernel_rfl) (fun _ _ _ h => h) (by rfl) ?_ (by assumption) ?_
    rotate_left
    · intro w hSw
      (try dsimp only at hSw)
      go_simp
      all_goals with_reducible rfl
    try simp only [Act.put, List.setIfInBounds_toArray, List.set_cons_zero, List.set_cons_succ]
    refine takeL 13 (v := ?_) rfl (by kernel_rfl) (by kernel_rfl) (by kernel_rfl) (fun _ _ _ h => h) (by rfl) ?_ (by assumption) ?_
    rotate_left
    · intro w hSw
      (try dsimp only at hSw)
      go_simp
      all_goals with_reducible rfl
    try simp only [Act.put, List.setIfInBounds_toArray, List.set_cons_zero, List.set_cons_succ]
    refine takeL 14 (v := ?_) rfl (by kernel_rfl) (by kernel_rfl) (by kernel_rfl) (fun _ _ _ h => h) (by rfl) ?_ (by assumption) ?_
    rotate_left
    · intro w hSw
      (try dsimp only at hSw)
      go_simp
      all_goals with_reducible rfl
    try simp only [Act.put, List.setIfInBounds_toArray, List.set_cons_zero, List.set_cons_succ]
    refine takeL 15 (v := ?_) rfl (by kernel_rfl) (by kernel_rfl) (by kernel_rfl) (fun _ _ _ h => h) (by rfl) ?_ (by assumption) ?_
    rotate_left
    · intro w hSw
      (try dsimp only at hSw)
      go_simp
      all_goals with_reducible rfl
    try simp only [Act.put, List.setIfInBounds_toArray, List.set_cons_zero, List.set_cons_succ]
    refine takeL 16 (v := ?_) rfl (by kernel_rfl) (by kernel_rfl) (by kernel_rfl) (fun _ _ _ h => h) (by rfl) ?_ (by assumption) ?_
    rotate_left
    · intro w hSw
      (try dsimp only at hSw)
      go_simp
      all_goals with_reducible rfl
    try simp only [Act.put, List.setIfInBounds_toArray, List.set_cons_zero, List.set_cons_succ]
    refine takeL 17 (v := ?_) rfl (by kernel_rfl) (by kernel_rfl) (by kernel_rfl) (fun _ _ _ h => h) (by rfl) ?_ (by assumption) ?_
    rotate_left
    · intro w hSw
      (try dsimp only at hSw)
      go_simp
      all_goals with_reducible rfl
    try simp only [Act.put, List.setIfInBounds_toArray, List.set_cons_zero, List.set_cons_succ]
    refine wpAnyH_ready (rs := [4, 18]) (by kernel_rfl) (by simp) ?_
    refine consL rfl (fun K hK => ?_) (consL rfl (fun K hK => ?_) AllReadyH.nil)
    go_simp
    refine hK.out _ _ ?_ (fun hHeld => ?_)
    · (try dsimp only)
      (first | assumption | exact Sp.drew (by assumption) | exact Sp.of_kept ((KeptF.refl _ _).drew) | exact Sp.of_kept (((KeptF.refl _ _).alloc _).drew) | exact Sp.set (by assumption) _)
    clear hK K
    try simp only [Act.put, List.setIfInBounds_toArray, List.set_cons_zero, List.set_cons_succ]
    refine wpAnyH_ready (rs := [18]) (by kernel_rfl) (by simp) ?_
    refine consL rfl (fun K hK => ?_) AllReadyH.nil
    go_simp
    refine hK.out _ _ ?_ (fun hHeld => ?_)
    · (try dsimp only)
      (first | assumption | exact Sp.drew (by assumption) | exact Sp.of_kept ((KeptF.refl _ _).drew) | exact Sp.of_kept (((KeptF.refl _ _).alloc _).drew) | exact Sp.set (by assumption) _)
    clear hK K
    try simp only [Act.put, List.setIfInBounds_toArray, List.set_cons_zero, List.set_cons_succ]
    refine wpAnyH_ready (rs := [19]) (by kernel_rfl) (by simp) ?_
    refine consL rfl (fun K hK => ?_) AllReadyH.nil
    refine step_append_own rfl (.tmp 47) (.tmp 61) 60 rfl B 69 j0 _ 5 40 Try.underlying60 hj0 hy0 hy1 hy2 rfl (by decide) (.slice aod p.dn.length capd) p.dn.length (flat dpE p.dn) (by simp [Act.eval]) ?_ ⟨wc.heap.size, 0, none⟩ 1 1 [.int .i64 x.t, .int .i64 x.f, .int .i64 x.s, .int .i64 x.l, .int .i64 ro.2.1] (by simp [Act.eval]) rfl ?_ ?_ ?_ ?_ ?_ ?_
    · exact hown0
    · exact hcc
    · exact hone
    · unfold maxLen; omega
    · omega
    · exact Nat.le_trans hBc hWl
    intro v2 w2 hown2 hgr2 hfr2
    have hK2 : KeptF (fun k => (Value.slice aod p.dn.length capd).ownBlock = some k) wc w2 := (hWW.weaken (fun _ _ e => e.elim)).trans (KeptF.of_grown hgr2 (fun k h _ => h))
    have hS2 : Sp wc p.qb 11 (Value.slice aod p.dn.length capd).ownBlock w2 := Sp.of_kept hK2
    have hO2 : Own dpE w2 B v2 (p.dn ++ [⟨x, ro.2.1⟩]) := Own.snoc hown2
    have hb2 := hP.core.blk.keep hK2 nq
    have hc6b : w2.cell? ⟨p.qb, 11, none⟩ = some (.slice aod p.dn.length capd) := by rw [← Hdvf.out]; exact (hb2.cell 11).trans rfl
    have hf6b : w2.frozen? ⟨p.qb, 11, none⟩ = false := hb2.frozen _
    obtain ⟨ao2, cap2, hv2, hcap2⟩ := hO2.form'
    rw [List.length_append] at hv2
    have hv2 : v2 = .slice ao2 (p.dn.length + 1) cap2 := hv2
    subst hv2
    refine hK.out _ _ ?_ (fun hHeld => ?_)
    · (try dsimp only)
      (first | assumption | exact Sp.drew (by assumption) | exact Sp.of_kept ((KeptF.refl _ _).drew) | exact Sp.of_kept (((KeptF.refl _ _).alloc _).drew) | exact Sp.set (by assumption) _)
    clear hK K
    try simp only [Act.put, List.setIfInBounds_toArray, List.set_cons_zero, List.set_cons_succ]
    refine takeL 20 (v := ?_) rfl (by kernel_rfl) (by kernel_rfl) (by kernel_rfl) (fun _ _ _ h => h) (by rfl) ?_ (by assumption) ?_
    rotate_left
    · intro w hSw
      (try dsimp only at hSw)
      go_simp
      all_goals with_reducible rfl
    try simp only [Act.put, List.setIfInBounds_toArray, List.set_cons_zero, List.set_cons_succ]
    refine takeL 21 (v := ?_) rfl (by kernel_rfl) (by kernel_rfl) (by kernel_rfl) (fun _ _ _ h => h) (by rfl) ?_ (by assumption) ?_
    rotate_left
    · intro w hSw
      (try dsimp only at hSw)
      go_simp
      all_goals with_reducible rfl
    try simp only [Act.put, List.setIfInBounds_toArray, List.set_cons_zero, List.set_cons_succ]
    refine wpAnyH_ready (rs := [22]) (by kernel_rfl) (by simp) ?_
    refine consL rfl (fun K hK => ?_) AllReadyH.nil
    go_simp
    refine hK.out _ _ ?_ (fun hHeld => ?_)
    · (try dsimp only)
      (first | assumption | exact Sp.drew (by assumption) | exact Sp.of_kept ((KeptF.refl _ _).drew) | exact Sp.of_kept (((KeptF.refl _ _).alloc _).drew) | exact Sp.set (by assumption) _)
    clear hK K
    try simp only [Act.put, List.setIfInBounds_toArray, List.set_cons_zero, List.set_cons_succ]
    refine wpAnyH_done (by kernel_rfl) ?_ _
    rotate_left
    go_simp
    refine hK.out _ _ ?_ (fun hHeld => ?_)
    · (try dsimp only)
      (first | assumption | exact Sp.drew (by assumption) | exact Sp.of_kept ((KeptF.refl _ _).drew) | exact Sp.of_kept (((KeptF.refl _ _).alloc _).drew) | exact Sp.set (by assumption) _)
    clear hK K
    try simp only [Act.put, List.setIfInBounds_toArray, List.set_cons_zero, List.set_cons_succ]
    refine wpAnyH_ready (rs := [4]) (by kernel_rfl) (by simp) ?_
    refine consL rfl (fun K hK => ?_) AllReadyH.nil
    go_simp
    refine hK.out _ _ ?_ (fun hHeld => ?_)
    · (try dsimp only)
      (first | assumption | exact Sp.drew (by assumption) | exact Sp.of_kept ((KeptF.refl _ _).drew) | exact Sp.of_kept (((KeptF.refl _ _).alloc _).drew) | exact Sp.set (by assumption) _)
    clear hK K
    try simp only [Act.put, List.setIfInBounds_toArray, List.set_cons_zero, List.set_cons_succ]
    refine wpAnyH_ready (rs := [19]) (by kernel_rfl) (by simp) ?_
    refine consL rfl (fun K hK => ?_) AllReadyH.nil
    refine step_append_own rfl (.tmp 47) (.tmp 61) 60 rfl B 69 j0 _ 5 40 Try.underlying60 hj0 hy0 hy1 hy2 rfl (by decide) (.slice aod p.dn.length capd) p.dn.length (flat dpE p.dn) (by simp [Act.eval]) ?_ ⟨wc.heap.size, 0, none⟩ 1 1 [.int .i64 x.t, .int .i64 x.f, .int .i64 x.s, .int .i64 x.l, .int .i64 ro.2.1] (by simp [Act.eval]) rfl ?_ ?_ ?_ ?_ ?_ ?_
    · exact hown0
    · exact hcc
    · exact hone
    · unfold maxLen; omega
    · omega
    · exact Nat.le_trans hBc hWl
    intro v2 w2 hown2 hgr2 hfr2
    have hK2 : KeptF (fun k => (Value.slice aod p.dn.length capd).ownBlock = some k) wc w2 := (hWW.weaken (fun _ _ e => e.elim)).trans (KeptF.of_grown hgr2 (fun k h _ => h))
    have hS2 : Sp wc p.qb 11 (Value.slice aod p.dn.length capd).ownBlock w2 := Sp.of_kept hK2
    have hO2 : Own dpE w2 B v2 (p.dn ++ [⟨x, ro.2.1⟩]) := Own.snoc hown2
    have hb2 := hP.core.blk.keep hK2 nq
    have hc6b : w2.cell? ⟨p.qb, 11, none⟩ = some (.slice aod p.dn.length capd) := by rw [← Hdvf.out]; exact (hb2.cell 11).trans rfl
    have hf6b : w2.frozen? ⟨p.qb, 11, none⟩ = false := hb2.frozen _
    obtain ⟨ao2, cap2, hv2, hcap2⟩ := hO2.form'
    rw [List.length_append] at hv2
    have hv2 : v2 = .slice ao2 (p.dn.length + 1) cap2 := hv2
    subst hv2
    refine hK.out _ _ ?_ (fun hHeld => ?_)
    · (try dsimp only)
      (first | assumption | exact Sp.drew (by assumption) | exact Sp.of_kept ((KeptF.refl _ _).drew) | exact Sp.of_kept (((KeptF.refl _ _).alloc _).drew) | exact Sp.set (by assumption) _)
    clear hK K
    try simp only [Act.put, List.setIfInBounds_toArray, List.set_cons_zero, List.set_cons_succ]
    refine takeL 20 (v := ?_) rfl (by kernel_rfl) (by kernel_rfl) (by kernel_rfl) (fun _ _ _ h => h) (by rfl) ?_ (by assumption) ?_
    rotate_left
    · intro w hSw
      (try dsimp only at hSw)
      go_simp
      all_goals with_reducible rfl
    try simp only [Act.put, List.setIfInBounds_toArray, List.set_cons_zero, List.set_cons_succ]
    refine takeL 21 (v := ?_) rfl (by kernel_rfl) (by kernel_rfl) (by kernel_rfl) (fun _ _ _ h => h) (by rfl) ?_ (by assumption) ?_
    rotate_left
    · intro w hSw
      (try dsimp only at hSw)
      go_simp
      all_goals with_reducible rfl
    try simp only [Act.put, List.setIfInBounds_toArray, List.set_cons_zero, List.set_cons_succ]
    refine wpAnyH_ready (rs := [22]) (by kernel_rfl) (by simp) ?_
    refine consL rfl (fun K hK => ?_) AllReadyH.nil
    go_simp
    refine hK.out _ _ ?_ (fun hHeld => ?_)
    · (try dsimp only)
      (first | assumption | exact Sp.drew (by assumption) | exact Sp.of_kept ((KeptF.refl _ _).drew) | exact Sp.of_kept (((KeptF.refl _ _).alloc _).drew) | exact Sp.set (by assumption) _)
    clear hK K
    try simp only [Act.put, List.setIfInBounds_toArray, List.set_cons_zero, List.set_cons_succ]
    refine wpAnyH_done (by kernel_rfl) ?_ _
    rotate_left
    all_goals
      have hD := hP.setDn (w1 := w2) (v := .slice ao2 (p.dn.length + 1) cap2) (l := p.dn ++ [⟨x, ro.2.1⟩]) (hK2.weaken (fun i _ e => by show p.dnv.ownBlock = some i; rw [Hdvf.out]; exact e)) hO2 (fun g hg => by
        rcases hfr2 g hg with h1 | h1
        · left; show p.dnv.ownBlock = some g; rw [Hdvf.out]; exact h1
        · right; exact Nat.le_trans hWl h1)
      have hO3 : Own emE (w2.setCell ⟨p.qb, 11, none⟩ (.slice ao2 (p.dn.length + 1) cap2)) w.heap.size v ro.1 := (hO.keep hK2 (fun g hg e => by have h1 := (hO.lt hg).1; have h2 := hdold g e; omega)).keep ((KeptF.refl (fun i => i = p.qb) w2).setCell (p := ⟨p.qb, 11, none⟩) (.inl rfl) _) (fun g hg e => by have h1 := (hO.lt hg).1; omega)
      have hOl : ∀ g, v.ownBlock = some g → w.heap.size ≤ g ∧ g < wc.heap.size := fun g hg => hO.lt hg
      have hwl : ∀ i, PF p i → i < w.heap.size := fun i hi => (h.lt hi).2
      have hcw : w.heap.size ≤ wc.heap.size := hK.size
      clear hown2 hgr2 hfr2 hown0 hcc hone K8 K6 T0 T1 T2 T3
      go_wp2
      go_ret
      rw [← Hro.out]
      refine ⟨v, rfl, hO3, (hK.weaken (fun i _ e => by subst e; exact PF.q)).trans hD.2.1, .slice ao2 (p.dn.length + 1) cap2, hD.1, fun i hi => ?_, fun g hg hf => ?_⟩
      · rcases hD.2.2 i hi with h1 | h1
        · exact .inl h1
        · right; omega
      · have h0 := hOl g hg
        rcases hD.2.2 g hf with h1 | h1
        · have := hwl g h1; omega
        · omega

end Go.Proofs.Ytaieackeflmhgaa

namespace Go.Proofs.Ytaieackeflmhgaa
open Go.RowKit Go.Sort Go.Maps

/-- rows that are read, in a block from lo on -/
def RowsIn {α : Type} (sz : Nat) (enc : α → List Value) (lo : Nat) (w : World) (v : Value) (l : List α) : Prop :=
  ∃ ao cap, v = .slice ao l.length cap ∧ l.length ≤ cap ∧ (l ≠ [] → ∃ b off, ao = some ⟨b, off, none⟩ ∧ lo ≤ b ∧ b < w.heap.size ∧ ∀ (j : Nat) (x : α) (k : Nat) (u : Value), l[j]? = some x → (enc x)[k]? = some u → w.cell? ⟨b, off + j * sz + k, none⟩ = some u)

theorem RowsIn.keep {α : Type} {sz : Nat} {enc : α → List Value} {lo : Nat} {w w' : World} {v : Value} {l : List α} {F : Nat → Prop} (h : RowsIn sz enc lo w v l) (k : KeptF F w w') (hF : ∀ i, F i → i < lo) : RowsIn sz enc lo w' v l := by
  obtain ⟨ao, cap, h1, h2, h3⟩ := h
  refine ⟨ao, cap, h1, h2, fun hne => ?_⟩
  obtain ⟨b, off, h4, h5, h6, h7⟩ := h3 hne
  exact ⟨b, off, h4, h5, Nat.lt_of_lt_of_le h6 k.size, fun j x k' u hx hu => by rw [k.cell (p := ⟨b, _, none⟩) h6 (fun hf => by have := hF b hf; omega)]; exact h7 j x k' u hx hu⟩
theorem RowsIn.mono {α : Type} {sz : Nat} {enc : α → List Value} {lo lo' : Nat} {w : World} {v : Value} {l : List α} (h : RowsIn sz enc lo w v l) (hl : lo' ≤ lo) : RowsIn sz enc lo' w v l := by
  obtain ⟨ao, cap, h1, h2, h3⟩ := h
  refine ⟨ao, cap, h1, h2, fun hne => ?_⟩
  obtain ⟨b, off, h4, h5, h6, h7⟩ := h3 hne
  exact ⟨b, off, h4, by omega, h6, h7⟩
theorem RowsIn.at {α : Type} {sz : Nat} {enc : α → List Value} {lo : Nat} {w : World} {v : Value} {l : List α} (h : RowsIn sz enc lo w v l) : RowsAt sz enc w w.heap.size v l := by
  obtain ⟨ao, cap, h1, h2, h3⟩ := h
  refine ⟨ao, cap, h1, h2, fun hne => ?_⟩
  obtain ⟨b, off, h4, h5, h6, h7⟩ := h3 hne
  exact ⟨b, off, h4, h6, h7⟩
theorem Own.rowsIn {α : Type} {E : Enc α} {w : World} {B g len cap : Nat} {l : List α} (h : Own E w B (.slice (some ⟨g, 0, none⟩) len cap) l) (c : Nat) (hc : l.length ≤ c) : RowsIn E.sz E.enc B w (.slice (some ⟨g, 0, none⟩) l.length c) l := by
  refine ⟨_, _, rfl, hc, fun hne => ⟨g, 0, rfl, (h.lt rfl).1, (h.lt rfl).2, fun j x k u hx hu => ?_⟩⟩
  rw [Nat.zero_add]
  exact h.cell hx hu
theorem RowsIn.none {α : Type} (sz : Nat) (enc : α → List Value) (lo : Nat) (w : World) (ao : Option Addr) (cap : Nat) : RowsIn sz enc lo w (.slice ao 0 cap) [] := ⟨ao, cap, rfl, Nat.zero_le _, fun h => absurd rfl h⟩

/-- all of a row of one's own is appended to another one -/
theorem wpList_append_all {P : Program} {w : World} {ops : Array Oper} {rest : List Oper} {o : Oper} {a : Act} {Q : Exit → Act → World → Prop} (hgd : o.guard = none) (s x : Operand) (t : TypeId)
    (ho : o.op = .call { callee := .builtin .append, args := #[s, x], argTypes := #[t, t] }) {α : Type} (E : Enc α)
    (base : Nat) (i : TypeInfo) (z : Value) (bytes : Nat) (ht : P.underlying t = some (.slice E.T)) (hi : P.info? E.T = some i) (hz : i.zero = some z)
    (hsize : i.size = E.sz) (hby : i.bytes = bytes) (hzs : z.cells.size = E.sz)
    (v xv : Value) (l : List α) (B : Nat) (hs : a.eval s = v) (hown : Own E w base v []) (hx : a.eval x = xv) (hsrc : Own E w B xv l)
    (h63 : l.length ≤ maxLen) (hbytes : l.length * bytes ≤ 140737488355328) (hbase : base ≤ w.heap.size)
    (h : ∀ v' w', Own E w' base v' l → w.grownBy w' v.ownBlock → wpList P ops Q rest (a.put o.dst v') w') : wpList P ops Q (o :: rest) a w :=
  wpList_plain hgd fun _ hK => by
    rcases hsrc.form with ⟨hv, hl⟩ | ⟨g, cap, hv, hcap⟩
    · have hr := run_append_owned_none (P := P) w base t o.type E.T i E.sz ht hi v 0 [] hown
      subst hv hl
      unfold Oper.wp execOp
      simp only [ho, resolve, invoke, builtin, Sem.run_bind, Sem.run_pure, Result.andThen_ok, List.map_toArray, List.map_cons, List.map_nil, hs, hx, hr]
      exact hK _ _ (h v w hown ⟨rfl, rfl, rfl, Nat.le_refl _, fun _ _ _ => rfl⟩)
    · subst hv
      have hc := hsrc.takeCells l.length (Nat.le_refl _)
      rw [List.take_length] at hc
      obtain ⟨v', w', hr, r1, r2, r3⟩ := run_append_ownX (P := P) w base t o.type E.T i z E.sz bytes ht hi hz hsize hby hzs E.pos v 0 [] hown ⟨g, 0, none⟩ l.length cap (flat E l) (flat_length E l) hc (flat_one E l) (by omega) (by rw [Nat.zero_add]; exact hbytes) hbase
      unfold Oper.wp execOp
      simp only [ho, resolve, invoke, builtin, Sem.run_bind, Sem.run_pure, Result.andThen_ok, List.map_toArray, List.map_cons, List.map_nil, hs, hx, hr]
      refine hK _ _ (h v' w' ?_ r2)
      unfold Own
      rw [Nat.zero_add, List.nil_append] at r1
      exact r1

set_option maxRecDepth 100000 in
set_option maxHeartbeats 2000000 in
theorem told_any (w : World) (B : Nat) (p : Pr) (h : PAt w B p) (hl : p.dn.length ≤ 5000) :
    Calls Try.prog 53 #[.pointer (some ⟨p.qb, 0, none⟩)] w fun e w' => ∃ ao cap, e = .returned (.slice ao p.dn.length cap) ∧ Below w.heap.size w w' ∧ RowsIn 5 dnC w.heap.size w' (.slice ao p.dn.length cap) p.dn := by
  obtain ⟨aod, capd, hdvf, hcapd⟩ := h.own.form'
  have c8 : w.cell? ⟨p.qb, 11, none⟩ = some (.slice aod p.dn.length capd) := by rw [← hdvf]; exact h.cells.2.2.2
  obtain ⟨j0, hj0, hy0, hy1, hy2⟩ := info_parts info_dp
  have hlq := h.core.blk.lt
  have hown0 : Own dpE (w.alloc (.cells #[] 69)) w.heap.size (.slice (some ⟨w.heap.size, 0, none⟩) 0 0) [] := Own.madeNil dpE w w.heap.size 0 #[] (Nat.le_refl _) (Nat.zero_le _) rfl
  have hsrc : Own dpE (w.alloc (.cells #[] 69)) B (.slice aod p.dn.length capd) p.dn := by
    rw [← hdvf]
    exact h.own.keep ((KeptF.refl (fun _ => False) w).alloc _) (fun _ _ e => e)
  have hb0 : Below w.heap.size w (w.alloc (.cells #[] 69)) := (Below.refl _ _).alloc (Nat.le_refl _) _
  clear hdvf
  go_enter Try.func53, Try.ntmps53
  go_wp2_with (at_builtin; refine wpList_append_all rfl (.tmp 9) (.tmp 13) 60 rfl dpE w.heap.size j0 _ 40 Try.underlying60 hj0 hy0 hy1 hy2 rfl (.slice (some ⟨w.heap.size, 0, none⟩) 0 0) (.slice aod p.dn.length capd) p.dn B rfl ?own rfl ?src ?b1 ?b2 ?hb ?k)
  case own => exact hown0
  case src => exact hsrc
  case b1 => unfold maxLen; omega
  case b2 => omega
  case hb => exact hb0.size
  case k =>
    intro v2 w2 hO2 hgr2
    have hb2 : Below w.heap.size w w2 := hb0.trans (KeptF.below (F := fun i => i = w.heap.size) (KeptF.of_grown hgr2 (fun k e _ => by simp [Value.ownBlock] at e; exact e.symm)) hb0.size (fun i hi => by omega))
    rcases hO2.form with ⟨hv, hn⟩ | ⟨g, cap, hv, hcap⟩
    · subst hv
      have hn0 : p.dn.length = 0 := by rw [hn]; rfl
      have Hn : Hid (p.dn = []) := hn
      rw [hn0]
      clear hn hn0
      go_wp2
      go_ret
      rw [Hn.out]
      exact ⟨none, 0, rfl, hb2, RowsIn.none _ _ _ _ _ _⟩
    · subst hv
      clear hown0 hsrc hgr2 c8
      have hrow := hO2.rowsIn p.dn.length (Nat.le_refl _)
      go_wp2
      go_ret
      exact ⟨_, _, rfl, hb2, hrow⟩

end Go.Proofs.Ytaieackeflmhgaa

namespace Go.Proofs.Ytaieackeflmhgaa
open Go.RowKit Go.Sort Go.Maps

set_option maxRecDepth 100000 in
set_option maxHeartbeats 4000000 in
theorem alike_any (w : World) (B : Nat) (va vb : Value) (l : List Dn) (ha : RowsAt 5 dnC w B va l) (hb : RowsAt 5 dnC w B vb l) (hB : B ≤ w.heap.size) (hl : l.length ≤ 5000) :
    Calls Try.prog 24 #[va, vb] w fun e w' => e = .returned (.bool true) ∧ Below w.heap.size w w' := by
  obtain ⟨aoa, capa, rfl, hcapa⟩ := RowsAt.form ha
  obtain ⟨aob, capb, rfl, hcapb⟩ := RowsAt.form hb
  go_enter Try.func24, Try.ntmps24
  go_wp2
  go_loopw [5] (fun s5 wr => ∃ i : Nat, s5 = .int .i64 i ∧ i ≤ l.length ∧ Below w.heap.size w wr) (fun s5 _ => l.length - (intOf s5).toNat)
  case atStart => exact ⟨0, rfl, Nat.zero_le _, Below.refl _ _⟩
  case round =>
    obtain ⟨i, rfl, hi, hbw⟩ := hrel
    by_cases hlt : i < l.length
    · obtain ⟨x, hx⟩ := get_of_lt hlt
      obtain ⟨ba, oa, haa, hbaB, hca⟩ := RowsAt.at_ (ha.keep (hbw.mono hB)) hx
      obtain ⟨bb, ob, hab, hbbB, hcb⟩ := RowsAt.at_ (hb.keep (hbw.mono hB)) hx
      subst haa hab
      have a0 := cell_regrown (hca 0 (.int .i64 x.it.t) rfl)
      have a1 := cell_regrown (hca 1 (.int .i64 x.it.f) rfl)
      have a2 := cell_regrown (hca 2 (.int .i64 x.it.s) rfl)
      have a3 := cell_regrown (hca 3 (.int .i64 x.it.l) rfl)
      have a4 := cell_regrown (hca 4 (.int .i64 x.st) rfl)
      have c0 := cell_regrown (hcb 0 (.int .i64 x.it.t) rfl)
      have c1 := cell_regrown (hcb 1 (.int .i64 x.it.f) rfl)
      have c2 := cell_regrown (hcb 2 (.int .i64 x.it.s) rfl)
      have c3 := cell_regrown (hcb 3 (.int .i64 x.it.l) rfl)
      have c4 := cell_regrown (hcb 4 (.int .i64 x.st) rfl)
      simp only [Nat.add_zero] at a0 c0
      have hil : (i : Int) < l.length := by omega
      clear hca hcb hx
      go_upto_region 6 with fail
      refine wp_region_quiet_below (by kernel_rfl) (by kernel_rfl) ?_
      repeat (quiet_step (fail))
      refine wpQuiet_nil ?_
      intro wq hw'
      have hbq := below_of_regrown hw'
      clear hw' a0 a1 a2 a3 a4 c0 c1 c2 c3 c4
      go_wp2
      go_roundw
      case rel => exact ⟨i + 1, by go_num, hlt, hbw.trans (hbq.mono hbw.size)⟩
      case measure => simp [intOf]; omega
    · go_wp2
      go_ret
      exact ⟨rfl, hbw⟩

end Go.Proofs.Ytaieackeflmhgaa

