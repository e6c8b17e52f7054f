/-
  The program: a process does an event.
  The program: the words of a clock.
  The program: a new clock.
-/
import Derived.Test.YtkobkilfbbalaaaK08
import Derived.Test.YtkobkilfbbalaaaK06
import Derived.Deep.Cut
import Derived.Deep.CutRange
import Derived.Deep.DeepCutAuto
import Derived.Deep.RegionHeld3
namespace Go.Proofs.Ytkobkilfbbalaaa
open Go.RowKit Go.Sort Go.Maps

def emC (e : Em) : List Value := [.int .i64 e.it.t, .int .i64 e.it.f, .int .i64 e.it.s, .int .i64 e.it.l, .int .i64 0, .int .i64 e.k]
def emE : Enc Em := ⟨6, 141, emC, fun _ => rfl, by omega, fun x u hu => by
  simp only [emC, List.mem_cons, List.not_mem_nil, or_false] at hu
  rcases hu with rfl | rfl | rfl | rfl | rfl | rfl <;> rfl⟩
theorem info_dp : (Try.prog.info? 113).map (fun i => (i.zero, i.size, i.bytes)) = some (some (.agg #[.int .i64 0, .int .i64 0, .int .i64 0, .int .i64 0, .int .i64 0]), 5, 40) := by kernel_rfl
theorem info_em : (Try.prog.info? 141).map (fun i => (i.zero, i.size, i.bytes)) = some (some (.agg #[.int .i64 0, .int .i64 0, .int .i64 0, .int .i64 0, .int .i64 0, .int .i64 0]), 6, 48) := by kernel_rfl

theorem blk_newP {W : World} {b : Nat} {c : Array Value} {T : TypeId} (h : b = W.heap.size) : Blk (W.alloc (.cells c T)) b c T := by
  subst h; exact heap_alloc_new W _
theorem Gr.drewP {a b : World} (h : Gr a b) : Gr a b.drew := ⟨h.os, h.tape, h.output, h.size, h.block⟩
theorem Gr.setNew {a b : World} (h : Gr a b) {p : Addr} (hp : a.heap.size ≤ p.block) (v : Value) : Gr a (b.setCell p v) := Below.setCell h hp v

theorem Own.madeNil {α : Type} (E : Enc α) (w : World) (B c : Nat) (cells : Array Value) (hB : B ≤ w.heap.size) (hc : c ≤ maxLen) (hs : cells.size = c * E.sz) : Own E (w.alloc (.cells cells E.T)) B (.slice (some ⟨w.heap.size, 0, none⟩) 0 c) [] :=
  World.ownsRow_made w _ c hB hc hs

theorem findP_at {m : Mdl} {p s l : Int} {i : Nat} {r : MRule} (h1 : m.rules[i]? = some r) (h2 : ruleFor p s l r = true) (h3 : ∀ (j : Nat) (y : MRule), j < i → m.rules[j]? = some y → ruleFor p s l y = false) : ruleAt m p s l = some r := by
  unfold ruleAt
  have hi := get_lt h1
  rw [List.find?_eq_some_iff_getElem]
  refine ⟨h2, i, hi, ?_, fun j hj => ?_⟩
  · rw [List.getElem?_eq_getElem hi, Option.some.injEq] at h1; exact h1
  · have := h3 j _ hj (List.getElem?_eq_getElem (by omega))
    simp [this]
theorem findP_none {m : Mdl} {p s l : Int} (h : ∀ (j : Nat) (y : MRule), m.rules[j]? = some y → ruleFor p s l y = false) : ruleAt m p s l = none := by
  unfold ruleAt
  rw [List.find?_eq_none]
  intro x hx
  obtain ⟨j, hj⟩ := List.getElem?_of_mem hx
  simp [h j x hj]

set_option maxRecDepth 100000 in
set_option maxHeartbeats 8000000 in
theorem emit_any (w : World) (B Bm : Nat) (ev : Value) (es : List MEmit) (t : Int) (p : Pr) (h : PAt w B p) (hE : EmitsAt w Bm ev es) (hBm : Bm ≤ B) (hB : B ≤ w.heap.size) (hel : es.length ≤ 4) (hd : ∀ x ∈ es, 0 ≤ x.d ∧ x.d ≤ 60)
    (ht0 : 0 ≤ t) (ht1 : t ≤ 260) (hs0 : 0 ≤ p.sent) (hs1 : p.sent ≤ 5000) :
    Calls Try.prog 82 #[.pointer (some ⟨p.qb, 0, none⟩), ev, .int .i64 t] w fun e w' => ∃ v : Value, e = .returned v ∧ Own emE w' w.heap.size v (es.mapIdx (em1 p.num p.sent t)) ∧ PAt w' B { p with sent := p.sent + es.length } ∧ KeptF (fun i => i = p.qb) w w' := by
  obtain ⟨aoe, cape, rfl, hcape⟩ := RowsAt.form hE
  obtain ⟨i0, hi0, hz0, hz1, hz2⟩ := info_parts info_em
  have hmk : ∀ W : World, (Instr.makeSlice 131 (.int .i64 0) (.int .i64 (es.length : Int))).run Try.prog W = .ok (.slice (some ⟨W.heap.size, 0, none⟩) 0 es.length) (W.alloc (.cells (madeCells (Value.cells (.agg #[.int .i64 0, .int .i64 0, .int .i64 0, .int .i64 0, .int .i64 0, .int .i64 0])) (es.length * 6)) 141)) := fun W => by
    have := run_make (P := Try.prog) W 131 141 i0 _ Try.underlying131 hi0 hz0 .i64 .i64 0 (es.length : Int) (Int.le_refl _) (by omega) (by rw [hz2]; omega) (by omega)
    rw [hz1] at this
    simpa using this
  have hlq := h.core.blk.lt
  have hO2 := Own.madeNil emE w w.heap.size es.length (madeCells (Value.cells (.agg #[.int .i64 0, .int .i64 0, .int .i64 0, .int .i64 0, .int .i64 0, .int .i64 0])) (es.length * 6)) (Nat.le_refl _) (by unfold maxLen; omega) (size_madeCells _ _)
  have hP2 := h.keep ((KeptF.refl (fun _ => False) w).alloc (.cells (madeCells (Value.cells (.agg #[.int .i64 0, .int .i64 0, .int .i64 0, .int .i64 0, .int .i64 0, .int .i64 0])) (es.length * 6)) 141)) (fun _ _ e => e)
  have hk2 : KeptF (fun i => i = p.qb) w (w.alloc (.cells (madeCells (Value.cells (.agg #[.int .i64 0, .int .i64 0, .int .i64 0, .int .i64 0, .int .i64 0, .int .i64 0])) (es.length * 6)) 141)) := (KeptF.refl _ w).alloc _
  go_enter Try.func82, Try.ntmps82
  go_wp2
  clear hmk
  go_loopw [7, 16] (fun s7 s16 wr => ∃ (k : Nat) (v : Value), s7 = v ∧ s16 = .int .i64 k ∧ k ≤ es.length ∧ Own emE wr w.heap.size v ((es.mapIdx (em1 p.num p.sent t)).take k) ∧ PAt wr B { p with sent := p.sent + (k : Int) } ∧ KeptF (fun i => i = p.qb) w wr) (fun _ s16 _ => es.length - (intOf s16).toNat)
  case atStart =>
    refine ⟨0, _, rfl, rfl, Nat.zero_le _, ?_, ?_, hk2⟩
    · rw [List.take_zero]; exact hO2
    · have : p.sent + ((0 : Nat) : Int) = p.sent := by omega
      rw [this]; exact hP2
  case round =>
    clear hO2 hP2 hk2
    obtain ⟨k, v, rfl, rfl, hk, hO, hP, hK⟩ := hrel
    have hsz := hK.size
    by_cases hlt : k < es.length
    · obtain ⟨e, he⟩ := get_of_lt hlt
      have hbw : Below B w wr := KeptF.below hK hB (fun i hi => by subst hi; exact h.core.lowq)
      obtain ⟨eb, eo, hao, hebB, hec⟩ := RowsAt.at_ (RowsAt.keep hE (hbw.mono hBm)) he
      subst hao
      have x0 := hec 0 (.int .i64 e.k) rfl
      have x1 := hec 1 (.int .i64 e.d) rfl
      have x2 := hec 2 (.int .i64 e.l) rfl
      simp only [Nat.add_zero] at x0
      have hed := hd e (List.mem_of_getElem? he)
      have hwrap : IntKind.i64.wrap (t + e.d) = t + e.d := by rw [IntKind.wrap_i64]; omega
      have He : Hid (es[k]? = some e) := he
      obtain ⟨ao2, cap2, hvf, hcap2⟩ := hO.form'
      have hlk : ((es.mapIdx (em1 p.num p.sent t)).take k).length = k := by simp; omega
      have Hlk : Hid (((es.mapIdx (em1 p.num p.sent t)).take k).length = k) := hlk
      rw [hlk] at hvf hcap2
      subst hvf
      clear hlk he hec
      have heb : Blk (wr.alloc (.cells #[.int .i64 e.k, .int .i64 e.d, .int .i64 e.l] 85)) wr.heap.size #[.int .i64 e.k, .int .i64 e.d, .int .i64 e.l] 85 := heap_alloc_new wr _
      have hPe := hP.keep ((KeptF.refl (fun _ => False) wr).alloc (.cells #[.int .i64 e.k, .int .i64 e.d, .int .i64 e.l] 85)) (fun _ _ e => e)
      have K1 := Gr.cells (v := .int .i64 e.d) (heb.cell 1)
      have K2 := Gr.cells (v := .int .i64 e.l) (heb.cell 2)
      have Kn := Gr.cells (v := .int .i64 p.num) hPe.cells.1
      have Ks := Gr.cells (v := .int .i64 (p.sent + (k : Int))) hPe.cells.2.2.1
      have hlb : eb < wr.heap.size := block_lt_of_cell x0
      have hlp := hP.core.blk.lt
      go_wp2
      go_region_held3 (fun W => Gr (wr.alloc (.cells #[.int .i64 e.k, .int .i64 e.d, .int .i64 e.l] 85)) W) (first | assumption | exact Gr.drewP (Gr.refl _) | exact Gr.alloc (by assumption) _ | exact Gr.drewP (Gr.alloc (Gr.refl _) _)) (fail)
      clear K1 K2 Kn Ks
      have hcc : ∀ j u, ([.int .i64 (t + e.d), .int .i64 p.num, .int .i64 (p.sent + (k : Int)), .int .i64 e.l, .int .i64 0, .int .i64 e.k])[j]? = some u → ((((wr.alloc (.cells #[.int .i64 e.k, .int .i64 e.d, .int .i64 e.l] 85)).alloc (.cells #[.int .i64 (t + e.d), .int .i64 p.num, .int .i64 (p.sent + (k : Int)), .int .i64 e.l] 102)).drew).alloc (.cells #[.int .i64 (t + e.d), .int .i64 p.num, .int .i64 (p.sent + (k : Int)), .int .i64 e.l, .int .i64 0, .int .i64 e.k] 141)).cell? ((⟨wr.heap.size + 2, 0, none⟩ : Addr).add j) = some u := fun j u hu => by
        have := newCells (((wr.alloc (.cells #[.int .i64 e.k, .int .i64 e.d, .int .i64 e.l] 85)).alloc (.cells #[.int .i64 (t + e.d), .int .i64 p.num, .int .i64 (p.sent + (k : Int)), .int .i64 e.l] 102)).drew) [.int .i64 (t + e.d), .int .i64 p.num, .int .i64 (p.sent + (k : Int)), .int .i64 e.l, .int .i64 0, .int .i64 e.k] 141 j u hu
        simpa using this
      have hone : ∀ u ∈ ([.int .i64 (t + e.d), .int .i64 p.num, .int .i64 (p.sent + (k : Int)), .int .i64 e.l, .int .i64 0, .int .i64 e.k] : List Value), u.oneCell' = true := by
        intro u hu
        simp only [List.mem_cons, List.not_mem_nil, or_false] at hu
        rcases hu with rfl | rfl | rfl | rfl | rfl | rfl <;> rfl
      have hWW : KeptF (fun _ => False) wr ((((wr.alloc (.cells #[.int .i64 e.k, .int .i64 e.d, .int .i64 e.l] 85)).alloc (.cells #[.int .i64 (t + e.d), .int .i64 p.num, .int .i64 (p.sent + (k : Int)), .int .i64 e.l] 102)).drew).alloc (.cells #[.int .i64 (t + e.d), .int .i64 p.num, .int .i64 (p.sent + (k : Int)), .int .i64 e.l, .int .i64 0, .int .i64 e.k] 141)) := ((((KeptF.refl _ wr).alloc _).alloc _).drew).alloc _
      have hWl := hWW.size
      have hown0 : ((((wr.alloc (.cells #[.int .i64 e.k, .int .i64 e.d, .int .i64 e.l] 85)).alloc (.cells #[.int .i64 (t + e.d), .int .i64 p.num, .int .i64 (p.sent + (k : Int)), .int .i64 e.l] 102)).drew).alloc (.cells #[.int .i64 (t + e.d), .int .i64 p.num, .int .i64 (p.sent + (k : Int)), .int .i64 e.l, .int .i64 0, .int .i64 e.k] 141)).ownsRow w.heap.size 141 6 (.slice ao2 k cap2) k (flat emE ((es.mapIdx (em1 p.num p.sent t)).take k)) := by
        have := hO.keep hWW (fun _ _ e => e)
        unfold Own at this
        rw [Hlk.out] at this
        exact this
      go_wp2_with (at_builtin; refine wpList_append_ownX rfl (.tmp 35) (.tmp 40) 131 rfl w.heap.size 141 i0 _ 6 48 Try.underlying131 hi0 hz0 hz1 hz2 rfl (by decide) (.slice ao2 k cap2) k (flat emE ((es.mapIdx (em1 p.num p.sent t)).take k)) rfl ?own ⟨wr.heap.size + 2, 0, none⟩ 1 1 [.int .i64 (t + e.d), .int .i64 p.num, .int .i64 (p.sent + (k : Int)), .int .i64 e.l, .int .i64 0, .int .i64 e.k] rfl ?len ?cells ?one ?b1 ?b2 ?hb ?k)
      case own => exact hown0
      case len => rfl
      case cells => exact hcc
      case one => exact hone
      case b1 => unfold maxLen; omega
      case b2 => omega
      case hb => exact Nat.le_trans hsz hWl
      case k =>
        intro v2 w2 hown2 hgr2 hfr2
        have hK2 : KeptF (fun g => (Value.slice ao2 k cap2).ownBlock = some g) wr w2 := (hWW.weaken (fun _ _ e => e.elim)).trans (KeptF.of_grown hgr2 (fun k h _ => h))
        have hOb : ∀ g, (Value.slice ao2 k cap2).ownBlock = some g → w.heap.size ≤ g := fun g hg => (hO.lt hg).1
        have hP2 := hP.keep hK2 (fun i hi e => by have := (h.lt hi).2; have := hOb i e; omega)
        have hKw : KeptF (fun i => i = p.qb) w w2 := hK.trans' hK2 (fun i hi e => by have := hOb i e; omega)
        have hO2 : Own emE w2 w.heap.size v2 ((es.mapIdx (em1 p.num p.sent t)).take (k + 1)) := by
          have h2 : (es.mapIdx (em1 p.num p.sent t))[k]? = some (em1 p.num p.sent t k e) := by rw [List.getElem?_mapIdx, He.out]; rfl
          rw [List.take_add_one, h2]
          exact Own.snoc (by rw [Hlk.out]; exact hown2)
        have c7 : w2.cell? ⟨p.qb, 10, none⟩ = some (.int .i64 (p.sent + (k : Int))) := hP2.cells.2.2.1
        have f7 : w2.frozen? ⟨p.qb, 10, none⟩ = false := hP2.core.blk.frozen 10
        have hsz2 : w.heap.size ≤ w2.heap.size := Nat.le_trans hsz hK2.size
        have hol : ∀ g, v2.ownBlock = some g → w.heap.size ≤ g := fun g hg => (hO2.lt hg).1
        clear hown2 hgr2 hfr2 hown0 hcc hone hWW hO
        go_wp2
        go_roundw
        case rel =>
          have hs2 := (hP2.setSent (p.sent + (k : Int) + 1)).1
          have hk2 := (hP2.setSent (p.sent + (k : Int) + 1)).2
          have e1 : p.sent + ((k + 1 : Nat) : Int) = p.sent + (k : Int) + 1 := by omega
          have hqw : p.qb < w.heap.size := h.core.blk.lt
          refine ⟨k + 1, v2, rfl, by go_num, hlt, hO2.keep ((KeptF.refl (fun i => i = p.qb) w2).setCell (p := ⟨p.qb, 10, none⟩) (.inl rfl) _) (fun g hg e => by have := hol g hg; omega), ?_, hKw.trans hk2⟩
          rw [e1]; exact hs2
        case measure => simp [intOf]; omega
    · have hke : k = es.length := by omega
      subst hke
      go_wp2
      go_ret
      refine ⟨_, rfl, ?_, hP, hK⟩
      have := hO
      rw [List.take_of_length_le (by simp)] at this
      exact this

set_option maxRecDepth 100000 in
set_option maxHeartbeats 8000000 in
theorem pdo_any (w : World) (B Bm : Nat) (lv rv sv : Value) (m : Mdl) (R : List RuleV) (p : Pr) (x : It) (h : PAt w B p) (hm : Right m) (hM : ModelAt w Bm lv rv sv m R) (hBm : Bm ≤ B) (hB : B ≤ w.heap.size)
    (hx0 : 0 ≤ x.t) (hx1q : x.t ≤ 260) (hs0 : 0 ≤ p.sent) (hs1 : p.sent ≤ 5000) (hdl : p.dn.length ≤ 5000) :
    Calls Try.prog 53 #[.pointer (some ⟨p.qb, 0, none⟩), .agg #[.int .i64 m.procs, .int .i64 m.states, .int .i64 m.loads, lv, rv, sv], .agg #[.int .i64 x.t, .int .i64 x.f, .int .i64 x.s, .int .i64 x.l]] w fun e w' => ∃ v : Value, e = .returned v ∧ Own emE w' w.heap.size v (ruleOut m p.num p.st p.sent x).1 ∧ KeptF (PF p) w w' ∧ ∃ dv2 : Value, PAt w' B { p with st := (ruleOut m p.num p.st p.sent x).2.1, sent := (ruleOut m p.num p.st p.sent x).2.2, dnv := dv2, dn := p.dn ++ [⟨x, (ruleOut m p.num p.st p.sent x).2.1⟩] } ∧
      (∀ i, PF { p with st := (ruleOut m p.num p.st p.sent x).2.1, sent := (ruleOut m p.num p.st p.sent x).2.2, dnv := dv2, dn := p.dn ++ [⟨x, (ruleOut m p.num p.st p.sent x).2.1⟩] } i → PF p i ∨ w.heap.size ≤ i) ∧
      (∀ g, v.ownBlock = some g → ¬ PF { p with st := (ruleOut m p.num p.st p.sent x).2.1, sent := (ruleOut m p.num p.st p.sent x).2.2, dnv := dv2, dn := p.dn ++ [⟨x, (ruleOut m p.num p.st p.sent x).2.1⟩] } g) := by
  obtain ⟨W0, hW0⟩ : ∃ W0, W0 = (w.alloc (.cells #[.int .i64 m.procs, .int .i64 m.states, .int .i64 m.loads, lv, rv, sv] 31)).alloc (.cells #[.int .i64 x.t, .int .i64 x.f, .int .i64 x.s, .int .i64 x.l] 102) := ⟨_, rfl⟩
  have hb0 : Below w.heap.size w W0 := by rw [hW0]; exact ((Below.refl _ _).alloc (Nat.le_refl _) _).alloc (by simp) _
  have hmb : Blk W0 w.heap.size #[.int .i64 m.procs, .int .i64 m.states, .int .i64 m.loads, lv, rv, sv] 31 := by rw [hW0]; exact Blk.alloc (heap_alloc_new w _) _
  have hxb : Blk W0 (w.heap.size + 1) #[.int .i64 x.t, .int .i64 x.f, .int .i64 x.s, .int .i64 x.l] 102 := by rw [hW0]; exact blk_newP (by simp)
  have hP0 := h.keep (kept_of_below' hb0) (fun _ _ e => e)
  have HW0 : Hid (W0 = (w.alloc (.cells #[.int .i64 m.procs, .int .i64 m.states, .int .i64 m.loads, lv, rv, sv] 31)).alloc (.cells #[.int .i64 x.t, .int .i64 x.f, .int .i64 x.s, .int .i64 x.l] 102)) := hW0
  clear hW0
  have hB0 : B ≤ W0.heap.size := Nat.le_trans hB hb0.size
  have hMb := hM.keep (hb0.mono (Nat.le_trans hBm hB))
  have k4 := cell_regrown (v := rv) (hmb.cell 4)
  have k5 := cell_regrown (v := .int .i64 p.num) hP0.cells.1
  have k6 := cell_regrown (v := .int .i64 p.st) hP0.cells.2.1
  have kx := cell_regrown (v := .int .i64 x.l) (hxb.cell 3)
  have hfind : ∀ q : Regrown, Calls Try.prog 76 #[rv, .int .i64 p.num, .int .i64 p.st, .int .i64 x.l] (grow (redrawn W0 q.d) q.os) fun e' w'' => e' = .returned (.int .i64 (firstIx (ruleFor p.num p.st x.l) m.rules)) ∧ ∃ q : Regrown, w'' = grow (redrawn W0 q.d) q.os := fun q => by
    have hb2 := below_regrown W0 q.d q.os
    have hk := hMb.keep (hb2.mono (Nat.le_trans hBm hB0))
    have := Calls.regrown_of (findRule_any p.num p.st x.l rv R Bm _ hk.rules.1 (Nat.le_trans hBm (Nat.le_trans hB0 hb2.size)) (by rw [hM.rlen]; exact hm.lim.nr))
    rw [← firstIx_map RuleV.r (ruleFor p.num p.st x.l) R, hM.same] at this
    exact this
  have hfc := firstIx_cases (ruleFor p.num p.st x.l) m.rules
  generalize firstIx (ruleFor p.num p.st x.l) m.rules = fi at hfind hfc
  have hlq := h.core.blk.lt
  have hlq0 := hP0.core.blk.lt
  go_enter Try.func53, Try.ntmps53
  go_upto_region 2 with fail
  rw [← HW0.out]
  refine wp_region_quiet_below (by kernel_rfl) (by kernel_rfl) ?_
  repeat (quiet_step (exact hfind _))
  refine wpQuiet_nil ?_
  intro wq hw'
  have hbq := below_of_regrown hw'
  have hwq : Below w.heap.size w wq := hb0.trans (hbq.mono hb0.size)
  have hPq := hP0.keep (kept_of_below' hbq) (fun _ _ e => e)
  have hmq := hmb.keep (kept_of_below' hbq) (fun e => e)
  have hxq := hxb.keep (kept_of_below' hbq) (fun e => e)
  clear hw' k4 k5 k6 kx hfind hP0 hmb hxb
  go_upto_if 23 with fail
  go_cut [7] (fun s7 wc => ∃ v : Value, v = s7 ∧ Own emE wc w.heap.size v (ruleOut m p.num p.st p.sent x).1 ∧ PAt wc B { p with st := (ruleOut m p.num p.st p.sent x).2.1, sent := (ruleOut m p.num p.st p.sent x).2.2 } ∧ KeptF (fun i => i = p.qb) w wc ∧ Blk wc (w.heap.size + 1) #[.int .i64 x.t, .int .i64 x.f, .int .i64 x.s, .int .i64 x.l] 102)
  case first =>
    rcases hfc with ⟨rfl, hno⟩ | ⟨ri, r, rfl, hri, hrf, hrb⟩
    · have Hout : Hid (ruleOut m p.num p.st p.sent x = ([], p.st, p.sent)) := by
        show _ = _
        unfold ruleOut
        rw [findP_none hno]
      clear hno
      go_wp2
      go_meet
      case rel =>
        refine ⟨.slice none 0 0, rfl, ?_, ?_, KeptF.of_below hwq, hxq⟩
        · rw [Hout.out]; exact Own.nil _ _ _
        · rw [Hout.out]; exact hPq
    · have Hout : Hid (ruleOut m p.num p.st p.sent x = (r.es.mapIdx (em1 p.num p.sent x.t), r.n, p.sent + r.es.length)) := by
        show _ = _
        unfold ruleOut
        rw [findP_at hri hrf hrb]
      have hro := ruleOk_iff (hm.rule hri)
      obtain ⟨⟨r', ev⟩, hRx, hRr, hE⟩ := hM.rule (get_lt hri)
      have hrr : r' = r := by have h1 : m.rules[ri]? = some r' := hRr; rw [hri] at h1; cases h1; rfl
      subst hrr
      have hE : EmitsAt w Bm ev r'.es := hE
      obtain ⟨aor, capr, hrv, hcapr⟩ := RowsAt.form hM.rules.1
      rw [hM.rlen] at hrv hcapr
      subst hrv
      obtain ⟨rb, ro, hao, hrbB, hrc⟩ := RowsAt.at_ hM.rules.1 hRx
      subst hao
      obtain ⟨aoe, cape, rfl, hcape⟩ := RowsAt.form hE
      have hBw : Bm ≤ w.heap.size := Nat.le_trans hBm hB
      have r3 : wq.cell? ⟨rb, ro + ri * 5 + 3, none⟩ = some (.int .i64 r'.n) := (hwq.cell (p := ⟨rb, _, none⟩) (Nat.lt_of_lt_of_le hrbB hBw)).trans (hrc 3 _ rfl)
      have r4 : wq.cell? ⟨rb, ro + ri * 5 + 4, none⟩ = some (.slice aoe r'.es.length cape) := (hwq.cell (p := ⟨rb, _, none⟩) (Nat.lt_of_lt_of_le hrbB hBw)).trans (hrc 4 _ rfl)
      have q4 : wq.cell? ⟨w.heap.size, 4, none⟩ = some (.slice (some ⟨rb, ro, none⟩) m.rules.length capr) := hmq.cell 4
      have hri' := get_lt hri
      have hril : (ri : Int) < m.rules.length := by omega
      have hel : r'.es.length ≤ 4 := hro.2.2.2.2.1
      have hed : ∀ y ∈ r'.es, 0 ≤ y.d ∧ y.d ≤ 60 := fun y hy => by
        obtain ⟨z, z1, z2, z3, z4, z5, z6, _⟩ := emitOk_iff (hro.2.2.2.2.2 y hy)
        have := hm.link z1
        omega
      have hql2 := hmq.lt
      have hql3 := hxq.lt
      have hrbl : rb < wq.heap.size := block_lt_of_cell r3
      have hqlt := hPq.core.blk.lt
      have hqf : wq.frozen? ⟨p.qb, 9, none⟩ = false := hPq.core.blk.frozen 9
      have hq6 : wq.cell? ⟨p.qb, 9, none⟩ = some (.int .i64 p.st) := hPq.cells.2.1
      have hP1 := (hPq.setSt r'.n).1
      have hk1 : KeptF (fun i => i = p.qb) w (wq.setCell ⟨p.qb, 9, none⟩ (.int .i64 r'.n)) := (KeptF.of_below hwq).trans (hPq.setSt r'.n).2
      have hm1 := hmq.set_other (a := ⟨p.qb, 9, none⟩) (show w.heap.size ≠ p.qb by omega) (.int .i64 r'.n)
      have hx1 := hxq.set_other (a := ⟨p.qb, 9, none⟩) (show w.heap.size + 1 ≠ p.qb by omega) (.int .i64 r'.n)
      clear hri hRx hRr
      go_upto_region 5 with fail
      generalize wq.setCell ⟨p.qb, 9, none⟩ (.int .i64 r'.n) = W1 at *
      have hbl1 : Below B w W1 := KeptF.below hk1 hB (fun i hi => by subst hi; exact h.core.lowq)
      have c4 : W1.cell? ⟨rb, ro + ri * 5 + 4, none⟩ = some (.slice aoe r'.es.length cape) := (hbl1.cell (p := ⟨rb, _, none⟩) (Nat.lt_of_lt_of_le hrbB hBm)).trans (hrc 4 _ rfl)
      have p4 : W1.cell? ⟨w.heap.size, 4, none⟩ = some (.slice (some ⟨rb, ro, none⟩) m.rules.length capr) := hm1.cell 4
      have x0 : W1.cell? ⟨w.heap.size + 1, 0, none⟩ = some (.int .i64 x.t) := hx1.cell 0
      have hP1d := hP1.keep (KeptF.drew (KeptF.refl (fun _ => False) W1)) (fun _ _ e => e)
      have hemit := emit_any W1.drew B Bm (.slice aoe r'.es.length cape) r'.es x.t { p with st := r'.n } hP1d (RowsAt.keep hE ((KeptF.below (KeptF.drew hk1) hB (fun i hi => by subst hi; exact h.core.lowq) : Below B w W1.drew).mono hBm)) hBm (Nat.le_trans hB hk1.size) hel hed hx0 hx1q hs0 hs1
      have hl1 := hm1.lt
      have hl2 := hx1.lt
      have hl3 : rb < W1.heap.size := block_lt_of_cell c4
      clear r3 r4 q4 hqf hq6 hrc hPq hmq hxq hql2 hql3 hqlt hrbl hrf hrb
      refine still_tail' 9 (by kernel_rfl) (by kernel_rfl) ?_
      simp only [List.take_succ_cons, List.take_zero, List.drop_succ_cons, List.drop_zero]
      repeat still_step
      refine wpStill_nil ?_
      go_wp2_with fail
      refine hemit.mono ?_
      rintro e2 w2 ⟨v, rfl, hO, hP2, hK2⟩
      clear hemit c4 p4 x0
      go_wp2
      go_meet
      case rel =>
        have hK2' : KeptF (fun i => i = p.qb) w w2 := (KeptF.trans (b := W1.drew) (KeptF.drew hk1) hK2)
        refine ⟨v, rfl, ?_, ?_, hK2', ?_⟩
        · rw [Hout.out]; exact hO.mono hk1.size
        · rw [Hout.out]; exact hP2
        · exact (Blk.drew hx1).keep hK2 (fun e => by have e : w.heap.size + 1 = p.qb := e; omega)
  case rest =>
    obtain ⟨v, rfl, hO, hP, hK, hx⟩ := hcut
    clear hfc hPq hmq hxq hMb
    obtain ⟨ro, hro⟩ : ∃ ro, ro = ruleOut m p.num p.st p.sent x := ⟨_, rfl⟩
    have Hro : Hid (ro = ruleOut m p.num p.st p.sent x) := hro
    rw [← hro] at hO hP
    clear hro
    obtain ⟨j0, hj0, hy0, hy1, hy2⟩ := info_parts info_dp
    have hown := hP.own
    have hown : Own dpE wc B p.dnv p.dn := hown
    obtain ⟨aod, capd, hdvf, hcapd⟩ := hown.form'
    have Hdvf : Hid (p.dnv = .slice aod p.dn.length capd) := hdvf
    rw [hdvf] at hown
    have hdold : ∀ g, (Value.slice aod p.dn.length capd).ownBlock = some g → g < w.heap.size := fun g hg => (h.own.lt (by rw [Hdvf.out]; exact hg)).2
    have hdq : ∀ g, (Value.slice aod p.dn.length capd).ownBlock = some g → g ≠ p.qb := fun g hg => h.oq g (by rw [Hdvf.out]; exact hg)
    clear hdvf
    have nq : (Value.slice aod p.dn.length capd).ownBlock ≠ some p.qb := fun e => hdq _ e rfl
    have K8 : wc.cell? ⟨p.qb, 11, none⟩ = some (.slice aod p.dn.length capd) := by rw [← Hdvf.out]; exact hP.cells.2.2.2
    have K6 := Sp.cell (b0 := p.qb) (o0 := 11) (own := (Value.slice aod p.dn.length capd).ownBlock) (v := .int .i64 ro.2.1) hP.cells.2.1 nq (fun e => by cases e.2)
    have hwq1 : w.heap.size + 1 ≠ p.qb := by omega
    have T0 := Sp.cell (b0 := p.qb) (o0 := 11) (own := (Value.slice aod p.dn.length capd).ownBlock) (v := .int .i64 x.t) (hx.cell 0) (fun e' => by have := hdold _ e'; omega) (fun ⟨h1, _⟩ => hwq1 h1)
    have T1 := Sp.cell (b0 := p.qb) (o0 := 11) (own := (Value.slice aod p.dn.length capd).ownBlock) (v := .int .i64 x.f) (hx.cell 1) (fun e' => by have := hdold _ e'; omega) (fun ⟨h1, _⟩ => hwq1 h1)
    have T2 := Sp.cell (b0 := p.qb) (o0 := 11) (own := (Value.slice aod p.dn.length capd).ownBlock) (v := .int .i64 x.s) (hx.cell 2) (fun e' => by have := hdold _ e'; omega) (fun ⟨h1, _⟩ => hwq1 h1)
    have T3 := Sp.cell (b0 := p.qb) (o0 := 11) (own := (Value.slice aod p.dn.length capd).ownBlock) (v := .int .i64 x.l) (hx.cell 3) (fun e' => by have := hdold _ e'; omega) (fun ⟨h1, _⟩ => hwq1 h1)
    have hlqc := hP.core.blk.lt
    have hlxc := hx.lt
    have hcc := newCells wc [.int .i64 x.t, .int .i64 x.f, .int .i64 x.s, .int .i64 x.l, .int .i64 ro.2.1] 113
    have hWW : KeptF (fun _ => False) wc ((wc.alloc (.cells #[.int .i64 x.t, .int .i64 x.f, .int .i64 x.s, .int .i64 x.l, .int .i64 ro.2.1] 113)).drew) := ((KeptF.refl _ wc).alloc _).drew
    have hWl := hWW.size
    have hBc : B ≤ wc.heap.size := Nat.le_trans hB hK.size
    have hone : ∀ u ∈ [Value.int .i64 x.t, .int .i64 x.f, .int .i64 x.s, .int .i64 x.l, .int .i64 ro.2.1], u.oneCell' = true := by
      intro u hu
      simp only [List.mem_cons, List.not_mem_nil, or_false] at hu
      rcases hu with rfl | rfl | rfl | rfl | rfl <;> rfl
    have hown0 : ((wc.alloc (.cells #[.int .i64 x.t, .int .i64 x.f, .int .i64 x.s, .int .i64 x.l, .int .i64 ro.2.1] 113)).drew).ownsRow B 113 5 (.slice aod p.dn.length capd) p.dn.length (flat dpE p.dn) := hown.keep hWW (fun _ _ e => e)
    go_wp2
    refine wp_region_held_drew (S := (fun W => Sp wc p.qb 11 (Value.slice aod p.dn.length capd).ownBlock W)) (by kernel_rfl) ?_ (fun hHeld => ?_)
    · (try dsimp only)
      (first | assumption | exact Sp.drew (by assumption) | exact Sp.of_kept ((KeptF.refl _ _).drew) | exact Sp.of_kept (((KeptF.refl _ _).alloc _).drew) | exact Sp.set (by assumption) _)
    refine takeL 0 (v := ?_) rfl (by kernel_rfl) (by kernel_rfl) (by kernel_rfl) (fun _ _ _ h => h) (by rfl) ?_ (by assumption) ?_
    rotate_left
    · intro w hSw
      (try dsimp only at hSw)
      go_simp
      all_goals with_reducible rfl
    try simp only [Act.put, List.setIfInBounds_toArray, List.set_cons_zero, List.set_cons_succ]
    refine takeL 1 (v := ?_) rfl (by kernel_rfl) (by kernel_rfl) (by kernel_rfl) (fun _ _ _ h => h) (by rfl) ?_ (by assumption) ?_
    rotate_left
    · intro w hSw
      (try dsimp only at hSw)
      go_simp
      all_goals with_reducible rfl
    try simp only [Act.put, List.setIfInBounds_toArray, List.set_cons_zero, List.set_cons_succ]
    refine takeL 2 (v := ?_) rfl (by kernel_rfl) (by kernel_rfl) (by kernel_rfl) (fun _ _ _ h => h) (by rfl) ?_ (by assumption) ?_
    rotate_left
    · intro w hSw
      (try dsimp only at hSw)
      go_simp
      all_goals with_reducible rfl
    try simp only [Act.put, List.setIfInBounds_toArray, List.set_cons_zero, List.set_cons_succ]
    refine takeL 3 (v := ?_) rfl (by kernel_rfl) (by kernel_rfl) (by kernel_rfl) (fun _ _ _ h => h) (by rfl) ?_ (by assumption) ?_
    rotate_left
    · intro w hSw
      (try dsimp only at hSw)
      go_simp
      all_goals with_reducible rfl
    try simp only [Act.put, List.setIfInBounds_toArray, List.set_cons_zero, List.set_cons_succ]
    refine takeL 5 (v := ?_) rfl (by kernel_rfl) (by kernel_rfl) (by kernel_rfl) (fun _ _ _ h => h) (by rfl) ?_ (by assumption) ?_
    rotate_left
    · intro w hSw
      (try dsimp only at hSw)
      go_simp
      all_goals with_reducible rfl
    try simp only [Act.put, List.setIfInBounds_toArray, List.set_cons_zero, List.set_cons_succ]
    refine takeL 6 (v := ?_) rfl (by kernel_rfl) (by kernel_rfl) (by kernel_rfl) (fun _ _ _ h => h) (by rfl) ?_ (by assumption) ?_
    rotate_left
    · intro w hSw
      (try dsimp only at hSw)
      go_simp
      all_goals with_reducible rfl
    try simp only [Act.put, List.setIfInBounds_toArray, List.set_cons_zero, List.set_cons_succ]
    refine takeL 7 (v := ?_) rfl (by kernel_rfl) (by kernel_rfl) (by kernel_rfl) (fun _ _ _ h => h) (by rfl) ?_ (by assumption) ?_
    rotate_left
    · intro w hSw
      (try dsimp only at hSw)
      go_simp
      all_goals with_reducible rfl
    try simp only [Act.put, List.setIfInBounds_toArray, List.set_cons_zero, List.set_cons_succ]
    refine takeL 8 (v := ?_) rfl (by kernel_rfl) (by kernel_rfl) (by kernel_rfl) (fun _ _ _ h => h) (by rfl) ?_ (by assumption) ?_
    rotate_left
    · intro w hSw
      (try dsimp only at hSw)
      go_simp
      all_goals with_reducible rfl
    try simp only [Act.put, List.setIfInBounds_toArray, List.set_cons_zero, List.set_cons_succ]
    refine takeL 9 (v := ?_) rfl (by kernel_rfl) (by kernel_rfl) (by kernel_rfl) (fun _ _ _ h => h) (by rfl) ?_ (by assumption) ?_
    rotate_left
    · intro w hSw
      (try dsimp only at hSw)
      go_simp
      all_goals with_reducible rfl
    try simp only [Act.put, List.setIfInBounds_toArray, List.set_cons_zero, List.set_cons_succ]
    refine takeL 10 (v := ?_) rfl (by kernel_rfl) (by kernel_rfl) (by kernel_rfl) (fun _ _ _ h => h) (by rfl) ?_ (by assumption) ?_
    rotate_left
    · intro w hSw
      (try dsimp only at hSw)
      go_simp
      all_goals with_reducible rfl
    try simp only [Act.put, List.setIfInBounds_toArray, List.set_cons_zero, List.set_cons_succ]
    refine takeL 11 (v := ?_) rfl (by kernel_rfl) (by kernel_rfl) (by kernel_rfl) (fun _ _ _ h => h) (by rfl) ?_ (by assumption) ?_
    rotate_left
    · intro w hSw
      (try dsimp only at hSw)
      go_simp
      all_goals with_reducible rfl
    try simp only [Act.put, List.setIfInBounds_toArray, List.set_cons_zero, List.set_cons_succ]
    refine takeL 12 (v := ?_) rfl (by kernel_rfl) (by kernel_rfl) (by kernel_rfl) (fun _ _ _ h => h) (by rfl) ?_ (by assumption) ?_
    rotate_left
    · intro w hSw
      (try dsimp only at hSw)
      go_simp
      all_goals with_reducible rfl
    try simp only [Act.put, List.setIfInBounds_toArray, List.set_cons_zero, List.set_cons_succ]
    refine takeL 13 (v := ?_) rfl (by kernel_rfl) (by kernel_rfl) (by kernel_rfl) (fun _ _ _ h => h) (by rfl) ?_ (by assumption) ?_
    rotate_left
    · intro w hSw
      (try dsimp only at hSw)
      go_simp
      all_goals with_reducible rfl
    try simp only [Act.put, List.setIfInBounds_toArray, List.set_cons_zero, List.set_cons_succ]
    refine takeL 14 (v := ?_) rfl (by kernel_rfl) (by kernel_rfl) (by kernel_rfl) (fun _ _ _ h => h) (by rfl) ?_ (by assumption) ?_
    rotate_left
    · intro w hSw
      (try dsimp only at hSw)
      go_simp
      all_goals with_reducible rfl
    try simp only [Act.put, List.setIfInBounds_toArray, List.set_cons_zero, List.set_cons_succ]
    refine takeL 15 (v := ?_) rfl (by kernel_rfl) (by kernel_rfl) (by kernel_rfl) (fun _ _ _ h => h) (by rfl) ?_ (by assumption) ?_
    rotate_left
    · intro w hSw
      (try dsimp only at hSw)
      go_simp
      all_goals with_reducible rfl
    try simp only [Act.put, List.setIfInBounds_toArray, List.set_cons_zero, List.set_cons_succ]
    refine takeL 16 (v := ?_) rfl (by kernel_rfl) (by kernel_rfl) (by kernel_rfl) (fun _ _ _ h => h) (by rfl) ?_ (by assumption) ?_
    rotate_left
    · intro w hSw
      (try dsimp only at hSw)
      go_simp
      all_goals with_reducible rfl
    try simp only [Act.put, List.setIfInBounds_toArray, List.set_cons_zero, List.set_cons_succ]
    refine takeL 17 (v := ?_) rfl (by kernel_rfl) (by kernel_rfl) (by kernel_rfl) (fun _ _ _ h => h) (by rfl) ?_ (by assumption) ?_
    rotate_left
    · intro w hSw
      (try dsimp only at hSw)
      go_simp
      all_goals with_reducible rfl
    try simp only [Act.put, List.setIfInBounds_toArray, List.set_cons_zero, List.set_cons_succ]
    refine wpAnyH_ready (rs := [4, 18]) (by kernel_rfl) (by simp) ?_
    refine consL rfl (fun K hK => ?_) (consL rfl (fun K hK => ?_) AllReadyH.nil)
    go_simp
    refine hK.out _ _ ?_ (fun hHeld => ?_)
    · (try dsimp only)
      (first | assumption | exact Sp.drew (by assumption) | exact Sp.of_kept ((KeptF.refl _ _).drew) | exact Sp.of_kept (((KeptF.refl _ _).alloc _).drew) | exact Sp.set (by assumption) _)
    clear hK K
    try simp only [Act.put, List.setIfInBounds_toArray, List.set_cons_zero, List.set_cons_succ]
    refine wpAnyH_ready (rs := [18]) (by kernel_rfl) (by simp) ?_
    refine consL rfl (fun K hK => ?_) AllReadyH.nil
    go_simp
    refine hK.out _ _ ?_ (fun hHeld => ?_)
    · (try dsimp only)
      (first | assumption | exact Sp.drew (by assumption) | exact Sp.of_kept ((KeptF.refl _ _).drew) | exact Sp.of_kept (((KeptF.refl _ _).alloc _).drew) | exact Sp.set (by assumption) _)
    clear hK K
    try simp only [Act.put, List.setIfInBounds_toArray, List.set_cons_zero, List.set_cons_succ]
    refine wpAnyH_ready (rs := [19]) (by kernel_rfl) (by simp) ?_
    refine consL rfl (fun K hK => ?_) AllReadyH.nil
    refine step_append_own rfl (.tmp 47) (.tmp 61) 62 rfl B 113 j0 _ 5 40 Try.underlying62 hj0 hy0 hy1 hy2 rfl (by decide) (.slice aod p.dn.length capd) p.dn.length (flat dpE p.dn) (by simp [Act.eval]) ?_ ⟨wc.heap.size, 0, none⟩ 1 1 [.int .i64 x.t, .int .i64 x.f, .int .i64 x.s, .int .i64 x.l, .int .i64 ro.2.1] (by simp [Act.eval]) rfl ?_ ?_ ?_ ?_ ?_ ?_
    · exact hown0
    · exact hcc
    · exact hone
    · unfold maxLen; omega
    · omega
    · exact Nat.le_trans hBc hWl
    intro v2 w2 hown2 hgr2 hfr2
    have hK2 : KeptF (fun k => (Value.slice aod p.dn.length capd).ownBlock = some k) wc w2 := (hWW.weaken (fun _ _ e => e.elim)).trans (KeptF.of_grown hgr2 (fun k h _ => h))
    have hS2 : Sp wc p.qb 11 (Value.slice aod p.dn.length capd).ownBlock w2 := Sp.of_kept hK2
    have hO2 : Own dpE w2 B v2 (p.dn ++ [⟨x, ro.2.1⟩]) := Own.snoc hown2
    have hb2 := hP.core.blk.keep hK2 nq
    have hc6b : w2.cell? ⟨p.qb, 11, none⟩ = some (.slice aod p.dn.length capd) := by rw [← Hdvf.out]; exact (hb2.cell 11).trans rfl
    have hf6b : w2.frozen? ⟨p.qb, 11, none⟩ = false := hb2.frozen _
    obtain ⟨ao2, cap2, hv2, hcap2⟩ := hO2.form'
    rw [List.length_append] at hv2
    have hv2 : v2 = .slice ao2 (p.dn.length + 1) cap2 := hv2
    subst hv2
    refine hK.out _ _ ?_ (fun hHeld => ?_)
    · (try dsimp only)
      (first | assumption | exact Sp.drew (by assumption) | exact Sp.of_kept ((KeptF.refl _ _).drew) | exact Sp.of_kept (((KeptF.refl _ _).alloc _).drew) | exact Sp.set (by assumption) _)
    clear hK K
    try simp only [Act.put, List.setIfInBounds_toArray, List.set_cons_zero, List.set_cons_succ]
    refine takeL 20 (v := ?_) rfl (by kernel_rfl) (by kernel_rfl) (by kernel_rfl) (fun _ _ _ h => h) (by rfl) ?_ (by assumption) ?_
    rotate_left
    · intro w hSw
      (try dsimp only at hSw)
      go_simp
      all_goals with_reducible rfl
    try simp only [Act.put, List.setIfInBounds_toArray, List.set_cons_zero, List.set_cons_succ]
    refine takeL 21 (v := ?_) rfl (by kernel_rfl) (by kernel_rfl) (by kernel_rfl) (fun _ _ _ h => h) (by rfl) ?_ (by assumption) ?_
    rotate_left
    · intro w hSw
      (try dsimp only at hSw)
      go_simp
      all_goals with_reducible rfl
    try simp only [Act.put, List.setIfInBounds_toArray, List.set_cons_zero, List.set_cons_succ]
    refine wpAnyH_ready (rs := [22]) (by kernel_rfl) (by simp) ?_
    refine consL rfl (fun K hK => ?_) AllReadyH.nil
    go_simp
    refine hK.out _ _ ?_ (fun hHeld => ?_)
    · (try dsimp only)
      (first | assumption | exact Sp.drew (by assumption) | exact Sp.of_kept ((KeptF.refl _ _).drew) | exact Sp.of_kept (((KeptF.refl _ _).alloc _).drew) | exact Sp.set (by assumption) _)
    clear hK K
    try simp only [Act.put, List.setIfInBounds_toArray, List.set_cons_zero, List.set_cons_succ]
    refine wpAnyH_done (by kernel_rfl) ?_ _
    rotate_left
    go_simp
    refine hK.out _ _ ?_ (fun hHeld => ?_)
    · (try dsimp only)
      (first | assumption | exact Sp.drew (by assumption) | exact Sp.of_kept ((KeptF.refl _ _).drew) | exact Sp.of_kept (((KeptF.refl _ _).alloc _).drew) | exact Sp.set (by assumption) _)
    clear hK K
    try simp only [Act.put, List.setIfInBounds_toArray, List.set_cons_zero, List.set_cons_succ]
    refine wpAnyH_ready (rs := [4]) (by kernel_rfl) (by simp) ?_
    refine consL rfl (fun K hK => ?_) AllReadyH.nil
    go_simp
    refine hK.out _ _ ?_ (fun hHeld => ?_)
    · (try dsimp only)
      (first | assumption | exact Sp.drew (by assumption) | exact Sp.of_kept ((KeptF.refl _ _).drew) | exact Sp.of_kept (((KeptF.refl _ _).alloc _).drew) | exact Sp.set (by assumption) _)
    clear hK K
    try simp only [Act.put, List.setIfInBounds_toArray, List.set_cons_zero, List.set_cons_succ]
    refine wpAnyH_ready (rs := [19]) (by kernel_rfl) (by simp) ?_
    refine consL rfl (fun K hK => ?_) AllReadyH.nil
    refine step_append_own rfl (.tmp 47) (.tmp 61) 62 rfl B 113 j0 _ 5 40 Try.underlying62 hj0 hy0 hy1 hy2 rfl (by decide) (.slice aod p.dn.length capd) p.dn.length (flat dpE p.dn) (by simp [Act.eval]) ?_ ⟨wc.heap.size, 0, none⟩ 1 1 [.int .i64 x.t, .int .i64 x.f, .int .i64 x.s, .int .i64 x.l, .int .i64 ro.2.1] (by simp [Act.eval]) rfl ?_ ?_ ?_ ?_ ?_ ?_
    · exact hown0
    · exact hcc
    · exact hone
    · unfold maxLen; omega
    · omega
    · exact Nat.le_trans hBc hWl
    intro v2 w2 hown2 hgr2 hfr2
    have hK2 : KeptF (fun k => (Value.slice aod p.dn.length capd).ownBlock = some k) wc w2 := (hWW.weaken (fun _ _ e => e.elim)).trans (KeptF.of_grown hgr2 (fun k h _ => h))
    have hS2 : Sp wc p.qb 11 (Value.slice aod p.dn.length capd).ownBlock w2 := Sp.of_kept hK2
    have hO2 : Own dpE w2 B v2 (p.dn ++ [⟨x, ro.2.1⟩]) := Own.snoc hown2
    have hb2 := hP.core.blk.keep hK2 nq
    have hc6b : w2.cell? ⟨p.qb, 11, none⟩ = some (.slice aod p.dn.length capd) := by rw [← Hdvf.out]; exact (hb2.cell 11).trans rfl
    have hf6b : w2.frozen? ⟨p.qb, 11, none⟩ = false := hb2.frozen _
    obtain ⟨ao2, cap2, hv2, hcap2⟩ := hO2.form'
    rw [List.length_append] at hv2
    have hv2 : v2 = .slice ao2 (p.dn.length + 1) cap2 := hv2
    subst hv2
    refine hK.out _ _ ?_ (fun hHeld => ?_)
    · (try dsimp only)
      (first | assumption | exact Sp.drew (by assumption) | exact Sp.of_kept ((KeptF.refl _ _).drew) | exact Sp.of_kept (((KeptF.refl _ _).alloc _).drew) | exact Sp.set (by assumption) _)
    clear hK K
    try simp only [Act.put, List.setIfInBounds_toArray, List.set_cons_zero, List.set_cons_succ]
    refine takeL 20 (v := ?_) rfl (by kernel_rfl) (by kernel_rfl) (by kernel_rfl) (fun _ _ _ h => h) (by rfl) ?_ (by assumption) ?_
    rotate_left
    · intro w hSw
      (try dsimp only at hSw)
      go_simp
      all_goals with_reducible rfl
    try simp only [Act.put, List.setIfInBounds_toArray, List.set_cons_zero, List.set_cons_succ]
    refine takeL 21 (v := ?_) rfl (by kernel_rfl) (by kernel_rfl) (by kernel_rfl) (fun _ _ _ h => h) (by rfl) ?_ (by assumption) ?_
    rotate_left
    · intro w hSw
      (try dsimp only at hSw)
      go_simp
      all_goals with_reducible rfl
    try simp only [Act.put, List.setIfInBounds_toArray, List.set_cons_zero, List.set_cons_succ]
    refine wpAnyH_ready (rs := [22]) (by kernel_rfl) (by simp) ?_
    refine consL rfl (fun K hK => ?_) AllReadyH.nil
    go_simp
    refine hK.out _ _ ?_ (fun hHeld => ?_)
    · (try dsimp only)
      (first | assumption | exact Sp.drew (by assumption) | exact Sp.of_kept ((KeptF.refl _ _).drew) | exact Sp.of_kept (((KeptF.refl _ _).alloc _).drew) | exact Sp.set (by assumption) _)
    clear hK K
    try simp only [Act.put, List.setIfInBounds_toArray, List.set_cons_zero, List.set_cons_succ]
    refine wpAnyH_done (by kernel_rfl) ?_ _
    rotate_left
    all_goals
      have hD := hP.setDn (w1 := w2) (v := .slice ao2 (p.dn.length + 1) cap2) (l := p.dn ++ [⟨x, ro.2.1⟩]) (hK2.weaken (fun i _ e => by show p.dnv.ownBlock = some i; rw [Hdvf.out]; exact e)) hO2 (fun g hg => by
        rcases hfr2 g hg with h1 | h1
        · left; show p.dnv.ownBlock = some g; rw [Hdvf.out]; exact h1
        · right; exact Nat.le_trans hWl h1)
      have hO3 : Own emE (w2.setCell ⟨p.qb, 11, none⟩ (.slice ao2 (p.dn.length + 1) cap2)) w.heap.size v ro.1 := (hO.keep hK2 (fun g hg e => by have h1 := (hO.lt hg).1; have h2 := hdold g e; omega)).keep ((KeptF.refl (fun i => i = p.qb) w2).setCell (p := ⟨p.qb, 11, none⟩) (.inl rfl) _) (fun g hg e => by have h1 := (hO.lt hg).1; omega)
      have hOl : ∀ g, v.ownBlock = some g → w.heap.size ≤ g ∧ g < wc.heap.size := fun g hg => hO.lt hg
      have hwl : ∀ i, PF p i → i < w.heap.size := fun i hi => (h.lt hi).2
      have hcw : w.heap.size ≤ wc.heap.size := hK.size
      clear hown2 hgr2 hfr2 hown0 hcc hone K8 K6 T0 T1 T2 T3
      go_wp2
      go_ret
      rw [← Hro.out]
      refine ⟨v, rfl, hO3, (hK.weaken (fun i _ e => by subst e; exact PF.q)).trans hD.2.1, .slice ao2 (p.dn.length + 1) cap2, hD.1, fun i hi => ?_, fun g hg hf => ?_⟩
      · rcases hD.2.2 i hi with h1 | h1
        · exact .inl h1
        · right; omega
      · have h0 := hOl g hg
        rcases hD.2.2 g hf with h1 | h1
        · have := hwl g h1; omega
        · omega

end Go.Proofs.Ytkobkilfbbalaaa

namespace Go.Proofs.Ytkobkilfbbalaaa
open Go.RowKit Go.Sort Go.Maps

theorem flat_set {α : Type} (E : Enc α) : ∀ {l : List α} {j : Nat} {x y : α} {k : Nat} {u : Value}, l[j]? = some x → k < E.sz → E.enc y = (E.enc x).set k u → flat E (l.set j y) = (flat E l).set (j * E.sz + k) u
  | [], j, x, y, k, u, h, _, _ => by simp at h
  | a :: l, 0, x, y, k, u, h, hk, hy => by
    simp only [List.getElem?_cons_zero, Option.some.injEq] at h
    subst h
    show E.enc y ++ flat E l = (E.enc a ++ flat E l).set (0 * E.sz + k) u
    rw [Nat.zero_mul, Nat.zero_add, List.set_append_left _ _ (by rw [E.len]; exact hk), hy]
  | a :: l, j + 1, x, y, k, u, h, hk, hy => by
    simp only [List.getElem?_cons_succ] at h
    have ih := flat_set E (l := l) h hk hy
    show E.enc a ++ flat E (l.set j y) = (E.enc a ++ flat E l).set ((j + 1) * E.sz + k) u
    have e : (j + 1) * E.sz + k = (E.enc a).length + (j * E.sz + k) := by rw [E.len, Nat.add_mul]; omega
    rw [e, List.set_append_right _ _ (by omega), Nat.add_sub_cancel_left, ih]

theorem Own.setAt {α : Type} {E : Enc α} {w : World} {B g len cap : Nat} {l : List α} (h : Own E w B (.slice (some ⟨g, 0, none⟩) len cap) l) {j : Nat} {x y : α} (hx : l[j]? = some x) {k : Nat} {u : Value} (hk : k < E.sz) (hy : E.enc y = (E.enc x).set k u) :
    Own E (w.setCell ⟨g, j * E.sz + k, none⟩ u) B (.slice (some ⟨g, 0, none⟩) len cap) (l.set j y) := by
  have hj := get_lt hx
  obtain ⟨h1, h2⟩ := h
  rcases h2 with ⟨h2, _⟩ | ⟨g', cap', cur, hv, hB, hb, hn, hc, hs, ht⟩
  · cases h2
  · simp only [Value.slice.injEq, Option.some.injEq, Addr.mk.injEq] at hv
    obtain ⟨⟨rfl, _, _⟩, rfl, rfl⟩ := hv
    have hlt : j * E.sz + k < l.length * E.sz := by
      have : (j + 1) * E.sz ≤ l.length * E.sz := Nat.mul_le_mul_right _ hj
      rw [Nat.add_mul] at this
      omega
    have hbk : Blk w g cur E.T := hb
    refine ⟨by rw [flat_length, List.length_set], .inr ⟨g, cap, _, by rw [List.length_set], hB, hbk.set (j * E.sz + k) u, by rw [List.length_set]; exact hn, hc, by rw [Array.size_setIfInBounds]; exact hs, ?_⟩⟩
    rw [List.length_set, flat_set E hx hk hy, ← ht, Array.toList_setIfInBounds]
    rw [List.take_set]

theorem Own.blkC {α : Type} {E : Enc α} {w : World} {B g len cap : Nat} {l : List α} (h : Own E w B (.slice (some ⟨g, 0, none⟩) len cap) l) : ∃ c, Blk w g c E.T := by
  obtain ⟨_, h2⟩ := h
  rcases h2 with ⟨h2, _⟩ | ⟨g', cap', cur, hv, _, hb, _⟩
  · cases h2
  · simp only [Value.slice.injEq, Option.some.injEq, Addr.mk.injEq] at hv
    obtain ⟨⟨rfl, _, _⟩, _, _⟩ := hv
    exact ⟨cur, hb⟩

def pcC (x : Pcl) : List Value := [.int .i64 x.it.t, .int .i64 x.it.f, .int .i64 x.it.s, .int .i64 x.it.l, .int .i64 x.kd, .int .i64 x.k]
def pclE : Enc Pcl := ⟨6, 141, pcC, fun _ => rfl, by omega, fun x u hu => by
  simp only [pcC, List.mem_cons, List.not_mem_nil, or_false] at hu
  rcases hu with rfl | rfl | rfl | rfl | rfl | rfl <;> rfl⟩
theorem flat_msgs : ∀ (l : List Em), flat pclE (l.map msg) = flat emE l
  | [] => rfl
  | e :: l => by
    show pcC (msg e) ++ flat pclE (l.map msg) = emC e ++ flat emE l
    rw [flat_msgs l]; rfl
theorem own_msgs {w : World} {B : Nat} {v : Value} {l : List Em} (h : Own emE w B v l) : Own pclE w B v (l.map msg) := by
  unfold Own at h ⊢
  rw [flat_msgs, List.length_map]
  exact h

theorem take_mapdrop {α : Type} {f : α → α} {l : List α} {i : Nat} {x : α} (h : l[i]? = some x) : (((l.take i).map f ++ l.drop i).set i (f x)) = (l.take (i + 1)).map f ++ l.drop (i + 1) ∧ ((l.take i).map f ++ l.drop i)[i]? = some x := by
  have hi := get_lt h
  have hl : ((l.take i).map f).length = i := by rw [List.length_map, List.length_take]; omega
  have hd : l.drop i = x :: l.drop (i + 1) := by
    rw [List.drop_eq_getElem_cons hi]
    rw [List.getElem?_eq_getElem hi, Option.some.injEq] at h
    rw [h]
  constructor
  · rw [List.set_append_right _ _ (by omega), hl, Nat.sub_self, hd, List.set_cons_zero, List.take_add_one, h]
    simp
  · rw [List.getElem?_append_right (by omega), hl, Nat.sub_self, hd]; rfl

set_option maxRecDepth 100000 in
set_option maxHeartbeats 8000000 in
theorem words_any (w : World) (B b off : Nat) (wv : Value) (ws : List Wy) (en sure : Int) (he : w.cell? ⟨b, off, none⟩ = some (.int .i64 en)) (hwv : w.cell? ⟨b, off + 2, none⟩ = some wv) (h : Own wyE w B wv ws) (hne : wv.ownBlock ≠ some b) (hl : ws.length ≤ 12)
    (hs0 : 0 ≤ sure) (hs1 : sure ≤ 200) (hw : ∀ x ∈ ws, 0 ≤ x.a ∧ x.a ≤ 60) :
    Calls Try.prog 94 #[.pointer (some ⟨b, off, none⟩), .int .i64 sure] w fun e w' => ∃ v : Value, e = .returned v ∧ Own pclE w' w.heap.size v (wyO en sure ws) ∧ Own wyE w' B wv (ws.map (wyN en sure)) ∧ KeptF (fun g => wv.ownBlock = some g) w w' := by
  obtain ⟨ao, cap, rfl, hcap⟩ := h.form'
  obtain ⟨i0, hi0, hz0, hz1, hz2⟩ := info_parts info_em
  have hlb : b < w.heap.size := block_lt_of_cell he
  go_enter Try.func94, Try.ntmps94
  go_wp2
  go_loopw [5, 15] (fun s5 s15 wr => ∃ (i : Nat) (v : Value), s5 = v ∧ s15 = .int .i64 i ∧ i ≤ ws.length ∧ Own pclE wr w.heap.size v (wyO en sure (ws.take i)) ∧ Own wyE wr B (.slice ao ws.length cap) ((ws.take i).map (wyN en sure) ++ ws.drop i) ∧ KeptF (fun g => (Value.slice ao ws.length cap).ownBlock = some g) w wr) (fun _ s15 _ => ws.length - (intOf s15).toNat)
  case atStart =>
    refine ⟨0, _, rfl, rfl, Nat.zero_le _, Own.nil _ _ _, ?_, KeptF.refl _ _⟩
    rw [List.take_zero, List.drop_zero]; exact h
  case round =>
    obtain ⟨i, v, rfl, rfl, hi, hO, hW, hK⟩ := hrel
    have hsz := hK.size
    have he' : wr.cell? ⟨b, off, none⟩ = some (.int .i64 en) := (hK.cell (p := ⟨b, off, none⟩) hlb (by exact hne)).trans he
    have hv' : wr.cell? ⟨b, off + 2, none⟩ = some (.slice ao ws.length cap) := (hK.cell (p := ⟨b, off + 2, none⟩) hlb (by exact hne)).trans hwv
    clear he hwv
    by_cases hlt : i < ws.length
    · obtain ⟨x, hx⟩ := get_of_lt hlt
      have hTM := take_mapdrop (f := wyN en sure) hx
      obtain ⟨g, cap', hg, _⟩ := Own.at_ hW hTM.2
      simp only [Value.slice.injEq] at hg
      obtain ⟨rfl, -, -⟩ := hg
      have a0 := hW.cell hTM.2 (k := 0) (u := .int .i64 x.k) rfl
      have a1 := hW.cell hTM.2 (k := 1) (u := .int .i64 x.a) rfl
      have a2 := hW.cell hTM.2 (k := 2) (u := .int .i64 x.said) rfl
      have a0 : wr.cell? ⟨g, i * 3, none⟩ = some (.int .i64 x.k) := a0
      have a1 : wr.cell? ⟨g, i * 3 + 1, none⟩ = some (.int .i64 x.a) := a1
      have a2 : wr.cell? ⟨g, i * 3 + 2, none⟩ = some (.int .i64 x.said) := a2
      have hxw := hw x (List.mem_of_getElem? hx)
      have hwrap : IntKind.i64.wrap (sure + x.a) = sure + x.a := by rw [IntKind.wrap_i64]; omega
      have hgb : g ≠ b := fun e => hne (by rw [e]; rfl)
      have hlg : g < wr.heap.size := block_lt_of_cell a0
      have hlb' : b < wr.heap.size := block_lt_of_cell he'
      have f2 : wr.frozen? ⟨g, i * 3 + 2, none⟩ = false := by obtain ⟨c, hc⟩ := hW.blkC; exact hc.frozen _
      have hite : (if en < sure + x.a then en else sure + x.a) = wyT en sure x := by unfold wyT; split <;> omega
      have Hx : Hid (ws[i]? = some x) := hx
      have HTM : Hid ((((ws.take i).map (wyN en sure) ++ ws.drop i).set i (wyN en sure x)) = (ws.take (i + 1)).map (wyN en sure) ++ ws.drop (i + 1) ∧ ((ws.take i).map (wyN en sure) ++ ws.drop i)[i]? = some x) := hTM
      have htk : ws.take (i + 1) = ws.take i ++ [x] := by rw [List.take_add_one, hx]; rfl
      have Htk : Hid (ws.take (i + 1) = ws.take i ++ [x]) := htk
      clear hx hTM htk
      go_wp2
      refine still_tail' 10 (by kernel_rfl) (by kernel_rfl) ?_
      simp only [List.take_succ_cons, List.take_zero, List.drop_succ_cons, List.drop_zero]
      repeat still_step
      refine wpStill_nil ?_
      go_upto_region 7 with fail
      clear hite
      by_cases hsay : x.said < wyT en sure x
      · have hN : wyN en sure x = { x with said := wyT en sure x } := by unfold wyN; rw [if_pos hsay]
        have HN : Hid (wyN en sure x = { x with said := wyT en sure x }) := hN
        have hO2 : Own pclE wr.drew w.heap.size u5 (wyO en sure (ws.take i)) := hO
        clear hN
        have hgw : g < w.heap.size := (h.lt rfl).2
        have hgB : B ≤ g := (h.lt rfl).1
        have hk1 : KeptF (fun r => (Value.slice (some ⟨g, 0, none⟩) ws.length cap).ownBlock = some r) w (wr.setCell ⟨g, i * 3 + 2, none⟩ (.int .i64 (wyT en sure x))).drew := (hK.setCell (p := ⟨g, i * 3 + 2, none⟩) (.inl rfl) _).drew
        have hW1 : Own wyE (wr.setCell ⟨g, i * 3 + 2, none⟩ (.int .i64 (wyT en sure x))).drew B (.slice (some ⟨g, 0, none⟩) ws.length cap) ((ws.take (i + 1)).map (wyN en sure) ++ ws.drop (i + 1)) := by
          rw [← HTM.out.1]
          exact (hW.setAt HTM.out.2 (k := 2) (u := .int .i64 (wyT en sure x)) (y := wyN en sure x) (by decide) (by rw [HN.out]; rfl)).keep (KeptF.drew (KeptF.refl (fun _ => False) _)) (fun _ _ e => e)
        have hO1 : Own pclE (wr.setCell ⟨g, i * 3 + 2, none⟩ (.int .i64 (wyT en sure x))).drew w.heap.size u5 (wyO en sure (ws.take i)) := hO.keep ((KeptF.refl (fun r => r = g) wr).setCell (p := ⟨g, i * 3 + 2, none⟩) (.inl rfl) _).drew (fun r hr e => by have := (hO.lt hr).1; omega)
        have d0 : (wr.setCell ⟨g, i * 3 + 2, none⟩ (.int .i64 (wyT en sure x))).drew.cell? ⟨g, i * 3, none⟩ = some (.int .i64 x.k) := by
          have e : ((ws.take (i + 1)).map (wyN en sure) ++ ws.drop (i + 1))[i]? = some (wyN en sure x) := by rw [← HTM.out.1]; exact List.getElem?_set_self (get_lt HTM.out.2)
          exact hW1.cell e (k := 0) (u := .int .i64 x.k) (by rw [HN.out]; rfl)
        have d1 : (wr.setCell ⟨g, i * 3 + 2, none⟩ (.int .i64 (wyT en sure x))).drew.cell? ⟨b, off, none⟩ = some (.int .i64 en) := by
          rw [← he']; exact KeptF.cell (p := ⟨b, off, none⟩) ((KeptF.refl (fun r => r = g) wr).setCell (p := ⟨g, i * 3 + 2, none⟩) (.inl rfl) _).drew hlb' (fun e => hgb e.symm)
        go_upto_region 9 with fail
        clear a0 a1 a2 he' hv' hW hO hO2 hK hsz f2 hlg hlb' hwrap
        generalize (wr.setCell ⟨g, i * 3 + 2, none⟩ (.int .i64 (wyT en sure x))).drew = W1 at *
        have hz1' := hk1.size
        have hl1 : g < W1.heap.size := block_lt_of_cell d0
        have hl2 : b < W1.heap.size := block_lt_of_cell d1
        go_upto_if 57 with fail
        go_cut [] (fun wc => Blk wc W1.heap.size (pcC (wyP en sure x)).toArray 141 ∧ KeptF (fun _ => False) W1 wc)
        case first =>
          by_cases hte : wyT en sure x = en
          · have HP : Hid (wyP en sure x = ⟨⟨0, 0, 0, 0⟩, 2, x.k⟩) := by show _ = _; unfold wyP; rw [if_pos hte]
            go_wp2
            go_meet
            case rel =>
              rw [HP.out]
              exact ⟨blk_newP rfl, (KeptF.refl _ W1).alloc _⟩
          · have HP : Hid (wyP en sure x = ⟨⟨wyT en sure x, 0, 0, 0⟩, 1, x.k⟩) := by show _ = _; unfold wyP; rw [if_neg hte]
            go_wp2
            go_meet
            case rel =>
              rw [HP.out]
              exact ⟨blk_newP rfl, (KeptF.refl _ W1).alloc _⟩
        case rest =>
          obtain ⟨hPb, hKc⟩ := hcut
          have hOc := hO1.keep hKc (fun _ _ e => e)
          have hWc := hW1.keep hKc (fun _ _ e => e)
          have hkc : KeptF (fun r => (Value.slice (some ⟨g, 0, none⟩) ws.length cap).ownBlock = some r) w wc := hk1.trans (hKc.weaken (fun _ _ e => e.elim))
          clear hO1 hW1 hk1 hKc d0 d1 hl1 hl2
          have hlc := hPb.lt
          obtain ⟨y, hy⟩ : ∃ y, y = wyP en sure x := ⟨_, rfl⟩
          have Hy : Hid (y = wyP en sure x) := hy
          rw [← hy] at hPb
          clear hy
          have p0 : wc.cell? ⟨W1.heap.size, 0, none⟩ = some (.int .i64 y.it.t) := hPb.cell 0
          have p1 : wc.cell? ⟨W1.heap.size, 1, none⟩ = some (.int .i64 y.it.f) := hPb.cell 1
          have p2 : wc.cell? ⟨W1.heap.size, 2, none⟩ = some (.int .i64 y.it.s) := hPb.cell 2
          have p3 : wc.cell? ⟨W1.heap.size, 3, none⟩ = some (.int .i64 y.it.l) := hPb.cell 3
          have p4 : wc.cell? ⟨W1.heap.size, 4, none⟩ = some (.int .i64 y.kd) := hPb.cell 4
          have p5 : wc.cell? ⟨W1.heap.size, 5, none⟩ = some (.int .i64 y.k) := hPb.cell 5
          have hcc := newCells wc [.int .i64 y.it.t, .int .i64 y.it.f, .int .i64 y.it.s, .int .i64 y.it.l, .int .i64 y.kd, .int .i64 y.k] 141
          have hone : ∀ u ∈ ([.int .i64 y.it.t, .int .i64 y.it.f, .int .i64 y.it.s, .int .i64 y.it.l, .int .i64 y.kd, .int .i64 y.k] : List Value), u.oneCell' = true := pclE.one y
          have hWW : KeptF (fun _ => False) wc (wc.alloc (.cells #[.int .i64 y.it.t, .int .i64 y.it.f, .int .i64 y.it.s, .int .i64 y.it.l, .int .i64 y.kd, .int .i64 y.k] 141)) := (KeptF.refl _ wc).alloc _
          obtain ⟨n, hn⟩ : ∃ n, n = (wyO en sure (ws.take i)).length := ⟨_, rfl⟩
          have hnl : n ≤ 12 := by
            have h1 := wyO_length en sure (ws.take i)
            rw [List.length_take] at h1
            omega
          have hown0 : (wc.alloc (.cells #[.int .i64 y.it.t, .int .i64 y.it.f, .int .i64 y.it.s, .int .i64 y.it.l, .int .i64 y.kd, .int .i64 y.k] 141)).ownsRow w.heap.size 141 6 u5 n (flat pclE (wyO en sure (ws.take i))) := by
            rw [hn]; exact hOc.keep hWW (fun _ _ e => e)
          have Hn : Hid (n = (wyO en sure (ws.take i)).length) := hn
          clear hn
          go_wp2_with (at_builtin; refine wpList_append_ownX rfl (.tmp 63) (.tmp 65) 131 rfl w.heap.size 141 i0 _ 6 48 Try.underlying131 hi0 hz0 hz1 hz2 rfl (by decide) u5 n (flat pclE (wyO en sure (ws.take i))) rfl ?own ⟨wc.heap.size, 0, none⟩ 1 1 [.int .i64 y.it.t, .int .i64 y.it.f, .int .i64 y.it.s, .int .i64 y.it.l, .int .i64 y.kd, .int .i64 y.k] rfl ?len ?cells ?one ?b1 ?b2 ?hb ?k)
          case own => exact hown0
          case len => rfl
          case cells => exact hcc
          case one => exact hone
          case b1 => unfold maxLen; omega
          case b2 => omega
          case hb => exact Nat.le_trans hkc.size hWW.size
          case k =>
            intro v2 w2 hown2 hgr2 hfr2
            have hob : ∀ r, u5.ownBlock = some r → w.heap.size ≤ r := fun r hr => (hOc.lt hr).1
            have hK2 : KeptF (fun r => u5.ownBlock = some r) wc w2 := (hWW.weaken (fun _ _ e => e.elim)).trans (KeptF.of_grown hgr2 (fun k h _ => h))
            have hO2 : Own pclE w2 w.heap.size v2 (wyO en sure (ws.take (i + 1))) := by
              rw [Htk.out, wyO_snoc_yes hsay, ← Hy.out]
              exact Own.snoc (by rw [← Hn.out]; exact hown2)
            have hW2 := hWc.keep hK2 (fun r hr e => by cases hr; have := hob g e; omega)
            have hKw : KeptF (fun r => (Value.slice (some ⟨g, 0, none⟩) ws.length cap).ownBlock = some r) w w2 := hkc.trans' hK2 (fun r hr e => by have := hob r e; omega)
            clear hown2 hgr2 hfr2 hown0 hcc hone hWW hOc hWc p0 p1 p2 p3 p4 p5
            go_wp2
            go_roundw
            case rel => exact ⟨i + 1, v2, rfl, by go_num, hlt, hO2, hW2, hKw⟩
            case measure => simp [intOf]; omega
      · go_wp2
        go_roundw
        case rel =>
          have hN : wyN en sure x = x := by unfold wyN; rw [if_neg hsay]
          refine ⟨i + 1, u5, rfl, by go_num, hlt, ?_, ?_, hK.drew⟩
          · rw [Htk.out, wyO_snoc_no hsay]; exact hO
          · have e := HTM.out.1
            rw [hN, set_same HTM.out.2] at e
            rw [← e]; exact hW
        case measure => simp [intOf]; omega
    · have hie : i = ws.length := by omega
      subst hie
      go_wp2
      go_ret
      refine ⟨_, rfl, ?_, ?_, hK⟩
      · rw [List.take_of_length_le (Nat.le_refl _)] at hO; exact hO
      · rw [List.take_of_length_le (Nat.le_refl _), List.drop_of_length_le (Nat.le_refl _), List.append_nil] at hW; exact hW

end Go.Proofs.Ytkobkilfbbalaaa

namespace Go.Proofs.Ytkobkilfbbalaaa
open Go.RowKit Go.Sort Go.Maps

theorem info_wy : (Try.prog.info? 193).map (fun i => (i.zero, i.size, i.bytes)) = some (some (.agg #[.int .i64 0, .int .i64 0, .int .i64 0]), 3, 24) := by kernel_rfl

theorem und_wys : Try.prog.underlying 121 = some (.slice 193) := by kernel_rfl

set_option maxRecDepth 100000 in
set_option maxHeartbeats 8000000 in
theorem newClock_any (w : World) (Bm : Nat) (lv rv sv : Value) (m : Mdl) (R : List RuleV) (p en : Int) (hM : ModelAt w Bm lv rv sv m R) (hBm : Bm ≤ w.heap.size) (hm : Right m) :
    Calls Try.prog 80 #[.agg #[.int .i64 m.procs, .int .i64 m.states, .int .i64 m.loads, lv, rv, sv], .int .i64 p, .int .i64 en] w fun e w' => ∃ (hb : Nat) (wv : Value), e = .returned (.agg #[.int .i64 en, .map (some hb), wv]) ∧ HMap w' hb (hear0 m p m.links.length) ∧ Own wyE w' w.heap.size wv (ways0 m p m.links.length) ∧ w.heap.size ≤ hb ∧ wv.ownBlock ≠ some hb ∧ Below w.heap.size w w' := by
  have hmm := @run_makeMap Try.prog
  obtain ⟨ao, cap, hlv, hcap⟩ := RowsAt.form hM.links
  subst hlv
  have hnl := hm.lim.nl
  obtain ⟨i0, hi0, hz0, hz1, hz2⟩ := info_parts info_wy
  obtain ⟨W0, hW0⟩ : ∃ W0, W0 = (((w.alloc (.cells #[.int .i64 m.procs, .int .i64 m.states, .int .i64 m.loads, .slice ao m.links.length cap, rv, sv] 31)).alloc (.cells #[.int .i64 0, .map none, .slice none 0 0] 123)).alloc (.map #[] 0)).alloc (.cells #[.int .i64 en, .map (some (w.heap.size + 1 + 1)), .slice none 0 0] 123) := ⟨_, rfl⟩
  have HW0 : Hid (W0 = (((w.alloc (.cells #[.int .i64 m.procs, .int .i64 m.states, .int .i64 m.loads, .slice ao m.links.length cap, rv, sv] 31)).alloc (.cells #[.int .i64 0, .map none, .slice none 0 0] 123)).alloc (.map #[] 0)).alloc (.cells #[.int .i64 en, .map (some (w.heap.size + 1 + 1)), .slice none 0 0] 123)) := hW0
  have hB0 : Below w.heap.size w W0 := by
    rw [hW0]
    exact KeptF.below (F := fun _ => False) (((((KeptF.refl _ w).alloc _).alloc _).alloc _).alloc _) (Nat.le_refl _) (fun _ e => e.elim)
  have hz : W0.heap.size = w.heap.size + 4 := by rw [hW0]; simp
  have hb0 : Blk W0 w.heap.size #[.int .i64 m.procs, .int .i64 m.states, .int .i64 m.loads, .slice ao m.links.length cap, rv, sv] 31 := by
    rw [hW0]; exact (((Blk.alloc (blk_newP rfl) _).alloc _).alloc _)
  have hb1 : Blk W0 (w.heap.size + 1) #[.int .i64 0, .map none, .slice none 0 0] 123 := by
    rw [hW0]; exact ((Blk.alloc (blk_newP (by simp)) _).alloc _)
  have hb3 : Blk W0 (w.heap.size + 1 + 1 + 1) #[.int .i64 en, .map (some (w.heap.size + 1 + 1)), .slice none 0 0] 123 := by
    rw [hW0]; exact blk_newP (by simp)
  have hmp : HMap W0 (w.heap.size + 1 + 1) (hear0 m p 0) := by
    refine ⟨.map [], ?_, ⟨fun k => ?_, fun k c hk => ?_, fun k c hk => ?_⟩⟩
    · rw [hW0]
      have := World.ownsMap_made (H := Nat) ((w.alloc (.cells #[.int .i64 m.procs, .int .i64 m.states, .int .i64 m.loads, .slice ao m.links.length cap, rv, sv] 31)).alloc (.cells #[.int .i64 0, .map none, .slice none 0 0] 123)) Try.prog 3 (plainElem Try.prog 3)
      rw [show ((w.alloc (.cells #[.int .i64 m.procs, .int .i64 m.states, .int .i64 m.loads, .slice ao m.links.length cap, rv, sv] 31)).alloc (.cells #[.int .i64 0, .map none, .slice none 0 0] 123)).heap.size = w.heap.size + 1 + 1 by simp] at this
      exact (this.mono (by omega)).alloc _
    · rw [hear0_zero]; rfl
    · rw [hear0_zero] at hk; cases hk
    · rw [hear0_zero] at hk; cases hk
  have Hz : Hid (W0.heap.size = w.heap.size + 4) := hz
  clear hW0 hz
  have m3 : W0.cell? ⟨w.heap.size, 3, none⟩ = some (.slice ao m.links.length cap) := hb0.cell 3
  have hl0 := hb0.lt
  go_enter Try.func80, Try.ntmps80
  go_upto_region 2 with fail
  rw [← HW0.out]
  clear hmm
  go_wp2
  clear m3
  go_loopw [16] (fun s16 wr => ∃ (i : Nat) (wv : Value), s16 = .int .i64 i ∧ i ≤ m.links.length ∧ HMap wr (w.heap.size + 1 + 1) (hear0 m p i) ∧ Blk wr (w.heap.size + 1) #[.int .i64 0, .map none, .slice none 0 0] 123 ∧ Blk wr (w.heap.size + 1 + 1 + 1) #[.int .i64 en, .map (some (w.heap.size + 1 + 1)), wv] 123 ∧ Own wyE wr (w.heap.size + 4) wv (ways0 m p i) ∧ Below w.heap.size w wr) (fun s16 _ => m.links.length - (intOf s16).toNat)
  case atStart => exact ⟨0, _, rfl, Nat.zero_le _, hmp, hb1, hb3, Own.nil _ _ _, hB0⟩
  case round =>
    clear hb0 hb1 hb3 hmp hB0 hl0 HW0 Hz
    obtain ⟨i, wv, rfl, hi, hmp, hb1, hb3, hO, hbl⟩ := hrel
    have hl3 := hb3.lt
    obtain ⟨n, hn⟩ : ∃ n, n = (ways0 m p i).length := ⟨_, rfl⟩
    have hn12 : n ≤ 12 := by have := ways0_length m p i; omega
    have Hn : Hid (n = (ways0 m p i).length) := hn
    obtain ⟨aw, cw, hwf, hcw⟩ := hO.form'
    rw [← hn] at hwf hcw
    subst hwf
    clear hn
    by_cases hlt : i < m.links.length
    · obtain ⟨z, hz⟩ := get_of_lt hlt
      obtain ⟨lb, lo, hao, hlbB, hlc⟩ := RowsAt.at_ (hM.keep (hbl.mono hBm)).links hz
      subst hao
      have x0 := hlc 0 (.int .i64 z.f) rfl
      have x1 := hlc 1 (.int .i64 z.t) rfl
      have x2 := hlc 2 (.int .i64 z.a) rfl
      simp only [Nat.add_zero] at x0
      have hzb := hm.link hz
      have Hz : Hid (m.links[i]? = some z) := hz
      have hllb : lb < wr.heap.size := block_lt_of_cell x0
      clear hz hlc
      -- the world with the link laid
      have hlk : Blk (wr.alloc (.cells #[.int .i64 z.f, .int .i64 z.t, .int .i64 z.a] 78)) wr.heap.size #[.int .i64 z.f, .int .i64 z.t, .int .i64 z.a] 78 := heap_alloc_new wr _
      have hKl : KeptF (fun _ => False) wr (wr.alloc (.cells #[.int .i64 z.f, .int .i64 z.t, .int .i64 z.a] 78)) := (KeptF.refl _ wr).alloc _
      have hmp1 := hmp.keep hKl (fun e => e)
      have hb11 := hb1.keep hKl (fun e => e)
      have hb31 := hb3.keep hKl (fun e => e)
      have hO1 := hO.keep hKl (fun _ _ e => e)
      have hbl1 : Below w.heap.size w (wr.alloc (.cells #[.int .i64 z.f, .int .i64 z.t, .int .i64 z.a] 78)) := hbl.alloc hbl.size _
      have hls : (wr.alloc (.cells #[.int .i64 z.f, .int .i64 z.t, .int .i64 z.a] 78)).heap.size = wr.heap.size + 1 := by simp
      have k0 : (wr.alloc (.cells #[.int .i64 z.f, .int .i64 z.t, .int .i64 z.a] 78)).cell? ⟨wr.heap.size, 0, none⟩ = some (.int .i64 z.f) := hlk.cell 0
      have k1 : (wr.alloc (.cells #[.int .i64 z.f, .int .i64 z.t, .int .i64 z.a] 78)).cell? ⟨wr.heap.size, 1, none⟩ = some (.int .i64 z.t) := hlk.cell 1
      have k2 : (wr.alloc (.cells #[.int .i64 z.f, .int .i64 z.t, .int .i64 z.a] 78)).cell? ⟨wr.heap.size, 2, none⟩ = some (.int .i64 z.a) := hlk.cell 2
      have c1 : (wr.alloc (.cells #[.int .i64 z.f, .int .i64 z.t, .int .i64 z.a] 78)).cell? ⟨w.heap.size + 1 + 1 + 1, 1, none⟩ = some (.map (some (w.heap.size + 1 + 1))) := hb31.cell 1
      go_upto_region 5 with fail
      have Hls : Hid ((wr.alloc (.cells #[.int .i64 z.f, .int .i64 z.t, .int .i64 z.a] 78)).heap.size = wr.heap.size + 1) := hls
      clear hls hKl hmp hb1 hb3 hO hbl x0 x1 x2
      generalize (wr.alloc (.cells #[.int .i64 z.f, .int .i64 z.t, .int .i64 z.a] 78)) = Wl at *
      go_upto_if 24 with fail
      go_cut [] (fun wc => HMap wc (w.heap.size + 1 + 1) (hear0 m p (i + 1)) ∧ KeptF (fun r => r = w.heap.size + 1 + 1) Wl wc)
      case first =>
        by_cases ht : z.t = p
        · obtain ⟨D, hown, hD⟩ := hmp1
          have hkey := keyOf_int_mk (P := Try.prog) Try.underlying3 (wf_small (c := (i : Int)) (by omega) (by omega))
          have hcc : 0 ≤ z.a ∧ z.a ≤ 1000 := by omega
          go_wp2_with (at_mapUpdate; refine wpList_mapUpdate_own _ rfl _ _ _ 120 rfl 3 3 key_law Try.underlying120 _ (w.heap.size + 1 + 1) 12 _ rfl hown (by unfold maxLen; omega) _ _ _ rfl rfl hkey _ [] (plainElem_int Try.underlying3 (wf_small hcc.1 hcc.2)) ?_)
          intro w1 hown1 hgrow1
          go_wp2
          go_meet
          case rel =>
            rw [hear0_succ Hz.out, if_pos ht]
            have hput := hD.put hown.isMap (k := (i : Int)) ⟨by omega, by omega⟩ hcc
            exact ⟨⟨_, hown_small hown1 hput, hput⟩, KeptF.of_grown hgrow1 (fun i e _ => by cases e; rfl)⟩
        · go_wp2
          go_meet
          case rel =>
            rw [hear0_succ Hz.out, if_neg ht]
            exact ⟨hmp1, KeptF.refl _ _⟩
      case rest =>
        obtain ⟨hmp2, hK2⟩ := hcut
        have hne : ∀ r, (Value.slice aw n cw).ownBlock = some r → w.heap.size + 4 ≤ r := fun r hr => (hO1.lt hr).1
        have hb12 := hb11.keep hK2 (by omega)
        have hb32 := hb31.keep hK2 (by omega)
        have hlk2 := hlk.keep hK2 (by have := hb31.lt; omega)
        have hO2 := hO1.keep hK2 (fun r hr e => by have := hne r hr; omega)
        have hbl2 : Below w.heap.size w wc := hbl1.trans (KeptF.below hK2 hbl1.size (fun r e => by omega))
        clear k0 k1 k2 c1 hmp1 hb11 hb31 hO1 hbl1
        have k0 : wc.cell? ⟨wr.heap.size, 0, none⟩ = some (.int .i64 z.f) := hlk2.cell 0
        have k2 : wc.cell? ⟨wr.heap.size, 2, none⟩ = some (.int .i64 z.a) := hlk2.cell 2
        have c2 : wc.cell? ⟨w.heap.size + 1 + 1 + 1, 2, none⟩ = some (.slice aw n cw) := hb32.cell 2
        have f2 : wc.frozen? ⟨w.heap.size + 1 + 1 + 1, 2, none⟩ = false := hb32.frozen 2
        have hl1 := hlk2.lt
        have hl2 := hb32.lt
        by_cases hf : z.f = p
        · have Hw : Hid (ways0 m p (i + 1) = ways0 m p i ++ [⟨(i : Int), z.a, -1⟩]) := by
            show _ = _
            rw [ways0_succ]
            unfold way1
            rw [Hz.out]
            simp [hf]
          have hcc := newCells wc [.int .i64 (i : Int), .int .i64 z.a, .int .i64 (-1)] 193
          have hone : ∀ u ∈ ([.int .i64 (i : Int), .int .i64 z.a, .int .i64 (-1)] : List Value), u.oneCell' = true := wyE.one ⟨(i : Int), z.a, -1⟩
          have hWW : KeptF (fun _ => False) wc (wc.alloc (.cells #[.int .i64 (i : Int), .int .i64 z.a, .int .i64 (-1)] 193)) := (KeptF.refl _ wc).alloc _
          have hown0 : (wc.alloc (.cells #[.int .i64 (i : Int), .int .i64 z.a, .int .i64 (-1)] 193)).ownsRow (w.heap.size + 4) 193 3 (.slice aw n cw) n (flat wyE (ways0 m p i)) := by
            rw [Hn.out]; rw [Hn.out] at hO2; exact hO2.keep hWW (fun _ _ e => e)
          have hls2 : w.heap.size + 4 ≤ wc.heap.size := by omega
          go_wp2_with (at_builtin; (refine wpList_append_ownX rfl (.tmp 35) (.tmp 40) 121 rfl (w.heap.size + 4) 193 i0 _ 3 24 und_wys hi0 hz0 hz1 hz2 rfl (by decide) (.slice aw n cw) n (flat wyE (ways0 m p i)) rfl ?_ ⟨wc.heap.size, 0, none⟩ 1 1 [.int .i64 (i : Int), .int .i64 z.a, .int .i64 (-1)] rfl ?_ ?_ ?_ ?_ ?_ ?_ ?_))
          · exact hown0
          · rfl
          · exact hcc
          · exact hone
          · unfold maxLen; omega
          · omega
          · exact Nat.le_trans hls2 hWW.size
          · intro v2 w2 hown2 hgr2 hfr2
            have hK3 : KeptF (fun r => (Value.slice aw n cw).ownBlock = some r) wc w2 := (hWW.weaken (fun _ _ e => e.elim)).trans (KeptF.of_grown hgr2 (fun k h _ => h))
            have hO3 : Own wyE w2 (w.heap.size + 4) v2 (ways0 m p (i + 1)) := by
              rw [Hw.out]
              exact Own.snoc (x := (⟨(i : Int), z.a, -1⟩ : Wy)) (by rw [← Hn.out]; exact hown2)
            have hmp3 := hmp2.keep hK3 (fun e => by have := hne _ e; omega)
            have hb13 := hb12.keep hK3 (fun e => by have := hne _ e; omega)
            have hb33 := hb32.keep hK3 (fun e => by have := hne _ e; omega)
            have hbl3 : Below w.heap.size w w2 := hbl2.trans (KeptF.below hK3 hbl2.size (fun r e => by have := hne r e; omega))
            obtain ⟨a2, n2, c2', hv2⟩ : ∃ a2 n2 c2', v2 = .slice a2 n2 c2' := by obtain ⟨a2, c2', h1, _⟩ := hO3.form'; exact ⟨a2, _, c2', h1⟩
            subst hv2
            have g2 : w2.cell? ⟨w.heap.size + 1 + 1 + 1, 2, none⟩ = some (.slice aw n cw) := hb33.cell 2
            have gf : w2.frozen? ⟨w.heap.size + 1 + 1 + 1, 2, none⟩ = false := hb33.frozen 2
            have hge : ∀ r, (Value.slice a2 n2 c2').ownBlock = some r → w.heap.size + 4 ≤ r := fun r hr => (hO3.lt hr).1
            clear hown2 hgr2 hfr2 hown0 hcc hone hWW hO2 k0 k2 c2 f2 hK2 hlk2 hmp2 hb12 hb32 hbl2
            go_wp2
            go_roundw
            case rel =>
              have hk4 : KeptF (fun r => r = w.heap.size + 1 + 1 + 1) w2 (w2.setCell ⟨w.heap.size + 1 + 1 + 1, 2, none⟩ (.slice a2 n2 c2')) := (KeptF.refl (fun r => r = w.heap.size + 1 + 1 + 1) w2).setCell (p := ⟨w.heap.size + 1 + 1 + 1, 2, none⟩) (.inl rfl) _
              refine ⟨i + 1, .slice a2 n2 c2', by go_num, hlt, hmp3.keep hk4 (by omega), hb13.keep hk4 (by omega), hb33.set 2 _, hO3.keep hk4 (fun r hr e => by have := hge r hr; omega), hbl3.trans (KeptF.below hk4 hbl3.size (fun r e => by omega))⟩
            case measure => simp [intOf]; omega
        · have Hw : Hid (ways0 m p (i + 1) = ways0 m p i) := by
            show _ = _
            rw [ways0_succ]
            unfold way1
            rw [Hz.out]
            simp [hf]
          go_wp2
          go_roundw
          case rel => exact ⟨i + 1, .slice aw n cw, by go_num, hlt, hmp2, hb12, hb32, by rw [Hw.out]; exact hO2, hbl2⟩
          case measure => simp [intOf]; omega
    · have hie : i = m.links.length := by omega
      subst hie
      have c0 : wr.cell? ⟨w.heap.size + 1 + 1 + 1, 0, none⟩ = some (.int .i64 en) := hb3.cell 0
      have c1 : wr.cell? ⟨w.heap.size + 1 + 1 + 1, 1, none⟩ = some (.map (some (w.heap.size + 1 + 1))) := hb3.cell 1
      have c2 : wr.cell? ⟨w.heap.size + 1 + 1 + 1, 2, none⟩ = some (.slice aw n cw) := hb3.cell 2
      have d0 : wr.cell? ⟨w.heap.size + 1, 0, none⟩ = some (.int .i64 0) := hb1.cell 0
      have d1 : wr.cell? ⟨w.heap.size + 1, 1, none⟩ = some (.map none) := hb1.cell 1
      have d2 : wr.cell? ⟨w.heap.size + 1, 2, none⟩ = some (.slice none 0 0) := hb1.cell 2
      have f0 : wr.frozen? ⟨w.heap.size + 1, 0, none⟩ = false := hb1.frozen 0
      have f1 : wr.frozen? ⟨w.heap.size + 1, 1, none⟩ = false := hb1.frozen 1
      have f2 : wr.frozen? ⟨w.heap.size + 1, 2, none⟩ = false := hb1.frozen 2
      have hl1 := hb1.lt
      have hK4 : KeptF (fun r => r = w.heap.size + 1) wr (((wr.setCell ⟨w.heap.size + 1, 0, none⟩ (.int .i64 en)).setCell ⟨w.heap.size + 1, 1, none⟩ (.map (some (w.heap.size + 1 + 1)))).setCell ⟨w.heap.size + 1, 2, none⟩ (.slice aw n cw)) := (((KeptF.refl (fun r => r = w.heap.size + 1) wr).setCell (p := ⟨w.heap.size + 1, 0, none⟩) (.inl rfl) _).setCell (p := ⟨w.heap.size + 1, 1, none⟩) (.inl rfl) _).setCell (p := ⟨w.heap.size + 1, 2, none⟩) (.inl rfl) _
      have hge : ∀ r, (Value.slice aw n cw).ownBlock = some r → w.heap.size + 4 ≤ r := fun r hr => (hO.lt hr).1
      have hOf := (hO.keep hK4 (fun r hr e => by have := hge r hr; omega)).mono (show w.heap.size ≤ w.heap.size + 4 by omega)
      have hmf := hmp.keep hK4 (by omega)
      have hbf : Below w.heap.size w (((wr.setCell ⟨w.heap.size + 1, 0, none⟩ (.int .i64 en)).setCell ⟨w.heap.size + 1, 1, none⟩ (.map (some (w.heap.size + 1 + 1)))).setCell ⟨w.heap.size + 1, 2, none⟩ (.slice aw n cw)) := hbl.trans (KeptF.below hK4 hbl.size (fun r e => by omega))
      have hbk := ((hb1.set 0 (.int .i64 en)).set 1 (.map (some (w.heap.size + 1 + 1)))).set 2 (.slice aw n cw)
      have q0 : (((wr.setCell ⟨w.heap.size + 1, 0, none⟩ (.int .i64 en)).setCell ⟨w.heap.size + 1, 1, none⟩ (.map (some (w.heap.size + 1 + 1)))).setCell ⟨w.heap.size + 1, 2, none⟩ (.slice aw n cw)).cell? ⟨w.heap.size + 1, 0, none⟩ = some (.int .i64 en) := hbk.cell 0
      have q1 : (((wr.setCell ⟨w.heap.size + 1, 0, none⟩ (.int .i64 en)).setCell ⟨w.heap.size + 1, 1, none⟩ (.map (some (w.heap.size + 1 + 1)))).setCell ⟨w.heap.size + 1, 2, none⟩ (.slice aw n cw)).cell? ⟨w.heap.size + 1, 1, none⟩ = some (.map (some (w.heap.size + 1 + 1))) := hbk.cell 1
      have q2 : (((wr.setCell ⟨w.heap.size + 1, 0, none⟩ (.int .i64 en)).setCell ⟨w.heap.size + 1, 1, none⟩ (.map (some (w.heap.size + 1 + 1)))).setCell ⟨w.heap.size + 1, 2, none⟩ (.slice aw n cw)).cell? ⟨w.heap.size + 1, 2, none⟩ = some (.slice aw n cw) := hbk.cell 2
      go_wp2
      refine bodyPost_ret (v := .agg #[.int .i64 en, .map (some (w.heap.size + 1 + 1)), .slice aw n cw]) (by simp [results, Try.results80, go_sem, q0, q1, q2]) rfl ⟨w.heap.size + 1 + 1, .slice aw n cw, rfl, hmf, hOf, by omega, fun e => by have := hge _ e; omega, hbf⟩

end Go.Proofs.Ytkobkilfbbalaaa

