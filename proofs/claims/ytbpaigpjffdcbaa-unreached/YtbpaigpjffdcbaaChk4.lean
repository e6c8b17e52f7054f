/-
  rightEmit, rightRule, firstWrongRule.
-/
import Derived.Test.YtbpaigpjffdcbaaChk3
namespace Go.Proofs.Ytbpaigpjffdcbaa
open Go.RowKit Go.Sort Go.Maps

theorem withinB_iff {x a b : Int} : withinB x a b = true ↔ a ≤ x ∧ x ≤ b := by simp [withinB]

theorem emitOk_no {m : Mdl} {p : Int} {e : MEmit} (h : withinB e.k 0 ((m.links.length : Int) - 1) = false) : emitOk m p e = false := by
  unfold emitOk; rw [h]; rfl
theorem emitOk_at {m : Mdl} {p : Int} {e : MEmit} {y : MLink} (h : withinB e.k 0 ((m.links.length : Int) - 1) = true) (hy : m.links[e.k.toNat]? = some y) : emitOk m p e = (decide (y.f = p) && withinB e.d y.a 60 && isL m e.l) := by
  unfold emitOk; rw [if_pos h, hy]

set_option maxRecDepth 100000 in
set_option maxHeartbeats 4000000 in
theorem rightEmit_any (m : Mdl) (hm : Lim m) (lv rv sv : Value) (R : List RuleV) (B : Nat) (p : Int) (x : MEmit) (w : World) (h : ModelAt w B lv rv sv m R) :
    Calls Try.prog 75 #[.agg #[.int .i64 m.procs, .int .i64 m.states, .int .i64 m.loads, lv, rv, sv], .int .i64 p, .agg #[.int .i64 x.k, .int .i64 x.d, .int .i64 x.l]] w fun e w' => e = .returned (.bool (emitOk m p x)) ∧ Below w.heap.size w w' := by
  obtain ⟨ao, cap, hlv, hcap⟩ := RowsAt.form h.links
  have hnl := hm.nl
  cases hk : withinB x.k 0 ((m.links.length : Int) - 1) with
  | false =>
    have H := emitOk_no (p := p) hk
    have hform : ∃ ao cap, lv = .slice ao m.links.length cap := ⟨ao, cap, hlv⟩
    have hB0 : Below w.heap.size w ((w.alloc (.cells #[.int .i64 m.procs, .int .i64 m.states, .int .i64 m.loads, lv, rv, sv] 31)).alloc (.cells #[.int .i64 x.k, .int .i64 x.d, .int .i64 x.l] 98)) := ((Below.refl _ _).alloc (Nat.le_refl _) _).alloc (by simp) _
    have hmb : Blk ((w.alloc (.cells #[.int .i64 m.procs, .int .i64 m.states, .int .i64 m.loads, lv, rv, sv] 31)).alloc (.cells #[.int .i64 x.k, .int .i64 x.d, .int .i64 x.l] 98)) w.heap.size #[.int .i64 m.procs, .int .i64 m.states, .int .i64 m.loads, lv, rv, sv] 31 := (Blk.alloc (heap_alloc_new w (.cells #[.int .i64 m.procs, .int .i64 m.states, .int .i64 m.loads, lv, rv, sv] 31) : Blk _ _ _ _) _)
    have hxb : Blk ((w.alloc (.cells #[.int .i64 m.procs, .int .i64 m.states, .int .i64 m.loads, lv, rv, sv] 31)).alloc (.cells #[.int .i64 x.k, .int .i64 x.d, .int .i64 x.l] 98)) (w.heap.size + 1) #[.int .i64 x.k, .int .i64 x.d, .int .i64 x.l] 98 := by
      have := heap_alloc_new (w.alloc (.cells #[.int .i64 m.procs, .int .i64 m.states, .int .i64 m.loads, lv, rv, sv] 31)) (.cells #[.int .i64 x.k, .int .i64 x.d, .int .i64 x.l] 98)
      rw [World.size_alloc] at this
      exact this
    have R0 := Gr.refl ((w.alloc (.cells #[.int .i64 m.procs, .int .i64 m.states, .int .i64 m.loads, lv, rv, sv] 31)).alloc (.cells #[.int .i64 x.k, .int .i64 x.d, .int .i64 x.l] 98))
    have k0 := Gr.cells (v := .int .i64 m.procs) (hmb.cell 0)
    have k1 := Gr.cells (v := .int .i64 m.states) (hmb.cell 1)
    have k2 := Gr.cells (v := .int .i64 m.loads) (hmb.cell 2)
    have k3 := Gr.cells (v := lv) (hmb.cell 3)
    have k4 := Gr.cells (v := rv) (hmb.cell 4)
    have k5 := Gr.cells (v := sv) (hmb.cell 5)
    have x0 := Gr.cells (v := .int .i64 x.k) (hxb.cell 0)
    have x1 := Gr.cells (v := .int .i64 x.d) (hxb.cell 1)
    have x2 := Gr.cells (v := .int .i64 x.l) (hxb.cell 2)
    have P1 := Gr.calls ((w.alloc (.cells #[.int .i64 m.procs, .int .i64 m.states, .int .i64 m.loads, lv, rv, sv] 31)).alloc (.cells #[.int .i64 x.k, .int .i64 x.d, .int .i64 x.l] 98)) (isLink_any m hm lv rv sv hform x.k)
    have P2 := Gr.calls ((w.alloc (.cells #[.int .i64 m.procs, .int .i64 m.states, .int .i64 m.loads, lv, rv, sv] 31)).alloc (.cells #[.int .i64 x.k, .int .i64 x.d, .int .i64 x.l] 98)) (isLoad_any m hm lv rv sv x.l)
    clear hmb hxb
    rw [hk] at P1
    clear hlv
    go_enter Try.func75, Try.ntmps75
    go_wp2_with fail
    refine (P1 _ R0).mono ?_
    rintro e w1 ⟨rfl, g1⟩
    go_wp2
    go_ret
    first | exact ⟨ret_bool H.symm, Gr.below g1 hB0⟩ | exact ⟨rfl, Gr.below g1 hB0⟩
  | true =>
    obtain ⟨hk0, hk1⟩ := withinB_iff.1 hk
    obtain ⟨y, hy⟩ := get_of_lt (d := m.links) (k := x.k.toNat) (by omega)
    have H := emitOk_at (p := p) hk hy
    subst hlv
    obtain ⟨b, off, hao, hbB, hc⟩ := RowsAt.at_ h.links hy
    subst hao
    have hform : ∃ ao cap', Value.slice (some ⟨b, off, none⟩) m.links.length cap = .slice ao m.links.length cap' := ⟨_, _, rfl⟩
    have hB0 : Below w.heap.size w ((w.alloc (.cells #[.int .i64 m.procs, .int .i64 m.states, .int .i64 m.loads, (.slice (some ⟨b, off, none⟩) m.links.length cap), rv, sv] 31)).alloc (.cells #[.int .i64 x.k, .int .i64 x.d, .int .i64 x.l] 98)) := ((Below.refl _ _).alloc (Nat.le_refl _) _).alloc (by simp) _
    have hmb : Blk ((w.alloc (.cells #[.int .i64 m.procs, .int .i64 m.states, .int .i64 m.loads, (.slice (some ⟨b, off, none⟩) m.links.length cap), rv, sv] 31)).alloc (.cells #[.int .i64 x.k, .int .i64 x.d, .int .i64 x.l] 98)) w.heap.size #[.int .i64 m.procs, .int .i64 m.states, .int .i64 m.loads, (.slice (some ⟨b, off, none⟩) m.links.length cap), rv, sv] 31 := (Blk.alloc (heap_alloc_new w (.cells #[.int .i64 m.procs, .int .i64 m.states, .int .i64 m.loads, (.slice (some ⟨b, off, none⟩) m.links.length cap), rv, sv] 31) : Blk _ _ _ _) _)
    have hxb : Blk ((w.alloc (.cells #[.int .i64 m.procs, .int .i64 m.states, .int .i64 m.loads, (.slice (some ⟨b, off, none⟩) m.links.length cap), rv, sv] 31)).alloc (.cells #[.int .i64 x.k, .int .i64 x.d, .int .i64 x.l] 98)) (w.heap.size + 1) #[.int .i64 x.k, .int .i64 x.d, .int .i64 x.l] 98 := by
      have := heap_alloc_new (w.alloc (.cells #[.int .i64 m.procs, .int .i64 m.states, .int .i64 m.loads, (.slice (some ⟨b, off, none⟩) m.links.length cap), rv, sv] 31)) (.cells #[.int .i64 x.k, .int .i64 x.d, .int .i64 x.l] 98)
      rw [World.size_alloc] at this
      exact this
    have R0 := Gr.refl ((w.alloc (.cells #[.int .i64 m.procs, .int .i64 m.states, .int .i64 m.loads, (.slice (some ⟨b, off, none⟩) m.links.length cap), rv, sv] 31)).alloc (.cells #[.int .i64 x.k, .int .i64 x.d, .int .i64 x.l] 98))
    have k0 := Gr.cells (v := .int .i64 m.procs) (hmb.cell 0)
    have k1 := Gr.cells (v := .int .i64 m.states) (hmb.cell 1)
    have k2 := Gr.cells (v := .int .i64 m.loads) (hmb.cell 2)
    have k3 := Gr.cells (v := (.slice (some ⟨b, off, none⟩) m.links.length cap)) (hmb.cell 3)
    have k4 := Gr.cells (v := rv) (hmb.cell 4)
    have k5 := Gr.cells (v := sv) (hmb.cell 5)
    have x0 := Gr.cells (v := .int .i64 x.k) (hxb.cell 0)
    have x1 := Gr.cells (v := .int .i64 x.d) (hxb.cell 1)
    have x2 := Gr.cells (v := .int .i64 x.l) (hxb.cell 2)
    have P1 := Gr.calls ((w.alloc (.cells #[.int .i64 m.procs, .int .i64 m.states, .int .i64 m.loads, (.slice (some ⟨b, off, none⟩) m.links.length cap), rv, sv] 31)).alloc (.cells #[.int .i64 x.k, .int .i64 x.d, .int .i64 x.l] 98)) (isLink_any m hm (.slice (some ⟨b, off, none⟩) m.links.length cap) rv sv hform x.k)
    have P2 := Gr.calls ((w.alloc (.cells #[.int .i64 m.procs, .int .i64 m.states, .int .i64 m.loads, (.slice (some ⟨b, off, none⟩) m.links.length cap), rv, sv] 31)).alloc (.cells #[.int .i64 x.k, .int .i64 x.d, .int .i64 x.l] 98)) (isLoad_any m hm (.slice (some ⟨b, off, none⟩) m.links.length cap) rv sv x.l)
    clear hmb hxb
    rw [hk] at P1
    have L0 := Gr.cells (Gr.cell (W := (w.alloc (.cells #[.int .i64 m.procs, .int .i64 m.states, .int .i64 m.loads, (.slice (some ⟨b, off, none⟩) m.links.length cap), rv, sv] 31)).alloc (.cells #[.int .i64 x.k, .int .i64 x.d, .int .i64 x.l] 98)) hB0 (hc 0 (.int .i64 y.f) rfl))
    have L1 := Gr.cells (Gr.cell (W := (w.alloc (.cells #[.int .i64 m.procs, .int .i64 m.states, .int .i64 m.loads, (.slice (some ⟨b, off, none⟩) m.links.length cap), rv, sv] 31)).alloc (.cells #[.int .i64 x.k, .int .i64 x.d, .int .i64 x.l] 98)) hB0 (hc 1 (.int .i64 y.t) rfl))
    have L2 := Gr.cells (Gr.cell (W := (w.alloc (.cells #[.int .i64 m.procs, .int .i64 m.states, .int .i64 m.loads, (.slice (some ⟨b, off, none⟩) m.links.length cap), rv, sv] 31)).alloc (.cells #[.int .i64 x.k, .int .i64 x.d, .int .i64 x.l] 98)) hB0 (hc 2 (.int .i64 y.a) rfl))
    simp only [Nat.add_zero] at L0
    have hki : x.k < (m.links.length : Int) := by omega
    clear hy hk h hc
    by_cases e1 : y.f = p
    · have n1 : (y.f == p) = true := beq_iff_eq.2 e1
      have d1 : decide (y.f = p) = true := decide_eq_true e1
      rw [d1] at H
      clear e1 d1
      cases e2 : withinB x.d y.a 60
      case' true => cases e3 : isL m x.l
      all_goals
        simp only [*, Bool.and_true, Bool.and_false, Bool.false_and] at H
        go_enter Try.func75, Try.ntmps75
        go_wp2_with fail
        refine (P1 _ R0).mono ?_
        rintro e w1 ⟨rfl, g1⟩
        have hs1 := Below.size g1
        have g1a := g1.alloc (.cells #[.int .i64 y.f, .int .i64 y.t, .int .i64 y.a] 91)
        go_wp2_with (first | (go_at_call 58; refine (P2 _ (by assumption)).mono ?_; rintro e w2 ⟨rfl, g2⟩) | (go_at_call 37; refine (within_any _ _ _ _).mono ?_; rintro e w3 ⟨rfl, rfl⟩))
        go_ret
        exact ⟨ret_bool H.symm, Gr.below (by assumption) hB0⟩
    · have n1 : (y.f == p) = false := beq_eq_false_iff_ne.2 e1
      have d1 : decide (y.f = p) = false := decide_eq_false e1
      rw [d1, Bool.false_and, Bool.false_and] at H
      clear e1 d1
      go_enter Try.func75, Try.ntmps75
      go_wp2_with fail
      refine (P1 _ R0).mono ?_
      rintro e w1 ⟨rfl, g1⟩
      have hs1 := Below.size g1
      have g1a := g1.alloc (.cells #[.int .i64 y.f, .int .i64 y.t, .int .i64 y.a] 91)
      go_wp2
      go_ret
      exact ⟨ret_bool H.symm, Gr.below (by assumption) hB0⟩

set_option maxRecDepth 100000 in
set_option maxHeartbeats 1000000 in
theorem emitFn_any (m : Mdl) (hm : Lim m) (lv rv sv : Value) (R : List RuleV) (B mb rb : Nat) (r : MRule) (ev : Value) (x : MEmit) (w : World) (h : ModelAt w B lv rv sv m R) (hB : B ≤ w.heap.size) (hb : Blk w mb #[.int .i64 m.procs, .int .i64 m.states, .int .i64 m.loads, lv, rv, sv] 31) (hr : Blk w rb #[.int .i64 r.p, .int .i64 r.s, .int .i64 r.l, .int .i64 r.n, ev] 100) :
    Calls Try.prog 74 #[.agg #[.int .i64 x.k, .int .i64 x.d, .int .i64 x.l], .pointer (some ⟨mb, 0, none⟩), .pointer (some ⟨rb, 0, none⟩)] w fun e w' => e = .returned (.bool (!emitOk m r.p x)) ∧ Below w.heap.size w w' := by
  have c0 := hb.cell 0
  have c1 := hb.cell 1
  have c2 := hb.cell 2
  have c3 := hb.cell 3
  have c4 := hb.cell 4
  have c5 := hb.cell 5
  simp only [List.getElem?_toArray, List.getElem?_cons_zero, List.getElem?_cons_succ] at c0 c1 c2 c3 c4 c5
  have r0 := hr.cell 0
  simp only [List.getElem?_toArray, List.getElem?_cons_zero] at r0
  have hl1 := hb.lt
  have hl2 := hr.lt
  have hB0 : Below w.heap.size w (w.alloc (.cells #[.int .i64 x.k, .int .i64 x.d, .int .i64 x.l] 98)) := (Below.refl _ _).alloc (Nat.le_refl _) _
  have P1 := rightEmit_any m hm lv rv sv R B r.p x (w.alloc (.cells #[.int .i64 x.k, .int .i64 x.d, .int .i64 x.l] 98)) (h.keep (hB0.mono hB))
  clear h hb hr
  go_enter Try.func74, Try.ntmps74
  go_wp2_with fail
  refine P1.mono ?_
  rintro e w1 ⟨rfl, g1⟩
  go_wp2
  go_ret
  exact ⟨rfl, Gr.below g1 hB0⟩

set_option maxRecDepth 100000 in
set_option maxHeartbeats 1000000 in
theorem contains_any (w : World) (B : Nat) (v : Value) (l : List MEmit) (p : MEmit → Bool) (cap : Array Value) (h : EmitsAt w B v l) (hn : l.length ≤ 5864062014634)
    (hp : ∀ x ∈ l, ∀ W, Gr w W → Calls Try.prog 74 (#[.agg #[.int .i64 x.k, .int .i64 x.d, .int .i64 x.l]] ++ cap) W fun e w' => e = .returned (.bool (p x)) ∧ Gr w w') :
    Calls Try.prog 73 #[v, .func (.func 74) #[] cap] w fun e w' => e = .returned (.bool (decide (0 ≤ firstIx p l))) ∧ Below w.heap.size w w' := by
  have hix := ixEmit_any w B v l p cap h hn hp
  clear h hp
  go_enter Try.func73, Try.ntmps73
  go_wp2_with fail
  refine hix.mono ?_
  rintro e w1 ⟨rfl, g1⟩
  go_wp2
  go_ret
  exact ⟨rfl, g1⟩

theorem firstIx_all {p : MEmit → Bool} {l : List MEmit} : (!decide (0 ≤ firstIx (fun x => !p x) l)) = l.all p := by
  by_cases h : ∀ x ∈ l, p x = true
  · rw [firstIx_none (fun j y hy => by simp [h y (List.mem_of_getElem? hy)])]
    have : l.all p = true := List.all_eq_true.2 h
    rw [this]; rfl
  · have h2 : l.all p = false := by
      rw [← Bool.not_eq_true, List.all_eq_true]; exact h
    rw [h2]
    unfold firstIx
    split
    · simp
    · rename_i hn
      rw [List.findIdx?_eq_none_iff] at hn
      exact absurd (fun x hx => by simpa using hn x hx) h

set_option maxRecDepth 100000 in
set_option maxHeartbeats 8000000 in
theorem rightRule_any (m : Mdl) (hm : Lim m) (lv rv sv : Value) (R : List RuleV) (B : Nat) (r : MRule) (ev : Value) (w : World) (h : ModelAt w B lv rv sv m R) (hE : EmitsAt w B ev r.es) (hB : B ≤ w.heap.size) (hne : r.es.length ≤ 5864062014634) :
    Calls Try.prog 54 #[.agg #[.int .i64 m.procs, .int .i64 m.states, .int .i64 m.loads, lv, rv, sv], .agg #[.int .i64 r.p, .int .i64 r.s, .int .i64 r.l, .int .i64 r.n, ev]] w fun e w' => e = .returned (.bool (ruleOk m r)) ∧ Below w.heap.size w w' := by
  obtain ⟨ao, cap, rfl, hcap⟩ := RowsAt.form hE
  have hB0 : Below w.heap.size w ((w.alloc (.cells #[.int .i64 m.procs, .int .i64 m.states, .int .i64 m.loads, lv, rv, sv] 31)).alloc (.cells #[.int .i64 r.p, .int .i64 r.s, .int .i64 r.l, .int .i64 r.n, (.slice ao r.es.length cap)] 100)) := ((Below.refl _ _).alloc (Nat.le_refl _) _).alloc (by simp) _
  have hmb : Blk ((w.alloc (.cells #[.int .i64 m.procs, .int .i64 m.states, .int .i64 m.loads, lv, rv, sv] 31)).alloc (.cells #[.int .i64 r.p, .int .i64 r.s, .int .i64 r.l, .int .i64 r.n, (.slice ao r.es.length cap)] 100)) w.heap.size #[.int .i64 m.procs, .int .i64 m.states, .int .i64 m.loads, lv, rv, sv] 31 := (Blk.alloc (heap_alloc_new w (.cells #[.int .i64 m.procs, .int .i64 m.states, .int .i64 m.loads, lv, rv, sv] 31) : Blk _ _ _ _) _)
  have hrb : Blk ((w.alloc (.cells #[.int .i64 m.procs, .int .i64 m.states, .int .i64 m.loads, lv, rv, sv] 31)).alloc (.cells #[.int .i64 r.p, .int .i64 r.s, .int .i64 r.l, .int .i64 r.n, (.slice ao r.es.length cap)] 100)) (w.heap.size + 1) #[.int .i64 r.p, .int .i64 r.s, .int .i64 r.l, .int .i64 r.n, (.slice ao r.es.length cap)] 100 := by
    have := heap_alloc_new (w.alloc (.cells #[.int .i64 m.procs, .int .i64 m.states, .int .i64 m.loads, lv, rv, sv] 31)) (.cells #[.int .i64 r.p, .int .i64 r.s, .int .i64 r.l, .int .i64 r.n, (.slice ao r.es.length cap)] 100)
    rw [World.size_alloc] at this
    exact this
  have R0 := Gr.refl ((w.alloc (.cells #[.int .i64 m.procs, .int .i64 m.states, .int .i64 m.loads, lv, rv, sv] 31)).alloc (.cells #[.int .i64 r.p, .int .i64 r.s, .int .i64 r.l, .int .i64 r.n, (.slice ao r.es.length cap)] 100))
  have k0 := Gr.cells (v := .int .i64 m.procs) (hmb.cell 0)
  have k1 := Gr.cells (v := .int .i64 m.states) (hmb.cell 1)
  have k2 := Gr.cells (v := .int .i64 m.loads) (hmb.cell 2)
  have k3 := Gr.cells (v := lv) (hmb.cell 3)
  have k4 := Gr.cells (v := rv) (hmb.cell 4)
  have k5 := Gr.cells (v := sv) (hmb.cell 5)
  have x0 := Gr.cells (v := .int .i64 r.p) (hrb.cell 0)
  have x1 := Gr.cells (v := .int .i64 r.s) (hrb.cell 1)
  have x2 := Gr.cells (v := .int .i64 r.l) (hrb.cell 2)
  have x3 := Gr.cells (v := .int .i64 r.n) (hrb.cell 3)
  have x4 := Gr.cells (v := .slice ao r.es.length cap) (hrb.cell 4)
  have P1 := Gr.calls ((w.alloc (.cells #[.int .i64 m.procs, .int .i64 m.states, .int .i64 m.loads, lv, rv, sv] 31)).alloc (.cells #[.int .i64 r.p, .int .i64 r.s, .int .i64 r.l, .int .i64 r.n, (.slice ao r.es.length cap)] 100)) (isProc_any m hm lv rv sv r.p)
  have P2 := Gr.calls ((w.alloc (.cells #[.int .i64 m.procs, .int .i64 m.states, .int .i64 m.loads, lv, rv, sv] 31)).alloc (.cells #[.int .i64 r.p, .int .i64 r.s, .int .i64 r.l, .int .i64 r.n, (.slice ao r.es.length cap)] 100)) (isState_any m hm lv rv sv r.s)
  have P3 := Gr.calls ((w.alloc (.cells #[.int .i64 m.procs, .int .i64 m.states, .int .i64 m.loads, lv, rv, sv] 31)).alloc (.cells #[.int .i64 r.p, .int .i64 r.s, .int .i64 r.l, .int .i64 r.n, (.slice ao r.es.length cap)] 100)) (isLoad_any m hm lv rv sv r.l)
  have P4 := Gr.calls ((w.alloc (.cells #[.int .i64 m.procs, .int .i64 m.states, .int .i64 m.loads, lv, rv, sv] 31)).alloc (.cells #[.int .i64 r.p, .int .i64 r.s, .int .i64 r.l, .int .i64 r.n, (.slice ao r.es.length cap)] 100)) (isState_any m hm lv rv sv r.n)
  have P5 : ∀ W, Gr ((w.alloc (.cells #[.int .i64 m.procs, .int .i64 m.states, .int .i64 m.loads, lv, rv, sv] 31)).alloc (.cells #[.int .i64 r.p, .int .i64 r.s, .int .i64 r.l, .int .i64 r.n, (.slice ao r.es.length cap)] 100)) W → Calls Try.prog 73 #[.slice ao r.es.length cap, .func (.func 74) #[] #[.pointer (some ⟨w.heap.size, 0, none⟩), .pointer (some ⟨w.heap.size + 1, 0, none⟩)]] W fun e w' => e = .returned (.bool (decide (0 ≤ firstIx (fun x => !emitOk m r.p x) r.es))) ∧ Gr ((w.alloc (.cells #[.int .i64 m.procs, .int .i64 m.states, .int .i64 m.loads, lv, rv, sv] 31)).alloc (.cells #[.int .i64 r.p, .int .i64 r.s, .int .i64 r.l, .int .i64 r.n, (.slice ao r.es.length cap)] 100)) w' := by
    intro W hW
    have hBW := Gr.below hW hB0
    refine (contains_any W B _ r.es (fun x => !emitOk m r.p x) _ (RowsAt.keep hE (hBW.mono hB)) hne (fun x _ W' hW' => ?_)).mono fun e w' ⟨he, hb⟩ => ⟨he, hW.trans hb⟩
    refine (emitFn_any m hm lv rv sv R B w.heap.size (w.heap.size + 1) r _ x W' (h.keep ((Gr.below hW' hBW).mono hB)) (Nat.le_trans hB (Gr.below hW' hBW).size) (hmb.keep (hW.trans hW').kept (fun e => e)) (hrb.keep (hW.trans hW').kept (fun e => e))).mono fun e w' ⟨he, hb⟩ => ⟨he, hW'.trans hb⟩
  have H : ruleOk m r = (isP m r.p && isS m r.s && isL m r.l && isS m r.n && decide (r.es.length ≤ 4) && r.es.all (emitOk m r.p)) := rfl
  rw [← firstIx_all] at H
  clear hmb hrb h hE
  cases h1 : isP m r.p
  case' true =>
    cases h2 : isS m r.s
    case' true =>
      cases h3 : isL m r.l
      case' true =>
        cases h4 : isS m r.n
        case' true => by_cases h5 : r.es.length ≤ 4
  all_goals
    simp only [*, decide_true, decide_false, Bool.and_true, Bool.true_and, Bool.and_false, Bool.false_and] at H
    go_enter Try.func54, Try.ntmps54
    go_wp2_with fail
    refine (P1 _ R0).mono ?_
    rintro e w1 ⟨rfl, g1⟩
    go_wp2_with (first | (go_at_call 72; (first | refine (P2 _ (by assumption)).mono ?_ | refine (P4 _ (by assumption)).mono ?_); rintro e w2 ⟨rfl, g2⟩) | (go_at_call 58; refine (P3 _ (by assumption)).mono ?_; rintro e w2 ⟨rfl, g2⟩) | (go_at_call 73; refine (P5 _ (by assumption)).mono ?_; rintro e w2 ⟨rfl, g2⟩))
    go_ret
    exact ⟨ret_bool H.symm, Gr.below (by assumption) hB0⟩

end Go.Proofs.Ytbpaigpjffdcbaa
