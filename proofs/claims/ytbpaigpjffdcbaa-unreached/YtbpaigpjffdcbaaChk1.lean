/-
  The walks of Check's small parts.
-/
import Derived.Test.YtbpaigpjffdcbaaMdl
namespace Go.Proofs.Ytbpaigpjffdcbaa
open Go.RowKit Go.Sort Go.Maps

structure Lim (m : Mdl) : Prop where
  p1 : 1 ≤ m.procs
  p2 : m.procs ≤ 6
  s1 : 1 ≤ m.states
  s2 : m.states ≤ 6
  l1 : 1 ≤ m.loads
  l2 : m.loads ≤ 6
  nl : m.links.length ≤ 12
  nr : m.rules.length ≤ 40
  ns : m.starts.length ≤ 12

theorem below_of_kept {w w' : World} (h : KeptF (fun _ => False) w w') : Below w.heap.size w w' := h.below (Nat.le_refl _) (fun _ e => e.elim)
theorem kept_of_below' {w w' : World} (h : Below w.heap.size w w') : KeptF (fun _ => False) w w' := KeptF.of_below h

/-- only new blocks have come -/
def Gr (W0 W : World) : Prop := Below W0.heap.size W0 W
theorem Gr.refl (W : World) : Gr W W := Below.refl _ _
theorem Gr.trans {a b c : World} (h : Gr a b) (k : Gr b c) : Gr a c := Below.trans h (Below.mono k (Below.size h))
theorem Gr.cell {W0 W : World} (h : Gr W0 W) {a : Addr} {v : Value} (hc : W0.cell? a = some v) : W.cell? a = some v := by
  rw [Below.cell h (block_lt_of_cell hc)]; exact hc
theorem Gr.cells {W0 : World} {a : Addr} {v : Value} (hc : W0.cell? a = some v) : ∀ W, Gr W0 W → W.cell? a = some v := fun _ h => h.cell hc
theorem Gr.alloc {W0 W : World} (h : Gr W0 W) (o : Obj) : Gr W0 (W.alloc o) := Below.alloc h (Below.size h) o
theorem Gr.kept {W0 W : World} (h : Gr W0 W) : KeptF (fun _ => False) W0 W := KeptF.of_below h
theorem Gr.calls {P : Program} {f : FuncId} {args : Array Value} {v : Value} (W0 : World) (h : ∀ W, Calls P f args W fun e w' => e = .returned v ∧ Below W.heap.size W w') :
    ∀ W, Gr W0 W → Calls P f args W fun e w' => e = .returned v ∧ Gr W0 w' :=
  fun W hW => (h W).mono fun _ _ ⟨he, hb⟩ => ⟨he, hW.trans hb⟩
theorem Gr.below {w W0 W : World} (h : Gr W0 W) (k : Below w.heap.size w W0) : Below w.heap.size w W := k.trans (Below.mono h (Below.size k))

theorem withinB_t {x a b : Int} (h1 : a ≤ x) (h2 : x ≤ b) : withinB x a b = true := by simp [withinB, h1, h2]
theorem withinB_f1 {x a b : Int} (h1 : ¬ a ≤ x) : withinB x a b = false := by simp [withinB, h1]
theorem withinB_f2 {x a b : Int} (h2 : ¬ x ≤ b) : withinB x a b = false := by simp [withinB, h2]

set_option maxHeartbeats 400000 in
theorem within_any (x a b : Int) (w : World) :
    Calls Try.prog 37 #[.int .i64 x, .int .i64 a, .int .i64 b] w fun e w' => e = .returned (.bool (withinB x a b)) ∧ w' = w := by
  by_cases h1 : a ≤ x
  · by_cases h2 : x ≤ b
    · have H := withinB_t h1 h2
      go_enter Try.func37, Try.ntmps37
      go_wp2
      go_ret
      first | exact ⟨ret_bool H.symm, rfl⟩ | exact ⟨rfl, rfl⟩
    · have H := withinB_f2 (a := a) h2
      go_enter Try.func37, Try.ntmps37
      go_wp2
      go_ret
      first | exact ⟨ret_bool H.symm, rfl⟩ | exact ⟨rfl, rfl⟩
  · have H := withinB_f1 (b := b) h1
    go_enter Try.func37, Try.ntmps37
    go_wp2
    go_ret
    first | exact ⟨ret_bool H.symm, rfl⟩ | exact ⟨rfl, rfl⟩

set_option maxRecDepth 100000 in
set_option maxHeartbeats 400000 in
theorem isProc_any (m : Mdl) (hm : Lim m) (lv rv sv : Value) (x : Int) (w : World) :
    Calls Try.prog 53 #[.agg #[.int .i64 m.procs, .int .i64 m.states, .int .i64 m.loads, lv, rv, sv], .int .i64 x] w fun e w' => e = .returned (.bool (isP m x)) ∧ Below w.heap.size w w' := by
  have h1 := hm.p1
  have h2 := hm.p2
  have H : isP m x = withinB x 0 (m.procs - 1) := rfl
  go_enter Try.func53, Try.ntmps53
  go_wp2_with (go_at_call 37; refine (within_any _ _ _ _).mono ?_; rintro e w' ⟨rfl, rfl⟩)
  go_ret
  exact ⟨ret_bool H.symm, (Below.refl _ _).alloc (Nat.le_refl _) _⟩

set_option maxRecDepth 100000 in
set_option maxHeartbeats 400000 in
theorem isState_any (m : Mdl) (hm : Lim m) (lv rv sv : Value) (x : Int) (w : World) :
    Calls Try.prog 72 #[.agg #[.int .i64 m.procs, .int .i64 m.states, .int .i64 m.loads, lv, rv, sv], .int .i64 x] w fun e w' => e = .returned (.bool (isS m x)) ∧ Below w.heap.size w w' := by
  have h1 := hm.s1
  have h2 := hm.s2
  have H : isS m x = withinB x 0 (m.states - 1) := rfl
  go_enter Try.func72, Try.ntmps72
  go_wp2_with (go_at_call 37; refine (within_any _ _ _ _).mono ?_; rintro e w' ⟨rfl, rfl⟩)
  go_ret
  exact ⟨ret_bool H.symm, (Below.refl _ _).alloc (Nat.le_refl _) _⟩

set_option maxRecDepth 100000 in
set_option maxHeartbeats 400000 in
theorem isLoad_any (m : Mdl) (hm : Lim m) (lv rv sv : Value) (x : Int) (w : World) :
    Calls Try.prog 58 #[.agg #[.int .i64 m.procs, .int .i64 m.states, .int .i64 m.loads, lv, rv, sv], .int .i64 x] w fun e w' => e = .returned (.bool (isL m x)) ∧ Below w.heap.size w w' := by
  have h1 := hm.l1
  have h2 := hm.l2
  have H : isL m x = withinB x 0 (m.loads - 1) := rfl
  go_enter Try.func58, Try.ntmps58
  go_wp2_with (go_at_call 37; refine (within_any _ _ _ _).mono ?_; rintro e w' ⟨rfl, rfl⟩)
  go_ret
  exact ⟨ret_bool H.symm, (Below.refl _ _).alloc (Nat.le_refl _) _⟩

set_option maxRecDepth 100000 in
set_option maxHeartbeats 400000 in
theorem isLink_any (m : Mdl) (hm : Lim m) (lv rv sv : Value) (hl : ∃ ao cap, lv = .slice ao m.links.length cap) (x : Int) (w : World) :
    Calls Try.prog 87 #[.agg #[.int .i64 m.procs, .int .i64 m.states, .int .i64 m.loads, lv, rv, sv], .int .i64 x] w fun e w' => e = .returned (.bool (withinB x 0 ((m.links.length : Int) - 1))) ∧ Below w.heap.size w w' := by
  obtain ⟨ao, cap, rfl⟩ := hl
  have h1 := hm.nl
  go_enter Try.func87, Try.ntmps87
  go_wp2_with (go_at_call 37; refine (within_any _ _ _ _).mono ?_; rintro e w' ⟨rfl, rfl⟩)
  go_ret
  exact ⟨rfl, (Below.refl _ _).alloc (Nat.le_refl _) _⟩

def limB (m : Mdl) : Bool := withinB m.procs 1 6 && withinB m.states 1 6 && withinB m.loads 1 6 && decide ((m.links.length : Int) ≤ 12) && decide ((m.rules.length : Int) ≤ 40) && decide ((m.starts.length : Int) ≤ 12)

theorem lim_of_limB {m : Mdl} (h : limB m = true) : Lim m := by
  simp only [limB, withinB, Bool.and_eq_true, decide_eq_true_eq] at h
  obtain ⟨⟨⟨⟨⟨⟨a, b⟩, c, d⟩, e, f⟩, g⟩, i⟩, j⟩ := h
  exact ⟨a, b, c, d, e, f, by omega, by omega, by omega⟩

set_option maxRecDepth 100000 in
set_option maxHeartbeats 4000000 in
theorem fits_any (m : Mdl) (lv rv sv : Value) (hl : ∃ ao cap, lv = .slice ao m.links.length cap) (hr : ∃ ao cap, rv = .slice ao m.rules.length cap) (hs : ∃ ao cap, sv = .slice ao m.starts.length cap) (w : World) :
    Calls Try.prog 33 #[.agg #[.int .i64 m.procs, .int .i64 m.states, .int .i64 m.loads, lv, rv, sv]] w fun e w' => e = .returned (.bool (limB m)) ∧ Below w.heap.size w w' := by
  obtain ⟨ao, cap, rfl⟩ := hl
  obtain ⟨ao1, cap1, rfl⟩ := hr
  obtain ⟨ao2, cap2, rfl⟩ := hs
  have H : limB m = (withinB m.procs 1 6 && withinB m.states 1 6 && withinB m.loads 1 6 && decide ((m.links.length : Int) ≤ 12) && decide ((m.rules.length : Int) ≤ 40) && decide ((m.starts.length : Int) ≤ 12)) := rfl
  cases h1 : withinB m.procs 1 6
  case' true =>
    cases h2 : withinB m.states 1 6
    case' true =>
      cases h3 : withinB m.loads 1 6
      case' true =>
        cases h4 : decide ((m.links.length : Int) ≤ 12)
        case' true =>
          cases h5 : decide ((m.rules.length : Int) ≤ 40)
          case' true =>
            cases h6 : decide ((m.starts.length : Int) ≤ 12)
  all_goals
    simp only [*, Bool.and_true, Bool.and_false, Bool.false_and] at H
    go_enter Try.func33, Try.ntmps33
    go_wp2_with (go_at_call 37; refine (within_any _ _ _ _).mono ?_; rintro e w' ⟨rfl, rfl⟩)
    go_ret
    exact ⟨ret_bool H.symm, (Below.refl _ _).alloc (Nat.le_refl _) _⟩

theorem cell?_alloc_some' {W : World} {a : Addr} {v : Value} {o : Obj} (h : W.cell? a = some v) : (W.alloc o).cell? a = some v := by
  rw [World.cell?_of_block (w := W) (Below.heap_alloc W o a.block (block_lt_of_cell h))]; exact h

set_option maxRecDepth 100000 in
set_option maxHeartbeats 4000000 in
theorem linkFn_any (m : Mdl) (hm : Lim m) (lv rv sv : Value) (mb : Nat) (x : MLink) (w : World) (hb : Blk w mb #[.int .i64 m.procs, .int .i64 m.states, .int .i64 m.loads, lv, rv, sv] 31) :
    Calls Try.prog 52 #[.agg #[.int .i64 x.f, .int .i64 x.t, .int .i64 x.a], .pointer (some ⟨mb, 0, none⟩)] w fun e w' => e = .returned (.bool (linkBad m x)) ∧ Below w.heap.size w w' := by
  have c0 := hb.cell 0
  have c1 := hb.cell 1
  have c2 := hb.cell 2
  have c3 := hb.cell 3
  have c4 := hb.cell 4
  have c5 := hb.cell 5
  simp only [List.getElem?_toArray, List.getElem?_cons_zero, List.getElem?_cons_succ] at c0 c1 c2 c3 c4 c5
  have k0 := Gr.cells (W0 := w.alloc (.cells #[.int .i64 x.f, .int .i64 x.t, .int .i64 x.a] 91)) (cell?_alloc_some' c0)
  have k1 := Gr.cells (W0 := w.alloc (.cells #[.int .i64 x.f, .int .i64 x.t, .int .i64 x.a] 91)) (cell?_alloc_some' c1)
  have k2 := Gr.cells (W0 := w.alloc (.cells #[.int .i64 x.f, .int .i64 x.t, .int .i64 x.a] 91)) (cell?_alloc_some' c2)
  have k3 := Gr.cells (W0 := w.alloc (.cells #[.int .i64 x.f, .int .i64 x.t, .int .i64 x.a] 91)) (cell?_alloc_some' c3)
  have k4 := Gr.cells (W0 := w.alloc (.cells #[.int .i64 x.f, .int .i64 x.t, .int .i64 x.a] 91)) (cell?_alloc_some' c4)
  have k5 := Gr.cells (W0 := w.alloc (.cells #[.int .i64 x.f, .int .i64 x.t, .int .i64 x.a] 91)) (cell?_alloc_some' c5)
  have hx : Blk (w.alloc (.cells #[.int .i64 x.f, .int .i64 x.t, .int .i64 x.a] 91)) w.heap.size #[.int .i64 x.f, .int .i64 x.t, .int .i64 x.a] 91 := heap_alloc_new w _
  have R0 := Gr.refl (w.alloc (.cells #[.int .i64 x.f, .int .i64 x.t, .int .i64 x.a] 91))
  have x0 := Gr.cells (v := .int .i64 x.f) (hx.cell 0)
  have x1 := Gr.cells (v := .int .i64 x.t) (hx.cell 1)
  have x2 := Gr.cells (v := .int .i64 x.a) (hx.cell 2)
  have hB0 : Below w.heap.size w (w.alloc (.cells #[.int .i64 x.f, .int .i64 x.t, .int .i64 x.a] 91)) := (Below.refl _ _).alloc (Nat.le_refl _) _
  have H : linkBad m x = (!isP m x.f || !isP m x.t || !withinB x.a 1 50) := rfl
  have P1 := Gr.calls (w.alloc (.cells #[.int .i64 x.f, .int .i64 x.t, .int .i64 x.a] 91)) (isProc_any m hm lv rv sv x.f)
  have P2 := Gr.calls (w.alloc (.cells #[.int .i64 x.f, .int .i64 x.t, .int .i64 x.a] 91)) (isProc_any m hm lv rv sv x.t)
  have hlt := hb.lt
  clear hb hx
  cases h1 : isP m x.f
  case' true =>
    cases h2 : isP m x.t
    case' true => cases h3 : withinB x.a 1 50
  all_goals
    simp only [*, Bool.not_true, Bool.not_false, Bool.or_true, Bool.or_false, Bool.true_or] at H
    go_enter Try.func52, Try.ntmps52
    go_wp2_with fail
    refine (P1 _ R0).mono ?_
    rintro e w1 ⟨rfl, g1⟩
    clear c0 c1 c2 c3 c4 c5
    go_wp2_with (first | (go_at_call 53; refine (P2 _ (by assumption)).mono ?_; rintro e w2 ⟨rfl, g2⟩) | (go_at_call 37; refine (within_any _ _ _ _).mono ?_; rintro e w3 ⟨rfl, rfl⟩))
    go_ret
    exact ⟨ret_bool H.symm, Gr.below (by assumption) hB0⟩

set_option maxRecDepth 100000 in
set_option maxHeartbeats 4000000 in
theorem startFn_any (m : Mdl) (hm : Lim m) (lv rv sv : Value) (mb : Nat) (x : MStart) (w : World) (hb : Blk w mb #[.int .i64 m.procs, .int .i64 m.states, .int .i64 m.loads, lv, rv, sv] 31) :
    Calls Try.prog 57 #[.agg #[.int .i64 x.p, .int .i64 x.t, .int .i64 x.l], .pointer (some ⟨mb, 0, none⟩)] w fun e w' => e = .returned (.bool (startBad m x)) ∧ Below w.heap.size w w' := by
  have c0 := hb.cell 0
  have c1 := hb.cell 1
  have c2 := hb.cell 2
  have c3 := hb.cell 3
  have c4 := hb.cell 4
  have c5 := hb.cell 5
  simp only [List.getElem?_toArray, List.getElem?_cons_zero, List.getElem?_cons_succ] at c0 c1 c2 c3 c4 c5
  have k0 := Gr.cells (W0 := w.alloc (.cells #[.int .i64 x.p, .int .i64 x.t, .int .i64 x.l] 73)) (cell?_alloc_some' c0)
  have k1 := Gr.cells (W0 := w.alloc (.cells #[.int .i64 x.p, .int .i64 x.t, .int .i64 x.l] 73)) (cell?_alloc_some' c1)
  have k2 := Gr.cells (W0 := w.alloc (.cells #[.int .i64 x.p, .int .i64 x.t, .int .i64 x.l] 73)) (cell?_alloc_some' c2)
  have k3 := Gr.cells (W0 := w.alloc (.cells #[.int .i64 x.p, .int .i64 x.t, .int .i64 x.l] 73)) (cell?_alloc_some' c3)
  have k4 := Gr.cells (W0 := w.alloc (.cells #[.int .i64 x.p, .int .i64 x.t, .int .i64 x.l] 73)) (cell?_alloc_some' c4)
  have k5 := Gr.cells (W0 := w.alloc (.cells #[.int .i64 x.p, .int .i64 x.t, .int .i64 x.l] 73)) (cell?_alloc_some' c5)
  have hx : Blk (w.alloc (.cells #[.int .i64 x.p, .int .i64 x.t, .int .i64 x.l] 73)) w.heap.size #[.int .i64 x.p, .int .i64 x.t, .int .i64 x.l] 73 := heap_alloc_new w _
  have R0 := Gr.refl (w.alloc (.cells #[.int .i64 x.p, .int .i64 x.t, .int .i64 x.l] 73))
  have x0 := Gr.cells (v := .int .i64 x.p) (hx.cell 0)
  have x1 := Gr.cells (v := .int .i64 x.t) (hx.cell 1)
  have x2 := Gr.cells (v := .int .i64 x.l) (hx.cell 2)
  have hB0 : Below w.heap.size w (w.alloc (.cells #[.int .i64 x.p, .int .i64 x.t, .int .i64 x.l] 73)) := (Below.refl _ _).alloc (Nat.le_refl _) _
  have H : startBad m x = (!isP m x.p || !withinB x.t 0 200 || !isL m x.l) := rfl
  have P1 := Gr.calls (w.alloc (.cells #[.int .i64 x.p, .int .i64 x.t, .int .i64 x.l] 73)) (isProc_any m hm lv rv sv x.p)
  have P2 := Gr.calls (w.alloc (.cells #[.int .i64 x.p, .int .i64 x.t, .int .i64 x.l] 73)) (isLoad_any m hm lv rv sv x.l)
  have hlt := hb.lt
  clear hb hx
  cases h1 : isP m x.p
  case' true =>
    cases h2 : withinB x.t 0 200
    case' true => cases h3 : isL m x.l
  all_goals
    simp only [*, Bool.not_true, Bool.not_false, Bool.or_true, Bool.or_false, Bool.true_or] at H
    go_enter Try.func57, Try.ntmps57
    go_wp2_with fail
    refine (P1 _ R0).mono ?_
    rintro e w1 ⟨rfl, g1⟩
    clear c0 c1 c2 c3 c4 c5
    go_wp2_with (first | (go_at_call 58; refine (P2 _ (by assumption)).mono ?_; rintro e w2 ⟨rfl, g2⟩) | (go_at_call 37; refine (within_any _ _ _ _).mono ?_; rintro e w3 ⟨rfl, rfl⟩))
    go_ret
    exact ⟨ret_bool H.symm, Gr.below (by assumption) hB0⟩

set_option maxRecDepth 100000 in
set_option maxHeartbeats 4000000 in
theorem findFn_any (b1 b2 b3 : Nat) (p s l : Int) (x : RuleV) (w : World) (h1 : w.cell? ⟨b1, 0, none⟩ = some (.int .i64 p)) (h2 : w.cell? ⟨b2, 0, none⟩ = some (.int .i64 s)) (h3 : w.cell? ⟨b3, 0, none⟩ = some (.int .i64 l)) :
    Calls Try.prog 77 #[.agg #[.int .i64 x.r.p, .int .i64 x.r.s, .int .i64 x.r.l, .int .i64 x.r.n, x.ev], .pointer (some ⟨b1, 0, none⟩), .pointer (some ⟨b2, 0, none⟩), .pointer (some ⟨b3, 0, none⟩)] w fun e w' => e = .returned (.bool (ruleFor p s l x.r)) ∧ Below w.heap.size w w' := by
  have H : ruleFor p s l x.r = (decide (x.r.p = p) && decide (x.r.s = s) && decide (x.r.l = l)) := rfl
  have l1 : b1 < w.heap.size := block_lt_of_cell h1
  have l2 : b2 < w.heap.size := block_lt_of_cell h2
  have l3 : b3 < w.heap.size := block_lt_of_cell h3
  have g1 := cell?_alloc_some' (o := .cells #[.int .i64 x.r.p, .int .i64 x.r.s, .int .i64 x.r.l, .int .i64 x.r.n, x.ev] 100) h1
  have g2 := cell?_alloc_some' (o := .cells #[.int .i64 x.r.p, .int .i64 x.r.s, .int .i64 x.r.l, .int .i64 x.r.n, x.ev] 100) h2
  have g3 := cell?_alloc_some' (o := .cells #[.int .i64 x.r.p, .int .i64 x.r.s, .int .i64 x.r.l, .int .i64 x.r.n, x.ev] 100) h3
  by_cases e1 : x.r.p = p
  · by_cases e2 : x.r.s = s
    · by_cases e3 : x.r.l = l
      · have n1 : (x.r.p == p) = true := beq_iff_eq.2 e1
        have n2 : (x.r.s == s) = true := beq_iff_eq.2 e2
        have n3 : (x.r.l == l) = true := beq_iff_eq.2 e3
        have HF : Hid (ruleFor p s l x.r = true) := by show _ = _; rw [H]; simp [e1, e2, e3]
        clear H e1 e2 e3
        go_enter Try.func77, Try.ntmps77
        go_wp2
        go_ret
        exact ⟨ret_bool HF.out.symm, (Below.refl _ _).alloc (Nat.le_refl _) _⟩
      · have n1 : (x.r.p == p) = true := beq_iff_eq.2 e1
        have n2 : (x.r.s == s) = true := beq_iff_eq.2 e2
        have n3 : (x.r.l == l) = false := beq_eq_false_iff_ne.2 e3
        have HF : Hid (ruleFor p s l x.r = false) := by show _ = _; rw [H]; simp [e3]
        clear H e1 e2 e3
        go_enter Try.func77, Try.ntmps77
        go_wp2
        go_ret
        exact ⟨ret_bool HF.out.symm, (Below.refl _ _).alloc (Nat.le_refl _) _⟩
    · have n1 : (x.r.p == p) = true := beq_iff_eq.2 e1
      have n2 : (x.r.s == s) = false := beq_eq_false_iff_ne.2 e2
      have HF : Hid (ruleFor p s l x.r = false) := by show _ = _; rw [H]; simp [e2]
      clear H e1 e2
      go_enter Try.func77, Try.ntmps77
      go_wp2
      go_ret
      exact ⟨ret_bool HF.out.symm, (Below.refl _ _).alloc (Nat.le_refl _) _⟩
  · have n1 : (x.r.p == p) = false := beq_eq_false_iff_ne.2 e1
    have HF : Hid (ruleFor p s l x.r = false) := by show _ = _; rw [H]; simp [e1]
    clear H e1
    go_enter Try.func77, Try.ntmps77
    go_wp2
    go_ret
    exact ⟨ret_bool HF.out.symm, (Below.refl _ _).alloc (Nat.le_refl _) _⟩

end Go.Proofs.Ytbpaigpjffdcbaa
