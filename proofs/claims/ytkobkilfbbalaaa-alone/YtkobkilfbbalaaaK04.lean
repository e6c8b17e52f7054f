/-
  A model, plain; and how it lies in memory (the reference's and the program's alike).
  The walks of Check's small parts.
  slices.IndexFunc with the program's own functions, and what rests on it.
  firstWrongLink, firstWrongStart, findRule, rightEmit, rightRule, firstWrongRule.
  rightEmit, rightRule, firstWrongRule.
  firstWrongRule.
  The reference: within, below, Find, emits.
-/
import Derived.Test.YtkobkilfbbalaaaK03
namespace Go.Proofs.Ytkobkilfbbalaaa
open Go.RowKit Go.Sort Go.Maps

structure MLink where
  f : Int
  t : Int
  a : Int
structure MEmit where
  k : Int
  d : Int
  l : Int
structure MRule where
  p : Int
  s : Int
  l : Int
  n : Int
  es : List MEmit
structure MStart where
  p : Int
  t : Int
  l : Int
structure Mdl where
  procs : Int
  states : Int
  loads : Int
  links : List MLink
  rules : List MRule
  starts : List MStart

/-- rows of sz cells each, from some place on, in blocks below B -/
def RowsAt {α : Type} (sz : Nat) (enc : α → List Value) (w : World) (B : Nat) (v : Value) (l : List α) : Prop :=
  ∃ ao cap, v = .slice ao l.length cap ∧ l.length ≤ cap ∧ (l ≠ [] → ∃ b off, ao = some ⟨b, off, none⟩ ∧ b < B ∧ ∀ (j : Nat) (x : α) (k : Nat) (u : Value), l[j]? = some x → (enc x)[k]? = some u → w.cell? ⟨b, off + j * sz + k, none⟩ = some u)

theorem RowsAt.keep {α : Type} {sz : Nat} {enc : α → List Value} {w w' : World} {B : Nat} {v : Value} {l : List α} (h : RowsAt sz enc w B v l) (k : Below B w w') : RowsAt sz enc w' B v l := by
  obtain ⟨ao, cap, h1, h2, h3⟩ := h
  refine ⟨ao, cap, h1, h2, fun hne => ?_⟩
  obtain ⟨b, off, h4, h5, h6⟩ := h3 hne
  exact ⟨b, off, h4, h5, fun j x k' u hx hu => by rw [k.cell (p := ⟨b, _, none⟩) h5]; exact h6 j x k' u hx hu⟩

theorem RowsAt.mono {α : Type} {sz : Nat} {enc : α → List Value} {w : World} {B B' : Nat} {v : Value} {l : List α} (h : RowsAt sz enc w B v l) (hB : B ≤ B') : RowsAt sz enc w B' v l := by
  obtain ⟨ao, cap, h1, h2, h3⟩ := h
  refine ⟨ao, cap, h1, h2, fun hne => ?_⟩
  obtain ⟨b, off, h4, h5, h6⟩ := h3 hne
  exact ⟨b, off, h4, by omega, h6⟩

/-- the first n rows -/
theorem RowsAt.take {α : Type} {sz : Nat} {enc : α → List Value} {w : World} {B : Nat} {ao : Option Addr} {len cap : Nat} {l : List α} (h : RowsAt sz enc w B (.slice ao len cap) l) (n : Nat) (hn : n ≤ l.length) : RowsAt sz enc w B (.slice ao n cap) (l.take n) := by
  obtain ⟨ao', cap', h1, h2, h3⟩ := h
  simp only [Value.slice.injEq] at h1
  obtain ⟨rfl, rfl, rfl⟩ := h1
  refine ⟨ao, cap, by rw [List.length_take, Nat.min_eq_left hn], by rw [List.length_take]; omega, fun hne => ?_⟩
  obtain ⟨b, off, h4, h5, h6⟩ := h3 (fun e => hne (by rw [e]; simp))
  refine ⟨b, off, h4, h5, fun j x k u hx hu => h6 j x k u ?_ hu⟩
  have := get_lt hx
  rw [List.length_take] at this
  rw [List.getElem?_take_of_lt (by omega)] at hx
  exact hx

def linkC (x : MLink) : List Value := [.int .i64 x.f, .int .i64 x.t, .int .i64 x.a]
def emitC (x : MEmit) : List Value := [.int .i64 x.k, .int .i64 x.d, .int .i64 x.l]
def startC (x : MStart) : List Value := [.int .i64 x.p, .int .i64 x.t, .int .i64 x.l]
structure RuleV where
  r : MRule
  ev : Value
def ruleC (x : RuleV) : List Value := [.int .i64 x.r.p, .int .i64 x.r.s, .int .i64 x.r.l, .int .i64 x.r.n, x.ev]

def LinksAt (w : World) (B : Nat) (v : Value) (l : List MLink) : Prop := RowsAt 3 linkC w B v l
def EmitsAt (w : World) (B : Nat) (v : Value) (l : List MEmit) : Prop := RowsAt 3 emitC w B v l
def StartsAt (w : World) (B : Nat) (v : Value) (l : List MStart) : Prop := RowsAt 3 startC w B v l
def RulesAt (w : World) (B : Nat) (v : Value) (L : List RuleV) : Prop := RowsAt 5 ruleC w B v L ∧ ∀ x ∈ L, EmitsAt w B x.ev x.r.es

theorem RowsAt.form {α : Type} {sz : Nat} {enc : α → List Value} {w : World} {B : Nat} {v : Value} {l : List α} (h : RowsAt sz enc w B v l) : ∃ ao cap, v = .slice ao l.length cap ∧ l.length ≤ cap := by
  obtain ⟨ao, cap, h1, h2, _⟩ := h
  exact ⟨ao, cap, h1, h2⟩

theorem RowsAt.at_ {α : Type} {sz : Nat} {enc : α → List Value} {w : World} {B : Nat} {ao : Option Addr} {len cap : Nat} {l : List α} (h : RowsAt sz enc w B (.slice ao len cap) l) {j : Nat} {x : α} (hx : l[j]? = some x) :
    ∃ b off, ao = some ⟨b, off, none⟩ ∧ b < B ∧ ∀ (k : Nat) (u : Value), (enc x)[k]? = some u → w.cell? ⟨b, off + j * sz + k, none⟩ = some u := by
  obtain ⟨ao', cap', h1, h2, h3⟩ := h
  simp only [Value.slice.injEq] at h1
  obtain ⟨rfl, rfl, rfl⟩ := h1
  obtain ⟨b, off, h4, h5, h6⟩ := h3 (fun e => by rw [e] at hx; simp at hx)
  exact ⟨b, off, h4, h5, fun k u hu => h6 j x k u hx hu⟩

/-- a model's three slices -/
structure ModelAt (w : World) (B : Nat) (lv rv sv : Value) (m : Mdl) (R : List RuleV) : Prop where
  links : LinksAt w B lv m.links
  rules : RulesAt w B rv R
  starts : StartsAt w B sv m.starts
  same : R.map RuleV.r = m.rules

theorem ModelAt.keep {w w' : World} {B : Nat} {lv rv sv : Value} {m : Mdl} {R : List RuleV} (h : ModelAt w B lv rv sv m R) (k : Below B w w') : ModelAt w' B lv rv sv m R :=
  ⟨RowsAt.keep h.links k, ⟨RowsAt.keep h.rules.1 k, fun x hx => RowsAt.keep (h.rules.2 x hx) k⟩, RowsAt.keep h.starts k, h.same⟩

theorem ModelAt.mono {w : World} {B B' : Nat} {lv rv sv : Value} {m : Mdl} {R : List RuleV} (h : ModelAt w B lv rv sv m R) (hB : B ≤ B') : ModelAt w B' lv rv sv m R :=
  ⟨RowsAt.mono h.links hB, ⟨RowsAt.mono h.rules.1 hB, fun x hx => RowsAt.mono (h.rules.2 x hx) hB⟩, RowsAt.mono h.starts hB, h.same⟩

/-! ### what is asked of a model, plainly -/
def withinB (x a b : Int) : Bool := decide (a ≤ x) && decide (x ≤ b)
def isP (m : Mdl) (p : Int) : Bool := withinB p 0 (m.procs - 1)
def isS (m : Mdl) (p : Int) : Bool := withinB p 0 (m.states - 1)
def isL (m : Mdl) (p : Int) : Bool := withinB p 0 (m.loads - 1)
def linkBad (m : Mdl) (x : MLink) : Bool := !isP m x.f || !isP m x.t || !withinB x.a 1 50
def emitOk (m : Mdl) (p : Int) (e : MEmit) : Bool :=
  if withinB e.k 0 ((m.links.length : Int) - 1) = true then
    match m.links[e.k.toNat]? with
    | some x => decide (x.f = p) && withinB e.d x.a 60 && isL m e.l
    | none => false
  else false
def ruleOk (m : Mdl) (r : MRule) : Bool :=
  isP m r.p && isS m r.s && isL m r.l && isS m r.n && decide (r.es.length ≤ 4) && r.es.all (emitOk m r.p)
def ruleFor (p s l : Int) (r : MRule) : Bool := decide (r.p = p) && decide (r.s = s) && decide (r.l = l)
def startBad (m : Mdl) (x : MStart) : Bool := !isP m x.p || !withinB x.t 0 200 || !isL m x.l

/-- the number of the first that answers yes; -1 if none -/
def firstIx {α : Type} (p : α → Bool) (l : List α) : Int :=
  match l.findIdx? p with
  | some i => i
  | none => -1

end Go.Proofs.Ytkobkilfbbalaaa

namespace Go.Proofs.Ytkobkilfbbalaaa
open Go.RowKit Go.Sort Go.Maps

structure Lim (m : Mdl) : Prop where
  p1 : 1 ≤ m.procs
  p2 : m.procs ≤ 6
  s1 : 1 ≤ m.states
  s2 : m.states ≤ 6
  l1 : 1 ≤ m.loads
  l2 : m.loads ≤ 6
  nl : m.links.length ≤ 12
  nr : m.rules.length ≤ 40
  ns : m.starts.length ≤ 12

theorem below_of_kept {w w' : World} (h : KeptF (fun _ => False) w w') : Below w.heap.size w w' := h.below (Nat.le_refl _) (fun _ e => e.elim)
theorem kept_of_below' {w w' : World} (h : Below w.heap.size w w') : KeptF (fun _ => False) w w' := KeptF.of_below h

/-- only new blocks have come -/
def Gr (W0 W : World) : Prop := Below W0.heap.size W0 W
theorem Gr.refl (W : World) : Gr W W := Below.refl _ _
theorem Gr.trans {a b c : World} (h : Gr a b) (k : Gr b c) : Gr a c := Below.trans h (Below.mono k (Below.size h))
theorem Gr.cell {W0 W : World} (h : Gr W0 W) {a : Addr} {v : Value} (hc : W0.cell? a = some v) : W.cell? a = some v := by
  rw [Below.cell h (block_lt_of_cell hc)]; exact hc
theorem Gr.cells {W0 : World} {a : Addr} {v : Value} (hc : W0.cell? a = some v) : ∀ W, Gr W0 W → W.cell? a = some v := fun _ h => h.cell hc
theorem Gr.alloc {W0 W : World} (h : Gr W0 W) (o : Obj) : Gr W0 (W.alloc o) := Below.alloc h (Below.size h) o
theorem Gr.kept {W0 W : World} (h : Gr W0 W) : KeptF (fun _ => False) W0 W := KeptF.of_below h
theorem Gr.calls {P : Program} {f : FuncId} {args : Array Value} {v : Value} (W0 : World) (h : ∀ W, Calls P f args W fun e w' => e = .returned v ∧ Below W.heap.size W w') :
    ∀ W, Gr W0 W → Calls P f args W fun e w' => e = .returned v ∧ Gr W0 w' :=
  fun W hW => (h W).mono fun _ _ ⟨he, hb⟩ => ⟨he, hW.trans hb⟩
theorem Gr.below {w W0 W : World} (h : Gr W0 W) (k : Below w.heap.size w W0) : Below w.heap.size w W := k.trans (Below.mono h (Below.size k))

theorem withinB_t {x a b : Int} (h1 : a ≤ x) (h2 : x ≤ b) : withinB x a b = true := by simp [withinB, h1, h2]
theorem withinB_f1 {x a b : Int} (h1 : ¬ a ≤ x) : withinB x a b = false := by simp [withinB, h1]
theorem withinB_f2 {x a b : Int} (h2 : ¬ x ≤ b) : withinB x a b = false := by simp [withinB, h2]

set_option maxHeartbeats 400000 in
theorem within_any (x a b : Int) (w : World) :
    Calls Try.prog 50 #[.int .i64 x, .int .i64 a, .int .i64 b] w fun e w' => e = .returned (.bool (withinB x a b)) ∧ w' = w := by
  by_cases h1 : a ≤ x
  · by_cases h2 : x ≤ b
    · have H := withinB_t h1 h2
      go_enter Try.func50, Try.ntmps50
      go_wp2
      go_ret
      first | exact ⟨ret_bool H.symm, rfl⟩ | exact ⟨rfl, rfl⟩
    · have H := withinB_f2 (a := a) h2
      go_enter Try.func50, Try.ntmps50
      go_wp2
      go_ret
      first | exact ⟨ret_bool H.symm, rfl⟩ | exact ⟨rfl, rfl⟩
  · have H := withinB_f1 (b := b) h1
    go_enter Try.func50, Try.ntmps50
    go_wp2
    go_ret
    first | exact ⟨ret_bool H.symm, rfl⟩ | exact ⟨rfl, rfl⟩

set_option maxRecDepth 100000 in
set_option maxHeartbeats 400000 in
theorem isProc_any (m : Mdl) (hm : Lim m) (lv rv sv : Value) (x : Int) (w : World) :
    Calls Try.prog 66 #[.agg #[.int .i64 m.procs, .int .i64 m.states, .int .i64 m.loads, lv, rv, sv], .int .i64 x] w fun e w' => e = .returned (.bool (isP m x)) ∧ Below w.heap.size w w' := by
  have h1 := hm.p1
  have h2 := hm.p2
  have H : isP m x = withinB x 0 (m.procs - 1) := rfl
  go_enter Try.func66, Try.ntmps66
  go_wp2_with (go_at_call 50; refine (within_any _ _ _ _).mono ?_; rintro e w' ⟨rfl, rfl⟩)
  go_ret
  exact ⟨ret_bool H.symm, (Below.refl _ _).alloc (Nat.le_refl _) _⟩

set_option maxRecDepth 100000 in
set_option maxHeartbeats 400000 in
theorem isState_any (m : Mdl) (hm : Lim m) (lv rv sv : Value) (x : Int) (w : World) :
    Calls Try.prog 96 #[.agg #[.int .i64 m.procs, .int .i64 m.states, .int .i64 m.loads, lv, rv, sv], .int .i64 x] w fun e w' => e = .returned (.bool (isS m x)) ∧ Below w.heap.size w w' := by
  have h1 := hm.s1
  have h2 := hm.s2
  have H : isS m x = withinB x 0 (m.states - 1) := rfl
  go_enter Try.func96, Try.ntmps96
  go_wp2_with (go_at_call 50; refine (within_any _ _ _ _).mono ?_; rintro e w' ⟨rfl, rfl⟩)
  go_ret
  exact ⟨ret_bool H.symm, (Below.refl _ _).alloc (Nat.le_refl _) _⟩

set_option maxRecDepth 100000 in
set_option maxHeartbeats 400000 in
theorem isLoad_any (m : Mdl) (hm : Lim m) (lv rv sv : Value) (x : Int) (w : World) :
    Calls Try.prog 79 #[.agg #[.int .i64 m.procs, .int .i64 m.states, .int .i64 m.loads, lv, rv, sv], .int .i64 x] w fun e w' => e = .returned (.bool (isL m x)) ∧ Below w.heap.size w w' := by
  have h1 := hm.l1
  have h2 := hm.l2
  have H : isL m x = withinB x 0 (m.loads - 1) := rfl
  go_enter Try.func79, Try.ntmps79
  go_wp2_with (go_at_call 50; refine (within_any _ _ _ _).mono ?_; rintro e w' ⟨rfl, rfl⟩)
  go_ret
  exact ⟨ret_bool H.symm, (Below.refl _ _).alloc (Nat.le_refl _) _⟩

set_option maxRecDepth 100000 in
set_option maxHeartbeats 400000 in
theorem isLink_any (m : Mdl) (hm : Lim m) (lv rv sv : Value) (hl : ∃ ao cap, lv = .slice ao m.links.length cap) (x : Int) (w : World) :
    Calls Try.prog 107 #[.agg #[.int .i64 m.procs, .int .i64 m.states, .int .i64 m.loads, lv, rv, sv], .int .i64 x] w fun e w' => e = .returned (.bool (withinB x 0 ((m.links.length : Int) - 1))) ∧ Below w.heap.size w w' := by
  obtain ⟨ao, cap, rfl⟩ := hl
  have h1 := hm.nl
  go_enter Try.func107, Try.ntmps107
  go_wp2_with (go_at_call 50; refine (within_any _ _ _ _).mono ?_; rintro e w' ⟨rfl, rfl⟩)
  go_ret
  exact ⟨rfl, (Below.refl _ _).alloc (Nat.le_refl _) _⟩

def limB (m : Mdl) : Bool := withinB m.procs 1 6 && withinB m.states 1 6 && withinB m.loads 1 6 && decide ((m.links.length : Int) ≤ 12) && decide ((m.rules.length : Int) ≤ 40) && decide ((m.starts.length : Int) ≤ 12)

theorem lim_of_limB {m : Mdl} (h : limB m = true) : Lim m := by
  simp only [limB, withinB, Bool.and_eq_true, decide_eq_true_eq] at h
  obtain ⟨⟨⟨⟨⟨⟨a, b⟩, c, d⟩, e, f⟩, g⟩, i⟩, j⟩ := h
  exact ⟨a, b, c, d, e, f, by omega, by omega, by omega⟩

set_option maxRecDepth 100000 in
set_option maxHeartbeats 4000000 in
theorem fits_any (m : Mdl) (lv rv sv : Value) (hl : ∃ ao cap, lv = .slice ao m.links.length cap) (hr : ∃ ao cap, rv = .slice ao m.rules.length cap) (hs : ∃ ao cap, sv = .slice ao m.starts.length cap) (w : World) :
    Calls Try.prog 46 #[.agg #[.int .i64 m.procs, .int .i64 m.states, .int .i64 m.loads, lv, rv, sv]] w fun e w' => e = .returned (.bool (limB m)) ∧ Below w.heap.size w w' := by
  obtain ⟨ao, cap, rfl⟩ := hl
  obtain ⟨ao1, cap1, rfl⟩ := hr
  obtain ⟨ao2, cap2, rfl⟩ := hs
  have H : limB m = (withinB m.procs 1 6 && withinB m.states 1 6 && withinB m.loads 1 6 && decide ((m.links.length : Int) ≤ 12) && decide ((m.rules.length : Int) ≤ 40) && decide ((m.starts.length : Int) ≤ 12)) := rfl
  cases h1 : withinB m.procs 1 6
  case' true =>
    cases h2 : withinB m.states 1 6
    case' true =>
      cases h3 : withinB m.loads 1 6
      case' true =>
        cases h4 : decide ((m.links.length : Int) ≤ 12)
        case' true =>
          cases h5 : decide ((m.rules.length : Int) ≤ 40)
          case' true =>
            cases h6 : decide ((m.starts.length : Int) ≤ 12)
  all_goals
    simp only [*, Bool.and_true, Bool.and_false, Bool.false_and] at H
    go_enter Try.func46, Try.ntmps46
    go_wp2_with (go_at_call 50; refine (within_any _ _ _ _).mono ?_; rintro e w' ⟨rfl, rfl⟩)
    go_ret
    exact ⟨ret_bool H.symm, (Below.refl _ _).alloc (Nat.le_refl _) _⟩

theorem cell?_alloc_some' {W : World} {a : Addr} {v : Value} {o : Obj} (h : W.cell? a = some v) : (W.alloc o).cell? a = some v := by
  rw [World.cell?_of_block (w := W) (Below.heap_alloc W o a.block (block_lt_of_cell h))]; exact h

set_option maxRecDepth 100000 in
set_option maxHeartbeats 4000000 in
theorem linkFn_any (m : Mdl) (hm : Lim m) (lv rv sv : Value) (mb : Nat) (x : MLink) (w : World) (hb : Blk w mb #[.int .i64 m.procs, .int .i64 m.states, .int .i64 m.loads, lv, rv, sv] 31) :
    Calls Try.prog 74 #[.agg #[.int .i64 x.f, .int .i64 x.t, .int .i64 x.a], .pointer (some ⟨mb, 0, none⟩)] w fun e w' => e = .returned (.bool (linkBad m x)) ∧ Below w.heap.size w w' := by
  have c0 := hb.cell 0
  have c1 := hb.cell 1
  have c2 := hb.cell 2
  have c3 := hb.cell 3
  have c4 := hb.cell 4
  have c5 := hb.cell 5
  simp only [List.getElem?_toArray, List.getElem?_cons_zero, List.getElem?_cons_succ] at c0 c1 c2 c3 c4 c5
  have k0 := Gr.cells (W0 := w.alloc (.cells #[.int .i64 x.f, .int .i64 x.t, .int .i64 x.a] 78)) (cell?_alloc_some' c0)
  have k1 := Gr.cells (W0 := w.alloc (.cells #[.int .i64 x.f, .int .i64 x.t, .int .i64 x.a] 78)) (cell?_alloc_some' c1)
  have k2 := Gr.cells (W0 := w.alloc (.cells #[.int .i64 x.f, .int .i64 x.t, .int .i64 x.a] 78)) (cell?_alloc_some' c2)
  have k3 := Gr.cells (W0 := w.alloc (.cells #[.int .i64 x.f, .int .i64 x.t, .int .i64 x.a] 78)) (cell?_alloc_some' c3)
  have k4 := Gr.cells (W0 := w.alloc (.cells #[.int .i64 x.f, .int .i64 x.t, .int .i64 x.a] 78)) (cell?_alloc_some' c4)
  have k5 := Gr.cells (W0 := w.alloc (.cells #[.int .i64 x.f, .int .i64 x.t, .int .i64 x.a] 78)) (cell?_alloc_some' c5)
  have hx : Blk (w.alloc (.cells #[.int .i64 x.f, .int .i64 x.t, .int .i64 x.a] 78)) w.heap.size #[.int .i64 x.f, .int .i64 x.t, .int .i64 x.a] 78 := heap_alloc_new w _
  have R0 := Gr.refl (w.alloc (.cells #[.int .i64 x.f, .int .i64 x.t, .int .i64 x.a] 78))
  have x0 := Gr.cells (v := .int .i64 x.f) (hx.cell 0)
  have x1 := Gr.cells (v := .int .i64 x.t) (hx.cell 1)
  have x2 := Gr.cells (v := .int .i64 x.a) (hx.cell 2)
  have hB0 : Below w.heap.size w (w.alloc (.cells #[.int .i64 x.f, .int .i64 x.t, .int .i64 x.a] 78)) := (Below.refl _ _).alloc (Nat.le_refl _) _
  have H : linkBad m x = (!isP m x.f || !isP m x.t || !withinB x.a 1 50) := rfl
  have P1 := Gr.calls (w.alloc (.cells #[.int .i64 x.f, .int .i64 x.t, .int .i64 x.a] 78)) (isProc_any m hm lv rv sv x.f)
  have P2 := Gr.calls (w.alloc (.cells #[.int .i64 x.f, .int .i64 x.t, .int .i64 x.a] 78)) (isProc_any m hm lv rv sv x.t)
  have hlt := hb.lt
  clear hb hx
  cases h1 : isP m x.f
  case' true =>
    cases h2 : isP m x.t
    case' true => cases h3 : withinB x.a 1 50
  all_goals
    simp only [*, Bool.not_true, Bool.not_false, Bool.or_true, Bool.or_false, Bool.true_or] at H
    go_enter Try.func74, Try.ntmps74
    go_wp2_with fail
    refine (P1 _ R0).mono ?_
    rintro e w1 ⟨rfl, g1⟩
    clear c0 c1 c2 c3 c4 c5
    go_wp2_with (first | (go_at_call 66; refine (P2 _ (by assumption)).mono ?_; rintro e w2 ⟨rfl, g2⟩) | (go_at_call 50; refine (within_any _ _ _ _).mono ?_; rintro e w3 ⟨rfl, rfl⟩))
    go_ret
    exact ⟨ret_bool H.symm, Gr.below (by assumption) hB0⟩

set_option maxRecDepth 100000 in
set_option maxHeartbeats 4000000 in
theorem startFn_any (m : Mdl) (hm : Lim m) (lv rv sv : Value) (mb : Nat) (x : MStart) (w : World) (hb : Blk w mb #[.int .i64 m.procs, .int .i64 m.states, .int .i64 m.loads, lv, rv, sv] 31) :
    Calls Try.prog 78 #[.agg #[.int .i64 x.p, .int .i64 x.t, .int .i64 x.l], .pointer (some ⟨mb, 0, none⟩)] w fun e w' => e = .returned (.bool (startBad m x)) ∧ Below w.heap.size w w' := by
  have c0 := hb.cell 0
  have c1 := hb.cell 1
  have c2 := hb.cell 2
  have c3 := hb.cell 3
  have c4 := hb.cell 4
  have c5 := hb.cell 5
  simp only [List.getElem?_toArray, List.getElem?_cons_zero, List.getElem?_cons_succ] at c0 c1 c2 c3 c4 c5
  have k0 := Gr.cells (W0 := w.alloc (.cells #[.int .i64 x.p, .int .i64 x.t, .int .i64 x.l] 90)) (cell?_alloc_some' c0)
  have k1 := Gr.cells (W0 := w.alloc (.cells #[.int .i64 x.p, .int .i64 x.t, .int .i64 x.l] 90)) (cell?_alloc_some' c1)
  have k2 := Gr.cells (W0 := w.alloc (.cells #[.int .i64 x.p, .int .i64 x.t, .int .i64 x.l] 90)) (cell?_alloc_some' c2)
  have k3 := Gr.cells (W0 := w.alloc (.cells #[.int .i64 x.p, .int .i64 x.t, .int .i64 x.l] 90)) (cell?_alloc_some' c3)
  have k4 := Gr.cells (W0 := w.alloc (.cells #[.int .i64 x.p, .int .i64 x.t, .int .i64 x.l] 90)) (cell?_alloc_some' c4)
  have k5 := Gr.cells (W0 := w.alloc (.cells #[.int .i64 x.p, .int .i64 x.t, .int .i64 x.l] 90)) (cell?_alloc_some' c5)
  have hx : Blk (w.alloc (.cells #[.int .i64 x.p, .int .i64 x.t, .int .i64 x.l] 90)) w.heap.size #[.int .i64 x.p, .int .i64 x.t, .int .i64 x.l] 90 := heap_alloc_new w _
  have R0 := Gr.refl (w.alloc (.cells #[.int .i64 x.p, .int .i64 x.t, .int .i64 x.l] 90))
  have x0 := Gr.cells (v := .int .i64 x.p) (hx.cell 0)
  have x1 := Gr.cells (v := .int .i64 x.t) (hx.cell 1)
  have x2 := Gr.cells (v := .int .i64 x.l) (hx.cell 2)
  have hB0 : Below w.heap.size w (w.alloc (.cells #[.int .i64 x.p, .int .i64 x.t, .int .i64 x.l] 90)) := (Below.refl _ _).alloc (Nat.le_refl _) _
  have H : startBad m x = (!isP m x.p || !withinB x.t 0 200 || !isL m x.l) := rfl
  have P1 := Gr.calls (w.alloc (.cells #[.int .i64 x.p, .int .i64 x.t, .int .i64 x.l] 90)) (isProc_any m hm lv rv sv x.p)
  have P2 := Gr.calls (w.alloc (.cells #[.int .i64 x.p, .int .i64 x.t, .int .i64 x.l] 90)) (isLoad_any m hm lv rv sv x.l)
  have hlt := hb.lt
  clear hb hx
  cases h1 : isP m x.p
  case' true =>
    cases h2 : withinB x.t 0 200
    case' true => cases h3 : isL m x.l
  all_goals
    simp only [*, Bool.not_true, Bool.not_false, Bool.or_true, Bool.or_false, Bool.true_or] at H
    go_enter Try.func78, Try.ntmps78
    go_wp2_with fail
    refine (P1 _ R0).mono ?_
    rintro e w1 ⟨rfl, g1⟩
    clear c0 c1 c2 c3 c4 c5
    go_wp2_with (first | (go_at_call 79; refine (P2 _ (by assumption)).mono ?_; rintro e w2 ⟨rfl, g2⟩) | (go_at_call 50; refine (within_any _ _ _ _).mono ?_; rintro e w3 ⟨rfl, rfl⟩))
    go_ret
    exact ⟨ret_bool H.symm, Gr.below (by assumption) hB0⟩

set_option maxRecDepth 100000 in
set_option maxHeartbeats 4000000 in
theorem findFn_any (b1 b2 b3 : Nat) (p s l : Int) (x : RuleV) (w : World) (h1 : w.cell? ⟨b1, 0, none⟩ = some (.int .i64 p)) (h2 : w.cell? ⟨b2, 0, none⟩ = some (.int .i64 s)) (h3 : w.cell? ⟨b3, 0, none⟩ = some (.int .i64 l)) :
    Calls Try.prog 101 #[.agg #[.int .i64 x.r.p, .int .i64 x.r.s, .int .i64 x.r.l, .int .i64 x.r.n, x.ev], .pointer (some ⟨b1, 0, none⟩), .pointer (some ⟨b2, 0, none⟩), .pointer (some ⟨b3, 0, none⟩)] w fun e w' => e = .returned (.bool (ruleFor p s l x.r)) ∧ Below w.heap.size w w' := by
  have H : ruleFor p s l x.r = (decide (x.r.p = p) && decide (x.r.s = s) && decide (x.r.l = l)) := rfl
  have l1 : b1 < w.heap.size := block_lt_of_cell h1
  have l2 : b2 < w.heap.size := block_lt_of_cell h2
  have l3 : b3 < w.heap.size := block_lt_of_cell h3
  have g1 := cell?_alloc_some' (o := .cells #[.int .i64 x.r.p, .int .i64 x.r.s, .int .i64 x.r.l, .int .i64 x.r.n, x.ev] 87) h1
  have g2 := cell?_alloc_some' (o := .cells #[.int .i64 x.r.p, .int .i64 x.r.s, .int .i64 x.r.l, .int .i64 x.r.n, x.ev] 87) h2
  have g3 := cell?_alloc_some' (o := .cells #[.int .i64 x.r.p, .int .i64 x.r.s, .int .i64 x.r.l, .int .i64 x.r.n, x.ev] 87) h3
  by_cases e1 : x.r.p = p
  · by_cases e2 : x.r.s = s
    · by_cases e3 : x.r.l = l
      · have n1 : (x.r.p == p) = true := beq_iff_eq.2 e1
        have n2 : (x.r.s == s) = true := beq_iff_eq.2 e2
        have n3 : (x.r.l == l) = true := beq_iff_eq.2 e3
        have HF : Hid (ruleFor p s l x.r = true) := by show _ = _; rw [H]; simp [e1, e2, e3]
        clear H e1 e2 e3
        go_enter Try.func101, Try.ntmps101
        go_wp2
        go_ret
        exact ⟨ret_bool HF.out.symm, (Below.refl _ _).alloc (Nat.le_refl _) _⟩
      · have n1 : (x.r.p == p) = true := beq_iff_eq.2 e1
        have n2 : (x.r.s == s) = true := beq_iff_eq.2 e2
        have n3 : (x.r.l == l) = false := beq_eq_false_iff_ne.2 e3
        have HF : Hid (ruleFor p s l x.r = false) := by show _ = _; rw [H]; simp [e3]
        clear H e1 e2 e3
        go_enter Try.func101, Try.ntmps101
        go_wp2
        go_ret
        exact ⟨ret_bool HF.out.symm, (Below.refl _ _).alloc (Nat.le_refl _) _⟩
    · have n1 : (x.r.p == p) = true := beq_iff_eq.2 e1
      have n2 : (x.r.s == s) = false := beq_eq_false_iff_ne.2 e2
      have HF : Hid (ruleFor p s l x.r = false) := by show _ = _; rw [H]; simp [e2]
      clear H e1 e2
      go_enter Try.func101, Try.ntmps101
      go_wp2
      go_ret
      exact ⟨ret_bool HF.out.symm, (Below.refl _ _).alloc (Nat.le_refl _) _⟩
  · have n1 : (x.r.p == p) = false := beq_eq_false_iff_ne.2 e1
    have HF : Hid (ruleFor p s l x.r = false) := by show _ = _; rw [H]; simp [e1]
    clear H e1
    go_enter Try.func101, Try.ntmps101
    go_wp2
    go_ret
    exact ⟨ret_bool HF.out.symm, (Below.refl _ _).alloc (Nat.le_refl _) _⟩

end Go.Proofs.Ytkobkilfbbalaaa

namespace Go.Proofs.Ytkobkilfbbalaaa
open Go.RowKit Go.Sort Go.Maps

theorem firstIx_at {α : Type} {p : α → Bool} : ∀ {l : List α} {i : Nat} {x : α}, l[i]? = some x → p x = true → (∀ (j : Nat) (y : α), j < i → l[j]? = some y → p y = false) → firstIx p l = (i : Int) := by
  intro l i x hx hp hb
  have : l.findIdx? p = some i := by
    rw [List.findIdx?_eq_some_iff_getElem]
    have hi := get_lt hx
    refine ⟨hi, ?_, fun j hj => ?_⟩
    · have := List.getElem?_eq_getElem hi
      rw [hx] at this
      simp only [Option.some.injEq] at this
      rw [← this]; exact hp
    · have hj' : j < l.length := by omega
      have := hb j _ hj (List.getElem?_eq_getElem hj')
      simp [this]
  simp [firstIx, this]

theorem firstIx_none {α : Type} {p : α → Bool} {l : List α} (h : ∀ (j : Nat) (y : α), l[j]? = some y → p y = false) : firstIx p l = -1 := by
  have : l.findIdx? p = none := by
    rw [List.findIdx?_eq_none_iff]
    intro x hx
    obtain ⟨j, hj⟩ := List.getElem?_of_mem hx
    simp [h j x hj]
  simp [firstIx, this]

set_option maxRecDepth 100000 in
set_option maxHeartbeats 4000000 in
theorem ixLink_any (w : World) (B : Nat) (v : Value) (l : List MLink) (p : MLink → Bool) (cap : Array Value) (h : LinksAt w B v l) (hn : l.length ≤ 5864062014634)
    (hp : ∀ x ∈ l, ∀ W, Gr w W → Calls Try.prog 74 (#[.agg #[.int .i64 x.f, .int .i64 x.t, .int .i64 x.a]] ++ cap) W fun e w' => e = .returned (.bool (p x)) ∧ Gr w w') :
    Calls Try.prog 73 #[v, .func (.func 74) #[] cap] w fun e w' => e = .returned (.int .i64 (firstIx p l)) ∧ Below w.heap.size w w' := by
  obtain ⟨ao, c, rfl, _⟩ := RowsAt.form h
  go_enter Try.func73, Try.ntmps73
  go_wp2
  go_loopw [8] (fun si wr => ∃ i : Nat, si = .int .i64 i ∧ i ≤ l.length ∧ (∀ (j : Nat) (y : MLink), j < i → l[j]? = some y → p y = false) ∧ Gr w wr) (fun si _ => l.length - (intOf si).toNat)
  case atStart => exact ⟨0, rfl, Nat.zero_le _, fun j y hj => by omega, Gr.refl _⟩
  case round =>
    obtain ⟨i, rfl, hi, hb, hg⟩ := hrel
    by_cases hlt : i < l.length
    · obtain ⟨x, hx⟩ := get_of_lt hlt
      obtain ⟨b, off, rfl, hbB, hc⟩ := RowsAt.at_ h hx
      have c0 := hg.cell (hc 0 (.int .i64 x.f) rfl)
      have c1 := hg.cell (hc 1 (.int .i64 x.t) rfl)
      have c2 := hg.cell (hc 2 (.int .i64 x.a) rfl)
      simp only [Nat.add_zero] at c0
      have hcall := hp x (List.mem_of_getElem? hx) wr hg
      have Hx : Hid (l[i]? = some x) := hx
      clear hc hx
      cases hv : p x with
      | false =>
        have Hv : Hid (p x = false) := hv
        rw [hv] at hcall
        clear hv
        go_wp2_with fail
        refine hcall.mono ?_
        rintro e w1 ⟨rfl, g1⟩
        go_wp2
        go_roundw
        case rel =>
          refine ⟨i + 1, by go_num, hlt, fun j y hj hy => ?_, g1⟩
          by_cases hji : j = i
          · subst hji; rw [Hx.out] at hy; cases hy; exact Hv.out
          · exact hb j y (by omega) hy
        case measure => simp [intOf]; omega
      | true =>
        have Hv : Hid (p x = true) := hv
        rw [hv] at hcall
        clear hv
        go_wp2_with fail
        refine hcall.mono ?_
        rintro e w1 ⟨rfl, g1⟩
        go_wp2
        go_ret
        exact ⟨ret_int (firstIx_at Hx.out Hv.out hb).symm, g1⟩
    · go_wp2
      go_ret
      exact ⟨ret_int (firstIx_none (fun j y hy => hb j y (by have := get_lt hy; omega) hy)).symm, hg⟩

set_option maxRecDepth 100000 in
set_option maxHeartbeats 4000000 in
theorem ixStart_any (w : World) (B : Nat) (v : Value) (l : List MStart) (p : MStart → Bool) (cap : Array Value) (h : StartsAt w B v l) (hn : l.length ≤ 5864062014634)
    (hp : ∀ x ∈ l, ∀ W, Gr w W → Calls Try.prog 78 (#[.agg #[.int .i64 x.p, .int .i64 x.t, .int .i64 x.l]] ++ cap) W fun e w' => e = .returned (.bool (p x)) ∧ Gr w w') :
    Calls Try.prog 77 #[v, .func (.func 78) #[] cap] w fun e w' => e = .returned (.int .i64 (firstIx p l)) ∧ Below w.heap.size w w' := by
  obtain ⟨ao, c, rfl, _⟩ := RowsAt.form h
  go_enter Try.func77, Try.ntmps77
  go_wp2
  go_loopw [8] (fun si wr => ∃ i : Nat, si = .int .i64 i ∧ i ≤ l.length ∧ (∀ (j : Nat) (y : MStart), j < i → l[j]? = some y → p y = false) ∧ Gr w wr) (fun si _ => l.length - (intOf si).toNat)
  case atStart => exact ⟨0, rfl, Nat.zero_le _, fun j y hj => by omega, Gr.refl _⟩
  case round =>
    obtain ⟨i, rfl, hi, hb, hg⟩ := hrel
    by_cases hlt : i < l.length
    · obtain ⟨x, hx⟩ := get_of_lt hlt
      obtain ⟨b, off, rfl, hbB, hc⟩ := RowsAt.at_ h hx
      have c0 := hg.cell (hc 0 (.int .i64 x.p) rfl)
      have c1 := hg.cell (hc 1 (.int .i64 x.t) rfl)
      have c2 := hg.cell (hc 2 (.int .i64 x.l) rfl)
      simp only [Nat.add_zero] at c0
      have hcall := hp x (List.mem_of_getElem? hx) wr hg
      have Hx : Hid (l[i]? = some x) := hx
      clear hc hx
      cases hv : p x with
      | false =>
        have Hv : Hid (p x = false) := hv
        rw [hv] at hcall
        clear hv
        go_wp2_with fail
        refine hcall.mono ?_
        rintro e w1 ⟨rfl, g1⟩
        go_wp2
        go_roundw
        case rel =>
          refine ⟨i + 1, by go_num, hlt, fun j y hj hy => ?_, g1⟩
          by_cases hji : j = i
          · subst hji; rw [Hx.out] at hy; cases hy; exact Hv.out
          · exact hb j y (by omega) hy
        case measure => simp [intOf]; omega
      | true =>
        have Hv : Hid (p x = true) := hv
        rw [hv] at hcall
        clear hv
        go_wp2_with fail
        refine hcall.mono ?_
        rintro e w1 ⟨rfl, g1⟩
        go_wp2
        go_ret
        exact ⟨ret_int (firstIx_at Hx.out Hv.out hb).symm, g1⟩
    · go_wp2
      go_ret
      exact ⟨ret_int (firstIx_none (fun j y hy => hb j y (by have := get_lt hy; omega) hy)).symm, hg⟩

set_option maxRecDepth 100000 in
set_option maxHeartbeats 4000000 in
theorem ixEmit_any (w : World) (B : Nat) (v : Value) (l : List MEmit) (p : MEmit → Bool) (cap : Array Value) (h : EmitsAt w B v l) (hn : l.length ≤ 5864062014634)
    (hp : ∀ x ∈ l, ∀ W, Gr w W → Calls Try.prog 98 (#[.agg #[.int .i64 x.k, .int .i64 x.d, .int .i64 x.l]] ++ cap) W fun e w' => e = .returned (.bool (p x)) ∧ Gr w w') :
    Calls Try.prog 106 #[v, .func (.func 98) #[] cap] w fun e w' => e = .returned (.int .i64 (firstIx p l)) ∧ Below w.heap.size w w' := by
  obtain ⟨ao, c, rfl, _⟩ := RowsAt.form h
  go_enter Try.func106, Try.ntmps106
  go_wp2
  go_loopw [8] (fun si wr => ∃ i : Nat, si = .int .i64 i ∧ i ≤ l.length ∧ (∀ (j : Nat) (y : MEmit), j < i → l[j]? = some y → p y = false) ∧ Gr w wr) (fun si _ => l.length - (intOf si).toNat)
  case atStart => exact ⟨0, rfl, Nat.zero_le _, fun j y hj => by omega, Gr.refl _⟩
  case round =>
    obtain ⟨i, rfl, hi, hb, hg⟩ := hrel
    by_cases hlt : i < l.length
    · obtain ⟨x, hx⟩ := get_of_lt hlt
      obtain ⟨b, off, rfl, hbB, hc⟩ := RowsAt.at_ h hx
      have c0 := hg.cell (hc 0 (.int .i64 x.k) rfl)
      have c1 := hg.cell (hc 1 (.int .i64 x.d) rfl)
      have c2 := hg.cell (hc 2 (.int .i64 x.l) rfl)
      simp only [Nat.add_zero] at c0
      have hcall := hp x (List.mem_of_getElem? hx) wr hg
      have Hx : Hid (l[i]? = some x) := hx
      clear hc hx
      cases hv : p x with
      | false =>
        have Hv : Hid (p x = false) := hv
        rw [hv] at hcall
        clear hv
        go_wp2_with fail
        refine hcall.mono ?_
        rintro e w1 ⟨rfl, g1⟩
        go_wp2
        go_roundw
        case rel =>
          refine ⟨i + 1, by go_num, hlt, fun j y hj hy => ?_, g1⟩
          by_cases hji : j = i
          · subst hji; rw [Hx.out] at hy; cases hy; exact Hv.out
          · exact hb j y (by omega) hy
        case measure => simp [intOf]; omega
      | true =>
        have Hv : Hid (p x = true) := hv
        rw [hv] at hcall
        clear hv
        go_wp2_with fail
        refine hcall.mono ?_
        rintro e w1 ⟨rfl, g1⟩
        go_wp2
        go_ret
        exact ⟨ret_int (firstIx_at Hx.out Hv.out hb).symm, g1⟩
    · go_wp2
      go_ret
      exact ⟨ret_int (firstIx_none (fun j y hy => hb j y (by have := get_lt hy; omega) hy)).symm, hg⟩

set_option maxRecDepth 100000 in
set_option maxHeartbeats 4000000 in
theorem ixRule_any (w : World) (B : Nat) (v : Value) (l : List RuleV) (p : RuleV → Bool) (cap : Array Value) (h : RowsAt 5 ruleC w B v l) (hn : l.length ≤ 5864062014634)
    (hp : ∀ x ∈ l, ∀ W, Gr w W → Calls Try.prog 101 (#[.agg #[.int .i64 x.r.p, .int .i64 x.r.s, .int .i64 x.r.l, .int .i64 x.r.n, x.ev]] ++ cap) W fun e w' => e = .returned (.bool (p x)) ∧ Gr w w') :
    Calls Try.prog 100 #[v, .func (.func 101) #[] cap] w fun e w' => e = .returned (.int .i64 (firstIx p l)) ∧ Below w.heap.size w w' := by
  obtain ⟨ao, c, rfl, _⟩ := RowsAt.form h
  go_enter Try.func100, Try.ntmps100
  go_wp2
  go_loopw [8] (fun si wr => ∃ i : Nat, si = .int .i64 i ∧ i ≤ l.length ∧ (∀ (j : Nat) (y : RuleV), j < i → l[j]? = some y → p y = false) ∧ Gr w wr) (fun si _ => l.length - (intOf si).toNat)
  case atStart => exact ⟨0, rfl, Nat.zero_le _, fun j y hj => by omega, Gr.refl _⟩
  case round =>
    obtain ⟨i, rfl, hi, hb, hg⟩ := hrel
    by_cases hlt : i < l.length
    · obtain ⟨x, hx⟩ := get_of_lt hlt
      obtain ⟨b, off, rfl, hbB, hc⟩ := RowsAt.at_ h hx
      have c0 := hg.cell (hc 0 (.int .i64 x.r.p) rfl)
      have c1 := hg.cell (hc 1 (.int .i64 x.r.s) rfl)
      have c2 := hg.cell (hc 2 (.int .i64 x.r.l) rfl)
      have c3 := hg.cell (hc 3 (.int .i64 x.r.n) rfl)
      have c4 := hg.cell (hc 4 (x.ev) rfl)
      simp only [Nat.add_zero] at c0
      have hcall := hp x (List.mem_of_getElem? hx) wr hg
      have Hx : Hid (l[i]? = some x) := hx
      clear hc hx
      cases hv : p x with
      | false =>
        have Hv : Hid (p x = false) := hv
        rw [hv] at hcall
        clear hv
        go_wp2_with fail
        refine hcall.mono ?_
        rintro e w1 ⟨rfl, g1⟩
        go_wp2
        go_roundw
        case rel =>
          refine ⟨i + 1, by go_num, hlt, fun j y hj hy => ?_, g1⟩
          by_cases hji : j = i
          · subst hji; rw [Hx.out] at hy; cases hy; exact Hv.out
          · exact hb j y (by omega) hy
        case measure => simp [intOf]; omega
      | true =>
        have Hv : Hid (p x = true) := hv
        rw [hv] at hcall
        clear hv
        go_wp2_with fail
        refine hcall.mono ?_
        rintro e w1 ⟨rfl, g1⟩
        go_wp2
        go_ret
        exact ⟨ret_int (firstIx_at Hx.out Hv.out hb).symm, g1⟩
    · go_wp2
      go_ret
      exact ⟨ret_int (firstIx_none (fun j y hy => hb j y (by have := get_lt hy; omega) hy)).symm, hg⟩

end Go.Proofs.Ytkobkilfbbalaaa

namespace Go.Proofs.Ytkobkilfbbalaaa
open Go.RowKit Go.Sort Go.Maps

set_option maxRecDepth 100000 in
set_option maxHeartbeats 1000000 in
theorem fwLink_any (m : Mdl) (hm : Lim m) (lv rv sv : Value) (R : List RuleV) (B : Nat) (w : World) (h : ModelAt w B lv rv sv m R) (hB : B ≤ w.heap.size) :
    Calls Try.prog 47 #[.agg #[.int .i64 m.procs, .int .i64 m.states, .int .i64 m.loads, lv, rv, sv]] w fun e w' => e = .returned (.int .i64 (firstIx (linkBad m) m.links)) ∧ Below w.heap.size w w' := by
  have hmb : Blk (w.alloc (.cells #[.int .i64 m.procs, .int .i64 m.states, .int .i64 m.loads, lv, rv, sv] 31)) w.heap.size #[.int .i64 m.procs, .int .i64 m.states, .int .i64 m.loads, lv, rv, sv] 31 := heap_alloc_new w _
  have hB0 : Below w.heap.size w (w.alloc (.cells #[.int .i64 m.procs, .int .i64 m.states, .int .i64 m.loads, lv, rv, sv] 31)) := (Below.refl _ _).alloc (Nat.le_refl _) _
  have hix := ixLink_any (w.alloc (.cells #[.int .i64 m.procs, .int .i64 m.states, .int .i64 m.loads, lv, rv, sv] 31)) B _ m.links (linkBad m) #[.pointer (some ⟨w.heap.size, 0, none⟩)] (RowsAt.keep h.links (hB0.mono hB)) (by have := hm.nl; omega) (fun x _ W hW => (linkFn_any m hm lv rv sv w.heap.size x W (hmb.keep hW.kept (fun e => e))).mono fun e w' ⟨he, hb⟩ => ⟨he, hW.trans hb⟩)
  clear h hmb
  go_enter Try.func47, Try.ntmps47
  go_wp2_with fail
  refine hix.mono ?_
  rintro e w1 ⟨rfl, g1⟩
  go_wp2
  go_ret
  exact ⟨rfl, Gr.below g1 hB0⟩

set_option maxRecDepth 100000 in
set_option maxHeartbeats 1000000 in
theorem fwStart_any (m : Mdl) (hm : Lim m) (lv rv sv : Value) (R : List RuleV) (B : Nat) (w : World) (h : ModelAt w B lv rv sv m R) (hB : B ≤ w.heap.size) :
    Calls Try.prog 49 #[.agg #[.int .i64 m.procs, .int .i64 m.states, .int .i64 m.loads, lv, rv, sv]] w fun e w' => e = .returned (.int .i64 (firstIx (startBad m) m.starts)) ∧ Below w.heap.size w w' := by
  have hmb : Blk (w.alloc (.cells #[.int .i64 m.procs, .int .i64 m.states, .int .i64 m.loads, lv, rv, sv] 31)) w.heap.size #[.int .i64 m.procs, .int .i64 m.states, .int .i64 m.loads, lv, rv, sv] 31 := heap_alloc_new w _
  have hB0 : Below w.heap.size w (w.alloc (.cells #[.int .i64 m.procs, .int .i64 m.states, .int .i64 m.loads, lv, rv, sv] 31)) := (Below.refl _ _).alloc (Nat.le_refl _) _
  have hix := ixStart_any (w.alloc (.cells #[.int .i64 m.procs, .int .i64 m.states, .int .i64 m.loads, lv, rv, sv] 31)) B _ m.starts (startBad m) #[.pointer (some ⟨w.heap.size, 0, none⟩)] (RowsAt.keep h.starts (hB0.mono hB)) (by have := hm.ns; omega) (fun x _ W hW => (startFn_any m hm lv rv sv w.heap.size x W (hmb.keep hW.kept (fun e => e))).mono fun e w' ⟨he, hb⟩ => ⟨he, hW.trans hb⟩)
  clear h hmb
  go_enter Try.func49, Try.ntmps49
  go_wp2_with fail
  refine hix.mono ?_
  rintro e w1 ⟨rfl, g1⟩
  go_wp2
  go_ret
  exact ⟨rfl, Gr.below g1 hB0⟩

set_option maxRecDepth 100000 in
set_option maxHeartbeats 1000000 in
theorem findRule_any (p s l : Int) (v : Value) (R : List RuleV) (B : Nat) (w : World) (h : RowsAt 5 ruleC w B v R) (hB : B ≤ w.heap.size) (hn : R.length ≤ 40) :
    Calls Try.prog 76 #[v, .int .i64 p, .int .i64 s, .int .i64 l] w fun e w' => e = .returned (.int .i64 (firstIx (fun x => ruleFor p s l x.r) R)) ∧ Below w.heap.size w w' := by
  have hB0 : Below w.heap.size w (((w.alloc (.cells #[.int .i64 p] 3)).alloc (.cells #[.int .i64 s] 3)).alloc (.cells #[.int .i64 l] 3)) := (((Below.refl _ _).alloc (Nat.le_refl _) _).alloc (by simp) _).alloc (by simp; omega) _
  have b1 : (((w.alloc (.cells #[.int .i64 p] 3)).alloc (.cells #[.int .i64 s] 3)).alloc (.cells #[.int .i64 l] 3)).cell? ⟨w.heap.size, 0, none⟩ = some (.int .i64 p) := by go_simp
  have b2 : (((w.alloc (.cells #[.int .i64 p] 3)).alloc (.cells #[.int .i64 s] 3)).alloc (.cells #[.int .i64 l] 3)).cell? ⟨w.heap.size + 1, 0, none⟩ = some (.int .i64 s) := by go_simp
  have b3 : (((w.alloc (.cells #[.int .i64 p] 3)).alloc (.cells #[.int .i64 s] 3)).alloc (.cells #[.int .i64 l] 3)).cell? ⟨w.heap.size + 1 + 1, 0, none⟩ = some (.int .i64 l) := by go_simp
  have hix := ixRule_any (((w.alloc (.cells #[.int .i64 p] 3)).alloc (.cells #[.int .i64 s] 3)).alloc (.cells #[.int .i64 l] 3)) B v R (fun x => ruleFor p s l x.r) #[.pointer (some ⟨w.heap.size, 0, none⟩), .pointer (some ⟨w.heap.size + 1, 0, none⟩), .pointer (some ⟨w.heap.size + 1 + 1, 0, none⟩)] (h.keep (hB0.mono hB)) (by omega)
    (fun x _ W hW => (findFn_any w.heap.size (w.heap.size + 1) (w.heap.size + 1 + 1) p s l x W (hW.cell b1) (hW.cell b2) (hW.cell b3)).mono fun e w' ⟨he, hb⟩ => ⟨he, hW.trans hb⟩)
  clear h b1 b2 b3
  go_enter Try.func76, Try.ntmps76
  go_wp2_with fail
  refine hix.mono ?_
  rintro e w1 ⟨rfl, g1⟩
  go_wp2
  go_ret
  exact ⟨rfl, Gr.below g1 hB0⟩

end Go.Proofs.Ytkobkilfbbalaaa

namespace Go.Proofs.Ytkobkilfbbalaaa
open Go.RowKit Go.Sort Go.Maps

theorem withinB_iff {x a b : Int} : withinB x a b = true ↔ a ≤ x ∧ x ≤ b := by simp [withinB]

theorem emitOk_no {m : Mdl} {p : Int} {e : MEmit} (h : withinB e.k 0 ((m.links.length : Int) - 1) = false) : emitOk m p e = false := by
  unfold emitOk; rw [h]; rfl
theorem emitOk_at {m : Mdl} {p : Int} {e : MEmit} {y : MLink} (h : withinB e.k 0 ((m.links.length : Int) - 1) = true) (hy : m.links[e.k.toNat]? = some y) : emitOk m p e = (decide (y.f = p) && withinB e.d y.a 60 && isL m e.l) := by
  unfold emitOk; rw [if_pos h, hy]

set_option maxRecDepth 100000 in
set_option maxHeartbeats 4000000 in
theorem rightEmit_any (m : Mdl) (hm : Lim m) (lv rv sv : Value) (R : List RuleV) (B : Nat) (p : Int) (x : MEmit) (w : World) (h : ModelAt w B lv rv sv m R) :
    Calls Try.prog 99 #[.agg #[.int .i64 m.procs, .int .i64 m.states, .int .i64 m.loads, lv, rv, sv], .int .i64 p, .agg #[.int .i64 x.k, .int .i64 x.d, .int .i64 x.l]] w fun e w' => e = .returned (.bool (emitOk m p x)) ∧ Below w.heap.size w w' := by
  obtain ⟨ao, cap, hlv, hcap⟩ := RowsAt.form h.links
  have hnl := hm.nl
  cases hk : withinB x.k 0 ((m.links.length : Int) - 1) with
  | false =>
    have H := emitOk_no (p := p) hk
    have hform : ∃ ao cap, lv = .slice ao m.links.length cap := ⟨ao, cap, hlv⟩
    have hB0 : Below w.heap.size w ((w.alloc (.cells #[.int .i64 m.procs, .int .i64 m.states, .int .i64 m.loads, lv, rv, sv] 31)).alloc (.cells #[.int .i64 x.k, .int .i64 x.d, .int .i64 x.l] 85)) := ((Below.refl _ _).alloc (Nat.le_refl _) _).alloc (by simp) _
    have hmb : Blk ((w.alloc (.cells #[.int .i64 m.procs, .int .i64 m.states, .int .i64 m.loads, lv, rv, sv] 31)).alloc (.cells #[.int .i64 x.k, .int .i64 x.d, .int .i64 x.l] 85)) w.heap.size #[.int .i64 m.procs, .int .i64 m.states, .int .i64 m.loads, lv, rv, sv] 31 := (Blk.alloc (heap_alloc_new w (.cells #[.int .i64 m.procs, .int .i64 m.states, .int .i64 m.loads, lv, rv, sv] 31) : Blk _ _ _ _) _)
    have hxb : Blk ((w.alloc (.cells #[.int .i64 m.procs, .int .i64 m.states, .int .i64 m.loads, lv, rv, sv] 31)).alloc (.cells #[.int .i64 x.k, .int .i64 x.d, .int .i64 x.l] 85)) (w.heap.size + 1) #[.int .i64 x.k, .int .i64 x.d, .int .i64 x.l] 85 := by
      have := heap_alloc_new (w.alloc (.cells #[.int .i64 m.procs, .int .i64 m.states, .int .i64 m.loads, lv, rv, sv] 31)) (.cells #[.int .i64 x.k, .int .i64 x.d, .int .i64 x.l] 85)
      rw [World.size_alloc] at this
      exact this
    have R0 := Gr.refl ((w.alloc (.cells #[.int .i64 m.procs, .int .i64 m.states, .int .i64 m.loads, lv, rv, sv] 31)).alloc (.cells #[.int .i64 x.k, .int .i64 x.d, .int .i64 x.l] 85))
    have k0 := Gr.cells (v := .int .i64 m.procs) (hmb.cell 0)
    have k1 := Gr.cells (v := .int .i64 m.states) (hmb.cell 1)
    have k2 := Gr.cells (v := .int .i64 m.loads) (hmb.cell 2)
    have k3 := Gr.cells (v := lv) (hmb.cell 3)
    have k4 := Gr.cells (v := rv) (hmb.cell 4)
    have k5 := Gr.cells (v := sv) (hmb.cell 5)
    have x0 := Gr.cells (v := .int .i64 x.k) (hxb.cell 0)
    have x1 := Gr.cells (v := .int .i64 x.d) (hxb.cell 1)
    have x2 := Gr.cells (v := .int .i64 x.l) (hxb.cell 2)
    have P1 := Gr.calls ((w.alloc (.cells #[.int .i64 m.procs, .int .i64 m.states, .int .i64 m.loads, lv, rv, sv] 31)).alloc (.cells #[.int .i64 x.k, .int .i64 x.d, .int .i64 x.l] 85)) (isLink_any m hm lv rv sv hform x.k)
    have P2 := Gr.calls ((w.alloc (.cells #[.int .i64 m.procs, .int .i64 m.states, .int .i64 m.loads, lv, rv, sv] 31)).alloc (.cells #[.int .i64 x.k, .int .i64 x.d, .int .i64 x.l] 85)) (isLoad_any m hm lv rv sv x.l)
    clear hmb hxb
    rw [hk] at P1
    clear hlv
    go_enter Try.func99, Try.ntmps99
    go_wp2_with fail
    refine (P1 _ R0).mono ?_
    rintro e w1 ⟨rfl, g1⟩
    go_wp2
    go_ret
    first | exact ⟨ret_bool H.symm, Gr.below g1 hB0⟩ | exact ⟨rfl, Gr.below g1 hB0⟩
  | true =>
    obtain ⟨hk0, hk1⟩ := withinB_iff.1 hk
    obtain ⟨y, hy⟩ := get_of_lt (d := m.links) (k := x.k.toNat) (by omega)
    have H := emitOk_at (p := p) hk hy
    subst hlv
    obtain ⟨b, off, hao, hbB, hc⟩ := RowsAt.at_ h.links hy
    subst hao
    have hform : ∃ ao cap', Value.slice (some ⟨b, off, none⟩) m.links.length cap = .slice ao m.links.length cap' := ⟨_, _, rfl⟩
    have hB0 : Below w.heap.size w ((w.alloc (.cells #[.int .i64 m.procs, .int .i64 m.states, .int .i64 m.loads, (.slice (some ⟨b, off, none⟩) m.links.length cap), rv, sv] 31)).alloc (.cells #[.int .i64 x.k, .int .i64 x.d, .int .i64 x.l] 85)) := ((Below.refl _ _).alloc (Nat.le_refl _) _).alloc (by simp) _
    have hmb : Blk ((w.alloc (.cells #[.int .i64 m.procs, .int .i64 m.states, .int .i64 m.loads, (.slice (some ⟨b, off, none⟩) m.links.length cap), rv, sv] 31)).alloc (.cells #[.int .i64 x.k, .int .i64 x.d, .int .i64 x.l] 85)) w.heap.size #[.int .i64 m.procs, .int .i64 m.states, .int .i64 m.loads, (.slice (some ⟨b, off, none⟩) m.links.length cap), rv, sv] 31 := (Blk.alloc (heap_alloc_new w (.cells #[.int .i64 m.procs, .int .i64 m.states, .int .i64 m.loads, (.slice (some ⟨b, off, none⟩) m.links.length cap), rv, sv] 31) : Blk _ _ _ _) _)
    have hxb : Blk ((w.alloc (.cells #[.int .i64 m.procs, .int .i64 m.states, .int .i64 m.loads, (.slice (some ⟨b, off, none⟩) m.links.length cap), rv, sv] 31)).alloc (.cells #[.int .i64 x.k, .int .i64 x.d, .int .i64 x.l] 85)) (w.heap.size + 1) #[.int .i64 x.k, .int .i64 x.d, .int .i64 x.l] 85 := by
      have := heap_alloc_new (w.alloc (.cells #[.int .i64 m.procs, .int .i64 m.states, .int .i64 m.loads, (.slice (some ⟨b, off, none⟩) m.links.length cap), rv, sv] 31)) (.cells #[.int .i64 x.k, .int .i64 x.d, .int .i64 x.l] 85)
      rw [World.size_alloc] at this
      exact this
    have R0 := Gr.refl ((w.alloc (.cells #[.int .i64 m.procs, .int .i64 m.states, .int .i64 m.loads, (.slice (some ⟨b, off, none⟩) m.links.length cap), rv, sv] 31)).alloc (.cells #[.int .i64 x.k, .int .i64 x.d, .int .i64 x.l] 85))
    have k0 := Gr.cells (v := .int .i64 m.procs) (hmb.cell 0)
    have k1 := Gr.cells (v := .int .i64 m.states) (hmb.cell 1)
    have k2 := Gr.cells (v := .int .i64 m.loads) (hmb.cell 2)
    have k3 := Gr.cells (v := (.slice (some ⟨b, off, none⟩) m.links.length cap)) (hmb.cell 3)
    have k4 := Gr.cells (v := rv) (hmb.cell 4)
    have k5 := Gr.cells (v := sv) (hmb.cell 5)
    have x0 := Gr.cells (v := .int .i64 x.k) (hxb.cell 0)
    have x1 := Gr.cells (v := .int .i64 x.d) (hxb.cell 1)
    have x2 := Gr.cells (v := .int .i64 x.l) (hxb.cell 2)
    have P1 := Gr.calls ((w.alloc (.cells #[.int .i64 m.procs, .int .i64 m.states, .int .i64 m.loads, (.slice (some ⟨b, off, none⟩) m.links.length cap), rv, sv] 31)).alloc (.cells #[.int .i64 x.k, .int .i64 x.d, .int .i64 x.l] 85)) (isLink_any m hm (.slice (some ⟨b, off, none⟩) m.links.length cap) rv sv hform x.k)
    have P2 := Gr.calls ((w.alloc (.cells #[.int .i64 m.procs, .int .i64 m.states, .int .i64 m.loads, (.slice (some ⟨b, off, none⟩) m.links.length cap), rv, sv] 31)).alloc (.cells #[.int .i64 x.k, .int .i64 x.d, .int .i64 x.l] 85)) (isLoad_any m hm (.slice (some ⟨b, off, none⟩) m.links.length cap) rv sv x.l)
    clear hmb hxb
    rw [hk] at P1
    have L0 := Gr.cells (Gr.cell (W := (w.alloc (.cells #[.int .i64 m.procs, .int .i64 m.states, .int .i64 m.loads, (.slice (some ⟨b, off, none⟩) m.links.length cap), rv, sv] 31)).alloc (.cells #[.int .i64 x.k, .int .i64 x.d, .int .i64 x.l] 85)) hB0 (hc 0 (.int .i64 y.f) rfl))
    have L1 := Gr.cells (Gr.cell (W := (w.alloc (.cells #[.int .i64 m.procs, .int .i64 m.states, .int .i64 m.loads, (.slice (some ⟨b, off, none⟩) m.links.length cap), rv, sv] 31)).alloc (.cells #[.int .i64 x.k, .int .i64 x.d, .int .i64 x.l] 85)) hB0 (hc 1 (.int .i64 y.t) rfl))
    have L2 := Gr.cells (Gr.cell (W := (w.alloc (.cells #[.int .i64 m.procs, .int .i64 m.states, .int .i64 m.loads, (.slice (some ⟨b, off, none⟩) m.links.length cap), rv, sv] 31)).alloc (.cells #[.int .i64 x.k, .int .i64 x.d, .int .i64 x.l] 85)) hB0 (hc 2 (.int .i64 y.a) rfl))
    simp only [Nat.add_zero] at L0
    have hki : x.k < (m.links.length : Int) := by omega
    clear hy hk h hc
    by_cases e1 : y.f = p
    · have n1 : (y.f == p) = true := beq_iff_eq.2 e1
      have d1 : decide (y.f = p) = true := decide_eq_true e1
      rw [d1] at H
      clear e1 d1
      cases e2 : withinB x.d y.a 60
      case' true => cases e3 : isL m x.l
      all_goals
        simp only [*, Bool.and_true, Bool.and_false, Bool.false_and] at H
        go_enter Try.func99, Try.ntmps99
        go_wp2_with fail
        refine (P1 _ R0).mono ?_
        rintro e w1 ⟨rfl, g1⟩
        have hs1 := Below.size g1
        have g1a := g1.alloc (.cells #[.int .i64 y.f, .int .i64 y.t, .int .i64 y.a] 78)
        go_wp2_with (first | (go_at_call 79; refine (P2 _ (by assumption)).mono ?_; rintro e w2 ⟨rfl, g2⟩) | (go_at_call 50; refine (within_any _ _ _ _).mono ?_; rintro e w3 ⟨rfl, rfl⟩))
        go_ret
        exact ⟨ret_bool H.symm, Gr.below (by assumption) hB0⟩
    · have n1 : (y.f == p) = false := beq_eq_false_iff_ne.2 e1
      have d1 : decide (y.f = p) = false := decide_eq_false e1
      rw [d1, Bool.false_and, Bool.false_and] at H
      clear e1 d1
      go_enter Try.func99, Try.ntmps99
      go_wp2_with fail
      refine (P1 _ R0).mono ?_
      rintro e w1 ⟨rfl, g1⟩
      have hs1 := Below.size g1
      have g1a := g1.alloc (.cells #[.int .i64 y.f, .int .i64 y.t, .int .i64 y.a] 78)
      go_wp2
      go_ret
      exact ⟨ret_bool H.symm, Gr.below (by assumption) hB0⟩

set_option maxRecDepth 100000 in
set_option maxHeartbeats 1000000 in
theorem emitFn_any (m : Mdl) (hm : Lim m) (lv rv sv : Value) (R : List RuleV) (B mb rb : Nat) (r : MRule) (ev : Value) (x : MEmit) (w : World) (h : ModelAt w B lv rv sv m R) (hB : B ≤ w.heap.size) (hb : Blk w mb #[.int .i64 m.procs, .int .i64 m.states, .int .i64 m.loads, lv, rv, sv] 31) (hr : Blk w rb #[.int .i64 r.p, .int .i64 r.s, .int .i64 r.l, .int .i64 r.n, ev] 87) :
    Calls Try.prog 98 #[.agg #[.int .i64 x.k, .int .i64 x.d, .int .i64 x.l], .pointer (some ⟨mb, 0, none⟩), .pointer (some ⟨rb, 0, none⟩)] w fun e w' => e = .returned (.bool (!emitOk m r.p x)) ∧ Below w.heap.size w w' := by
  have c0 := hb.cell 0
  have c1 := hb.cell 1
  have c2 := hb.cell 2
  have c3 := hb.cell 3
  have c4 := hb.cell 4
  have c5 := hb.cell 5
  simp only [List.getElem?_toArray, List.getElem?_cons_zero, List.getElem?_cons_succ] at c0 c1 c2 c3 c4 c5
  have r0 := hr.cell 0
  simp only [List.getElem?_toArray, List.getElem?_cons_zero] at r0
  have hl1 := hb.lt
  have hl2 := hr.lt
  have hB0 : Below w.heap.size w (w.alloc (.cells #[.int .i64 x.k, .int .i64 x.d, .int .i64 x.l] 85)) := (Below.refl _ _).alloc (Nat.le_refl _) _
  have P1 := rightEmit_any m hm lv rv sv R B r.p x (w.alloc (.cells #[.int .i64 x.k, .int .i64 x.d, .int .i64 x.l] 85)) (h.keep (hB0.mono hB))
  clear h hb hr
  go_enter Try.func98, Try.ntmps98
  go_wp2_with fail
  refine P1.mono ?_
  rintro e w1 ⟨rfl, g1⟩
  go_wp2
  go_ret
  exact ⟨rfl, Gr.below g1 hB0⟩

set_option maxRecDepth 100000 in
set_option maxHeartbeats 1000000 in
theorem contains_any (w : World) (B : Nat) (v : Value) (l : List MEmit) (p : MEmit → Bool) (cap : Array Value) (h : EmitsAt w B v l) (hn : l.length ≤ 5864062014634)
    (hp : ∀ x ∈ l, ∀ W, Gr w W → Calls Try.prog 98 (#[.agg #[.int .i64 x.k, .int .i64 x.d, .int .i64 x.l]] ++ cap) W fun e w' => e = .returned (.bool (p x)) ∧ Gr w w') :
    Calls Try.prog 97 #[v, .func (.func 98) #[] cap] w fun e w' => e = .returned (.bool (decide (0 ≤ firstIx p l))) ∧ Below w.heap.size w w' := by
  have hix := ixEmit_any w B v l p cap h hn hp
  clear h hp
  go_enter Try.func97, Try.ntmps97
  go_wp2_with fail
  refine hix.mono ?_
  rintro e w1 ⟨rfl, g1⟩
  go_wp2
  go_ret
  exact ⟨rfl, g1⟩

theorem firstIx_all {p : MEmit → Bool} {l : List MEmit} : (!decide (0 ≤ firstIx (fun x => !p x) l)) = l.all p := by
  by_cases h : ∀ x ∈ l, p x = true
  · rw [firstIx_none (fun j y hy => by simp [h y (List.mem_of_getElem? hy)])]
    have : l.all p = true := List.all_eq_true.2 h
    rw [this]; rfl
  · have h2 : l.all p = false := by
      rw [← Bool.not_eq_true, List.all_eq_true]; exact h
    rw [h2]
    unfold firstIx
    split
    · simp
    · rename_i hn
      rw [List.findIdx?_eq_none_iff] at hn
      exact absurd (fun x hx => by simpa using hn x hx) h

set_option maxRecDepth 100000 in
set_option maxHeartbeats 8000000 in
theorem rightRule_any (m : Mdl) (hm : Lim m) (lv rv sv : Value) (R : List RuleV) (B : Nat) (r : MRule) (ev : Value) (w : World) (h : ModelAt w B lv rv sv m R) (hE : EmitsAt w B ev r.es) (hB : B ≤ w.heap.size) (hne : r.es.length ≤ 5864062014634) :
    Calls Try.prog 75 #[.agg #[.int .i64 m.procs, .int .i64 m.states, .int .i64 m.loads, lv, rv, sv], .agg #[.int .i64 r.p, .int .i64 r.s, .int .i64 r.l, .int .i64 r.n, ev]] w fun e w' => e = .returned (.bool (ruleOk m r)) ∧ Below w.heap.size w w' := by
  obtain ⟨ao, cap, rfl, hcap⟩ := RowsAt.form hE
  have hB0 : Below w.heap.size w ((w.alloc (.cells #[.int .i64 m.procs, .int .i64 m.states, .int .i64 m.loads, lv, rv, sv] 31)).alloc (.cells #[.int .i64 r.p, .int .i64 r.s, .int .i64 r.l, .int .i64 r.n, (.slice ao r.es.length cap)] 87)) := ((Below.refl _ _).alloc (Nat.le_refl _) _).alloc (by simp) _
  have hmb : Blk ((w.alloc (.cells #[.int .i64 m.procs, .int .i64 m.states, .int .i64 m.loads, lv, rv, sv] 31)).alloc (.cells #[.int .i64 r.p, .int .i64 r.s, .int .i64 r.l, .int .i64 r.n, (.slice ao r.es.length cap)] 87)) w.heap.size #[.int .i64 m.procs, .int .i64 m.states, .int .i64 m.loads, lv, rv, sv] 31 := (Blk.alloc (heap_alloc_new w (.cells #[.int .i64 m.procs, .int .i64 m.states, .int .i64 m.loads, lv, rv, sv] 31) : Blk _ _ _ _) _)
  have hrb : Blk ((w.alloc (.cells #[.int .i64 m.procs, .int .i64 m.states, .int .i64 m.loads, lv, rv, sv] 31)).alloc (.cells #[.int .i64 r.p, .int .i64 r.s, .int .i64 r.l, .int .i64 r.n, (.slice ao r.es.length cap)] 87)) (w.heap.size + 1) #[.int .i64 r.p, .int .i64 r.s, .int .i64 r.l, .int .i64 r.n, (.slice ao r.es.length cap)] 87 := by
    have := heap_alloc_new (w.alloc (.cells #[.int .i64 m.procs, .int .i64 m.states, .int .i64 m.loads, lv, rv, sv] 31)) (.cells #[.int .i64 r.p, .int .i64 r.s, .int .i64 r.l, .int .i64 r.n, (.slice ao r.es.length cap)] 87)
    rw [World.size_alloc] at this
    exact this
  have R0 := Gr.refl ((w.alloc (.cells #[.int .i64 m.procs, .int .i64 m.states, .int .i64 m.loads, lv, rv, sv] 31)).alloc (.cells #[.int .i64 r.p, .int .i64 r.s, .int .i64 r.l, .int .i64 r.n, (.slice ao r.es.length cap)] 87))
  have k0 := Gr.cells (v := .int .i64 m.procs) (hmb.cell 0)
  have k1 := Gr.cells (v := .int .i64 m.states) (hmb.cell 1)
  have k2 := Gr.cells (v := .int .i64 m.loads) (hmb.cell 2)
  have k3 := Gr.cells (v := lv) (hmb.cell 3)
  have k4 := Gr.cells (v := rv) (hmb.cell 4)
  have k5 := Gr.cells (v := sv) (hmb.cell 5)
  have x0 := Gr.cells (v := .int .i64 r.p) (hrb.cell 0)
  have x1 := Gr.cells (v := .int .i64 r.s) (hrb.cell 1)
  have x2 := Gr.cells (v := .int .i64 r.l) (hrb.cell 2)
  have x3 := Gr.cells (v := .int .i64 r.n) (hrb.cell 3)
  have x4 := Gr.cells (v := .slice ao r.es.length cap) (hrb.cell 4)
  have P1 := Gr.calls ((w.alloc (.cells #[.int .i64 m.procs, .int .i64 m.states, .int .i64 m.loads, lv, rv, sv] 31)).alloc (.cells #[.int .i64 r.p, .int .i64 r.s, .int .i64 r.l, .int .i64 r.n, (.slice ao r.es.length cap)] 87)) (isProc_any m hm lv rv sv r.p)
  have P2 := Gr.calls ((w.alloc (.cells #[.int .i64 m.procs, .int .i64 m.states, .int .i64 m.loads, lv, rv, sv] 31)).alloc (.cells #[.int .i64 r.p, .int .i64 r.s, .int .i64 r.l, .int .i64 r.n, (.slice ao r.es.length cap)] 87)) (isState_any m hm lv rv sv r.s)
  have P3 := Gr.calls ((w.alloc (.cells #[.int .i64 m.procs, .int .i64 m.states, .int .i64 m.loads, lv, rv, sv] 31)).alloc (.cells #[.int .i64 r.p, .int .i64 r.s, .int .i64 r.l, .int .i64 r.n, (.slice ao r.es.length cap)] 87)) (isLoad_any m hm lv rv sv r.l)
  have P4 := Gr.calls ((w.alloc (.cells #[.int .i64 m.procs, .int .i64 m.states, .int .i64 m.loads, lv, rv, sv] 31)).alloc (.cells #[.int .i64 r.p, .int .i64 r.s, .int .i64 r.l, .int .i64 r.n, (.slice ao r.es.length cap)] 87)) (isState_any m hm lv rv sv r.n)
  have P5 : ∀ W, Gr ((w.alloc (.cells #[.int .i64 m.procs, .int .i64 m.states, .int .i64 m.loads, lv, rv, sv] 31)).alloc (.cells #[.int .i64 r.p, .int .i64 r.s, .int .i64 r.l, .int .i64 r.n, (.slice ao r.es.length cap)] 87)) W → Calls Try.prog 97 #[.slice ao r.es.length cap, .func (.func 98) #[] #[.pointer (some ⟨w.heap.size, 0, none⟩), .pointer (some ⟨w.heap.size + 1, 0, none⟩)]] W fun e w' => e = .returned (.bool (decide (0 ≤ firstIx (fun x => !emitOk m r.p x) r.es))) ∧ Gr ((w.alloc (.cells #[.int .i64 m.procs, .int .i64 m.states, .int .i64 m.loads, lv, rv, sv] 31)).alloc (.cells #[.int .i64 r.p, .int .i64 r.s, .int .i64 r.l, .int .i64 r.n, (.slice ao r.es.length cap)] 87)) w' := by
    intro W hW
    have hBW := Gr.below hW hB0
    refine (contains_any W B _ r.es (fun x => !emitOk m r.p x) _ (RowsAt.keep hE (hBW.mono hB)) hne (fun x _ W' hW' => ?_)).mono fun e w' ⟨he, hb⟩ => ⟨he, hW.trans hb⟩
    refine (emitFn_any m hm lv rv sv R B w.heap.size (w.heap.size + 1) r _ x W' (h.keep ((Gr.below hW' hBW).mono hB)) (Nat.le_trans hB (Gr.below hW' hBW).size) (hmb.keep (hW.trans hW').kept (fun e => e)) (hrb.keep (hW.trans hW').kept (fun e => e))).mono fun e w' ⟨he, hb⟩ => ⟨he, hW'.trans hb⟩
  have H : ruleOk m r = (isP m r.p && isS m r.s && isL m r.l && isS m r.n && decide (r.es.length ≤ 4) && r.es.all (emitOk m r.p)) := rfl
  rw [← firstIx_all] at H
  clear hmb hrb h hE
  cases h1 : isP m r.p
  case' true =>
    cases h2 : isS m r.s
    case' true =>
      cases h3 : isL m r.l
      case' true =>
        cases h4 : isS m r.n
        case' true => by_cases h5 : r.es.length ≤ 4
  all_goals
    simp only [*, decide_true, decide_false, Bool.and_true, Bool.true_and, Bool.and_false, Bool.false_and] at H
    go_enter Try.func75, Try.ntmps75
    go_wp2_with fail
    refine (P1 _ R0).mono ?_
    rintro e w1 ⟨rfl, g1⟩
    go_wp2_with (first | (go_at_call 96; (first | refine (P2 _ (by assumption)).mono ?_ | refine (P4 _ (by assumption)).mono ?_); rintro e w2 ⟨rfl, g2⟩) | (go_at_call 79; refine (P3 _ (by assumption)).mono ?_; rintro e w2 ⟨rfl, g2⟩) | (go_at_call 97; refine (P5 _ (by assumption)).mono ?_; rintro e w2 ⟨rfl, g2⟩))
    go_ret
    exact ⟨ret_bool H.symm, Gr.below (by assumption) hB0⟩

end Go.Proofs.Ytkobkilfbbalaaa

namespace Go.Proofs.Ytkobkilfbbalaaa
open Go.RowKit Go.Sort Go.Maps

/-- the first place that is not good; -1 if all are -/
def FirstBad (n : Nat) (good : Nat → Bool) (k : Int) : Prop :=
  (k = -1 ∧ ∀ j, j < n → good j = true) ∨ ∃ i : Nat, k = (i : Int) ∧ i < n ∧ good i = false ∧ ∀ j, j < i → good j = true

theorem FirstBad.unique {n : Nat} {good : Nat → Bool} {a b : Int} (h : FirstBad n good a) (k : FirstBad n good b) : a = b := by
  rcases h with ⟨rfl, h⟩ | ⟨i, rfl, h1, h2, h3⟩
  · rcases k with ⟨rfl, _⟩ | ⟨j, rfl, k1, k2, _⟩
    · rfl
    · rw [h j k1] at k2; cases k2
  · rcases k with ⟨rfl, k⟩ | ⟨j, rfl, k1, k2, k3⟩
    · rw [k i h1] at h2; cases h2
    · rcases Nat.lt_trichotomy i j with e | e | e
      · rw [k3 i e] at h2; cases h2
      · rw [e]
      · rw [h3 j e] at k2; cases k2

def goodRule (m : Mdl) (j : Nat) : Bool :=
  match m.rules[j]? with
  | some r => ruleOk m r && !decide (0 ≤ firstIx (ruleFor r.p r.s r.l) (m.rules.take j))
  | none => true

theorem goodRule_at {m : Mdl} {j : Nat} {r : MRule} (h : m.rules[j]? = some r) : goodRule m j = (ruleOk m r && !decide (0 ≤ firstIx (ruleFor r.p r.s r.l) (m.rules.take j))) := by
  unfold goodRule; rw [h]

theorem firstIx_map {α β : Type} (f : α → β) (p : β → Bool) (l : List α) : firstIx p (l.map f) = firstIx (fun x => p (f x)) l := by
  have : (l.map f).findIdx? p = l.findIdx? (fun x => p (f x)) := by
    rw [List.findIdx?_map]; rfl
  unfold firstIx; rw [this]

theorem ModelAt.rule {w : World} {B : Nat} {lv rv sv : Value} {m : Mdl} {R : List RuleV} (h : ModelAt w B lv rv sv m R) {i : Nat} (hi : i < m.rules.length) : ∃ x, R[i]? = some x ∧ m.rules[i]? = some x.r ∧ EmitsAt w B x.ev x.r.es := by
  have hl : R.length = m.rules.length := by rw [← h.same]; simp
  obtain ⟨x, hx⟩ := get_of_lt (d := R) (k := i) (by omega)
  refine ⟨x, hx, ?_, h.rules.2 x (List.mem_of_getElem? hx)⟩
  rw [← h.same, List.getElem?_map, hx]; rfl

theorem ModelAt.rlen {w : World} {B : Nat} {lv rv sv : Value} {m : Mdl} {R : List RuleV} (h : ModelAt w B lv rv sv m R) : R.length = m.rules.length := by rw [← h.same]; simp

set_option maxRecDepth 100000 in
set_option maxHeartbeats 4000000 in
theorem firstWrongRule_any (m : Mdl) (hm : Lim m) (lv rv sv : Value) (R : List RuleV) (B : Nat) (w : World) (h : ModelAt w B lv rv sv m R) (hB : B ≤ w.heap.size) (hne : ∀ r ∈ m.rules, r.es.length ≤ 5864062014634) :
    Calls Try.prog 48 #[.agg #[.int .i64 m.procs, .int .i64 m.states, .int .i64 m.loads, lv, rv, sv]] w fun e w' => ∃ k : Int, e = .returned (.int .i64 k) ∧ FirstBad m.rules.length (goodRule m) k ∧ Below w.heap.size w w' := by
  obtain ⟨ao, cap, hrv, hcap⟩ := RowsAt.form h.rules.1
  rw [h.rlen] at hrv hcap
  subst hrv
  have hnr := hm.nr
  have hB0 : Below w.heap.size w (w.alloc (.cells #[.int .i64 m.procs, .int .i64 m.states, .int .i64 m.loads, lv, .slice ao m.rules.length cap, sv] 31)) := (Below.refl _ _).alloc (Nat.le_refl _) _
  have hmb : Blk (w.alloc (.cells #[.int .i64 m.procs, .int .i64 m.states, .int .i64 m.loads, lv, .slice ao m.rules.length cap, sv] 31)) w.heap.size #[.int .i64 m.procs, .int .i64 m.states, .int .i64 m.loads, lv, .slice ao m.rules.length cap, sv] 31 := heap_alloc_new w _
  go_enter Try.func48, Try.ntmps48
  go_wp2
  go_loopw [8] (fun si wr => ∃ i : Nat, si = .int .i64 i ∧ i ≤ m.rules.length ∧ (∀ j, j < i → goodRule m j = true) ∧ Gr (w.alloc (.cells #[.int .i64 m.procs, .int .i64 m.states, .int .i64 m.loads, lv, .slice ao m.rules.length cap, sv] 31)) wr) (fun si _ => m.rules.length - (intOf si).toNat)
  case atStart => exact ⟨0, rfl, Nat.zero_le _, fun j hj => by omega, Gr.refl _⟩
  case round =>
    obtain ⟨i, rfl, hi, hb, hg⟩ := hrel
    by_cases hlt : i < m.rules.length
    · obtain ⟨⟨r, ev⟩, hx, hxr, hE⟩ := h.rule hlt
      have hE : EmitsAt w B ev r.es := hE
      have hxr : m.rules[i]? = some r := hxr
      obtain ⟨aoe, cape, rfl, hcape⟩ := RowsAt.form hE
      obtain ⟨b, off, hao, hbB, hc⟩ := RowsAt.at_ h.rules.1 hx
      subst hao
      have c0 := hg.cell (hB0.cell (p := ⟨b, off + i * 5 + 0, none⟩) (Nat.lt_of_lt_of_le hbB hB) ▸ hc 0 (.int .i64 r.p) rfl)
      have c1 := hg.cell (hB0.cell (p := ⟨b, off + i * 5 + 1, none⟩) (Nat.lt_of_lt_of_le hbB hB) ▸ hc 1 (.int .i64 r.s) rfl)
      have c2 := hg.cell (hB0.cell (p := ⟨b, off + i * 5 + 2, none⟩) (Nat.lt_of_lt_of_le hbB hB) ▸ hc 2 (.int .i64 r.l) rfl)
      have c3 := hg.cell (hB0.cell (p := ⟨b, off + i * 5 + 3, none⟩) (Nat.lt_of_lt_of_le hbB hB) ▸ hc 3 (.int .i64 r.n) rfl)
      have c4 := hg.cell (hB0.cell (p := ⟨b, off + i * 5 + 4, none⟩) (Nat.lt_of_lt_of_le hbB hB) ▸ hc 4 (.slice aoe r.es.length cape) rfl)
      simp only [Nat.add_zero] at c0
      have hgr : Gr (w.alloc (.cells #[.int .i64 m.procs, .int .i64 m.states, .int .i64 m.loads, lv, .slice (some ⟨b, off, none⟩) m.rules.length cap, sv] 31)) (wr.alloc (.cells #[.int .i64 r.p, .int .i64 r.s, .int .i64 r.l, .int .i64 r.n, .slice aoe r.es.length cape] 87)) := hg.alloc _
      have hBr := Gr.below hgr hB0
      have hrb : Blk (wr.alloc (.cells #[.int .i64 r.p, .int .i64 r.s, .int .i64 r.l, .int .i64 r.n, .slice aoe r.es.length cape] 87)) wr.heap.size #[.int .i64 r.p, .int .i64 r.s, .int .i64 r.l, .int .i64 r.n, .slice aoe r.es.length cape] 87 := heap_alloc_new wr _
      have hmr : Blk (wr.alloc (.cells #[.int .i64 r.p, .int .i64 r.s, .int .i64 r.l, .int .i64 r.n, .slice aoe r.es.length cape] 87)) w.heap.size #[.int .i64 m.procs, .int .i64 m.states, .int .i64 m.loads, lv, .slice (some ⟨b, off, none⟩) m.rules.length cap, sv] 31 := hmb.keep hgr.kept (fun e => e)
      have k0 := cell_regrown (v := .int .i64 m.procs) (hmr.cell 0)
      have k1 := cell_regrown (v := .int .i64 m.states) (hmr.cell 1)
      have k2 := cell_regrown (v := .int .i64 m.loads) (hmr.cell 2)
      have k3 := cell_regrown (v := lv) (hmr.cell 3)
      have k4 := cell_regrown (v := .slice (some ⟨b, off, none⟩) m.rules.length cap) (hmr.cell 4)
      have k5 := cell_regrown (v := sv) (hmr.cell 5)
      have x0 := cell_regrown (v := .int .i64 r.p) (hrb.cell 0)
      have x1 := cell_regrown (v := .int .i64 r.s) (hrb.cell 1)
      have x2 := cell_regrown (v := .int .i64 r.l) (hrb.cell 2)
      have x3 := cell_regrown (v := .int .i64 r.n) (hrb.cell 3)
      have x4 := cell_regrown (v := .slice aoe r.es.length cape) (hrb.cell 4)
      have HG := goodRule_at hxr
      have hmap : firstIx (ruleFor r.p r.s r.l) (m.rules.take i) = firstIx (fun x => ruleFor r.p r.s r.l x.r) (R.take i) := by
        rw [← h.same, ← List.map_take, firstIx_map]
      rw [hmap] at HG
      have P1 : ∀ p : Regrown, Calls Try.prog 75 #[.agg #[.int .i64 m.procs, .int .i64 m.states, .int .i64 m.loads, lv, .slice (some ⟨b, off, none⟩) m.rules.length cap, sv], .agg #[.int .i64 r.p, .int .i64 r.s, .int .i64 r.l, .int .i64 r.n, .slice aoe r.es.length cape]] (grow (redrawn (wr.alloc (.cells #[.int .i64 r.p, .int .i64 r.s, .int .i64 r.l, .int .i64 r.n, .slice aoe r.es.length cape] 87)) p.d) p.os) fun e w'' => e = .returned (.bool (ruleOk m r)) ∧ ∃ p : Regrown, w'' = grow (redrawn (wr.alloc (.cells #[.int .i64 r.p, .int .i64 r.s, .int .i64 r.l, .int .i64 r.n, .slice aoe r.es.length cape] 87)) p.d) p.os := fun p => by
        have hb2 := hBr.trans ((below_regrown _ p.d p.os).mono hBr.size)
        exact Calls.regrown_of (rightRule_any m hm lv _ sv R B r _ _ (h.keep (hb2.mono hB)) (RowsAt.keep hE (hb2.mono hB)) (Nat.le_trans hB hb2.size) (hne r (List.mem_of_getElem? hxr)))
      have hR : RulesAt w B (.slice (some ⟨b, off, none⟩) i cap) (R.take i) :=
        ⟨RowsAt.take h.rules.1 i (by rw [h.rlen]; omega), fun y hy => h.rules.2 y (List.mem_of_mem_take hy)⟩
      have P2 : ∀ p : Regrown, Calls Try.prog 76 #[.slice (some ⟨b, off, none⟩) i cap, .int .i64 r.p, .int .i64 r.s, .int .i64 r.l] (grow (redrawn (wr.alloc (.cells #[.int .i64 r.p, .int .i64 r.s, .int .i64 r.l, .int .i64 r.n, .slice aoe r.es.length cape] 87)) p.d) p.os) fun e w'' => e = .returned (.int .i64 (firstIx (fun x => ruleFor r.p r.s r.l x.r) (R.take i))) ∧ ∃ p : Regrown, w'' = grow (redrawn (wr.alloc (.cells #[.int .i64 r.p, .int .i64 r.s, .int .i64 r.l, .int .i64 r.n, .slice aoe r.es.length cape] 87)) p.d) p.os := fun p => by
        have hb2 := hBr.trans ((below_regrown _ p.d p.os).mono hBr.size)
        exact Calls.regrown_of (findRule_any r.p r.s r.l _ (R.take i) B _ (RowsAt.keep hR.1 (hb2.mono hB)) (Nat.le_trans hB hb2.size) (by rw [List.length_take, h.rlen]; omega))
      have hic : i ≤ cap := by omega
      clear hmr hrb hxr hE hc hx hmap hR
      generalize firstIx (fun x => ruleFor r.p r.s r.l x.r) (R.take i) = fx at HG P2
      cases h1 : ruleOk m r with
      | false =>
        have HG' : Hid (goodRule m i = false) := HG.trans (by rw [h1]; rfl)
        clear HG
        go_wp2
        refine wp_region_quiet_below (by kernel_rfl) (by kernel_rfl) ?_
        repeat (go_big_quiet_step (first | exact P1 _ | exact P2 _))
        refine wpQuiet_nil ?_
        intro wq hw'
        have hbl := below_of_regrown hw'
        clear hw' k0 k1 k2 k3 k4 k5 x0 x1 x2 x3 x4 c0 c1 c2 c3 c4 P1 P2
        go_wp2
        go_ret
        exact ⟨i, rfl, .inr ⟨i, rfl, hlt, HG'.out, hb⟩, hBr.trans (hbl.mono hBr.size)⟩
      | true =>
        by_cases h2 : 0 ≤ fx
        · have HG' : Hid (goodRule m i = false) := HG.trans (by rw [h1, decide_eq_true h2]; rfl)
          clear HG
          go_wp2
          refine wp_region_quiet_below (by kernel_rfl) (by kernel_rfl) ?_
          repeat (go_big_quiet_step (first | exact P1 _ | exact P2 _))
          refine wpQuiet_nil ?_
          intro wq hw'
          have hbl := below_of_regrown hw'
          clear hw' k0 k1 k2 k3 k4 k5 x0 x1 x2 x3 x4 c0 c1 c2 c3 c4 P1 P2
          go_wp2
          go_ret
          exact ⟨i, rfl, .inr ⟨i, rfl, hlt, HG'.out, hb⟩, hBr.trans (hbl.mono hBr.size)⟩
        · have HG' : Hid (goodRule m i = true) := HG.trans (by rw [h1, decide_eq_false h2]; rfl)
          clear HG
          go_wp2
          refine wp_region_quiet_below (by kernel_rfl) (by kernel_rfl) ?_
          repeat (go_big_quiet_step (first | exact P1 _ | exact P2 _))
          refine wpQuiet_nil ?_
          intro wq hw'
          have hbl := below_of_regrown hw'
          clear hw' k0 k1 k2 k3 k4 k5 x0 x1 x2 x3 x4 c0 c1 c2 c3 c4 P1 P2
          go_wp2
          go_roundw
          case rel =>
            refine ⟨i + 1, by go_num, hlt, fun j hj => ?_, hgr.trans hbl⟩
            by_cases hji : j = i
            · subst hji; exact HG'.out
            · exact hb j (by omega)
          case measure => simp [intOf]; omega
    · have hie : i = m.rules.length := by omega
      have hie' : (i : Int) = m.rules.length := by omega
      go_wp2
      go_ret
      exact ⟨-1, rfl, .inl ⟨rfl, fun j hj => hb j (by omega)⟩, Gr.below hg hB0⟩

end Go.Proofs.Ytkobkilfbbalaaa

namespace Go.Proofs.Ytkobkilfbbalaaa
open Go.RowKit Go.Sort Go.Maps

set_option maxHeartbeats 400000 in
theorem refWithin_any (x a b : Int) (w : World) :
    Calls Try.prog 54 #[.int .i64 x, .int .i64 a, .int .i64 b] w fun e w' => e = .returned (.bool (withinB x a b)) ∧ w' = w := by
  by_cases h1 : a ≤ x
  · by_cases h2 : x ≤ b
    · have H := withinB_t h1 h2
      go_enter Try.func54, Try.ntmps54
      go_wp2
      go_ret
      first | exact ⟨ret_bool H.symm, rfl⟩ | exact ⟨rfl, rfl⟩
    · have H := withinB_f2 (a := a) h2
      go_enter Try.func54, Try.ntmps54
      go_wp2
      go_ret
      first | exact ⟨ret_bool H.symm, rfl⟩ | exact ⟨rfl, rfl⟩
  · have H := withinB_f1 (b := b) h1
    go_enter Try.func54, Try.ntmps54
    go_wp2
    go_ret
    first | exact ⟨ret_bool H.symm, rfl⟩ | exact ⟨rfl, rfl⟩

set_option maxHeartbeats 400000 in
theorem refBelow_any (x b : Int) (w : World) :
    Calls Try.prog 55 #[.int .i64 x, .int .i64 b] w fun e w' => e = .returned (.bool (withinB x 0 (b - 1))) ∧ w' = w := by
  by_cases h1 : 0 ≤ x
  · by_cases h2 : x < b
    · have H := withinB_t h1 (show x ≤ b - 1 by omega)
      go_enter Try.func55, Try.ntmps55
      go_wp2
      go_ret
      first | exact ⟨ret_bool H.symm, rfl⟩ | exact ⟨rfl, rfl⟩
    · have H := withinB_f2 (a := 0) (show ¬ x ≤ b - 1 by omega)
      go_enter Try.func55, Try.ntmps55
      go_wp2
      go_ret
      first | exact ⟨ret_bool H.symm, rfl⟩ | exact ⟨rfl, rfl⟩
  · have H := withinB_f1 (b := b - 1) h1
    go_enter Try.func55, Try.ntmps55
    go_wp2
    go_ret
    first | exact ⟨ret_bool H.symm, rfl⟩ | exact ⟨rfl, rfl⟩

set_option maxRecDepth 100000 in
set_option maxHeartbeats 4000000 in
theorem refFind_any (m : Mdl) (lv rv sv : Value) (R : List RuleV) (B : Nat) (p s l : Int) (w : World) (h : RulesAt w B rv R) (hsame : R.map RuleV.r = m.rules) (hB : B ≤ w.heap.size) (hn : m.rules.length ≤ 5864062014634) :
    Calls Try.prog 84 #[.agg #[.int .i64 m.procs, .int .i64 m.states, .int .i64 m.loads, lv, rv, sv], .int .i64 p, .int .i64 s, .int .i64 l] w fun e w' => e = .returned (.int .i64 (firstIx (ruleFor p s l) m.rules)) ∧ Below w.heap.size w w' := by
  obtain ⟨ao, cap, hrv, hcap⟩ := RowsAt.form h.1
  have hrl : R.length = m.rules.length := by rw [← hsame]; simp
  rw [hrl] at hrv hcap
  subst hrv
  have hB0 : Below w.heap.size w (w.alloc (.cells #[.int .i64 m.procs, .int .i64 m.states, .int .i64 m.loads, lv, (.slice ao m.rules.length cap), sv] 26)) := (Below.refl _ _).alloc (Nat.le_refl _) _
  have hmb : Blk (w.alloc (.cells #[.int .i64 m.procs, .int .i64 m.states, .int .i64 m.loads, lv, (.slice ao m.rules.length cap), sv] 26)) w.heap.size #[.int .i64 m.procs, .int .i64 m.states, .int .i64 m.loads, lv, (.slice ao m.rules.length cap), sv] 26 := heap_alloc_new w _
  have R0 := Gr.refl (w.alloc (.cells #[.int .i64 m.procs, .int .i64 m.states, .int .i64 m.loads, lv, (.slice ao m.rules.length cap), sv] 26))
  have k0 := Gr.cells (v := .int .i64 m.procs) (hmb.cell 0)
  have k1 := Gr.cells (v := .int .i64 m.states) (hmb.cell 1)
  have k2 := Gr.cells (v := .int .i64 m.loads) (hmb.cell 2)
  have k3 := Gr.cells (v := lv) (hmb.cell 3)
  have k4 := Gr.cells (v := (.slice ao m.rules.length cap)) (hmb.cell 4)
  have k5 := Gr.cells (v := sv) (hmb.cell 5)
  clear hmb
  go_enter Try.func84, Try.ntmps84
  go_wp2
  go_loopw [9] (fun si wr => ∃ i : Nat, si = .int .i64 i ∧ i ≤ m.rules.length ∧ (∀ (j : Nat) (y : MRule), j < i → m.rules[j]? = some y → ruleFor p s l y = false) ∧ Gr (w.alloc (.cells #[.int .i64 m.procs, .int .i64 m.states, .int .i64 m.loads, lv, (.slice ao m.rules.length cap), sv] 26)) wr) (fun si _ => m.rules.length - (intOf si).toNat)
  case atStart => exact ⟨0, rfl, Nat.zero_le _, fun j y hj => by omega, Gr.refl _⟩
  case round =>
    obtain ⟨i, rfl, hi, hb, hg⟩ := hrel
    have hlw : w.heap.size < wr.heap.size := by have := Below.size hg; simp at this; omega
    by_cases hlt : i < m.rules.length
    · obtain ⟨⟨r, ev⟩, hx⟩ := get_of_lt (d := R) (k := i) (by omega)
      have hE : EmitsAt w B ev r.es := h.2 _ (List.mem_of_getElem? hx)
      have hxr : m.rules[i]? = some r := by rw [← hsame, List.getElem?_map, hx]; rfl
      obtain ⟨aoe, cape, rfl, hcape⟩ := RowsAt.form hE
      obtain ⟨b, off, hao, hbB, hc⟩ := RowsAt.at_ h.1 hx
      subst hao
      have c0 := hg.cell (hB0.cell (p := ⟨b, off + i * 5 + 0, none⟩) (Nat.lt_of_lt_of_le hbB hB) ▸ hc 0 (.int .i64 r.p) rfl)
      have c1 := hg.cell (hB0.cell (p := ⟨b, off + i * 5 + 1, none⟩) (Nat.lt_of_lt_of_le hbB hB) ▸ hc 1 (.int .i64 r.s) rfl)
      have c2 := hg.cell (hB0.cell (p := ⟨b, off + i * 5 + 2, none⟩) (Nat.lt_of_lt_of_le hbB hB) ▸ hc 2 (.int .i64 r.l) rfl)
      have c3 := hg.cell (hB0.cell (p := ⟨b, off + i * 5 + 3, none⟩) (Nat.lt_of_lt_of_le hbB hB) ▸ hc 3 (.int .i64 r.n) rfl)
      have c4 := hg.cell (hB0.cell (p := ⟨b, off + i * 5 + 4, none⟩) (Nat.lt_of_lt_of_le hbB hB) ▸ hc 4 (.slice aoe r.es.length cape) rfl)
      simp only [Nat.add_zero] at c0
      have hgr := hg.alloc (.cells #[.int .i64 r.p, .int .i64 r.s, .int .i64 r.l, .int .i64 r.n, .slice aoe r.es.length cape] 81)
      have Hx : Hid (m.rules[i]? = some r) := hxr
      clear hxr hc hx hE h
      by_cases e1 : r.p = p
      · have n1 : (r.p == p) = true := beq_iff_eq.2 e1
        by_cases e2 : r.s = s
        · have n2 : (r.s == s) = true := beq_iff_eq.2 e2
          by_cases e3 : r.l = l
          · have n3 : (r.l == l) = true := beq_iff_eq.2 e3
            have HF : Hid (ruleFor p s l r = true) := by show _ = _; simp [ruleFor, e1, e2, e3]
            clear e1 e2 e3
            go_wp2
            go_ret
            exact ⟨ret_int (firstIx_at Hx.out HF.out hb).symm, Gr.below hgr hB0⟩
          · have n3 : (r.l == l) = false := beq_eq_false_iff_ne.2 e3
            have HF : Hid (ruleFor p s l r = false) := by show _ = _; simp [ruleFor, e3]
            clear e1 e2 e3
            go_wp2
            go_roundw
            case rel =>
              refine ⟨i + 1, by go_num, hlt, fun j y hj hy => ?_, hgr⟩
              by_cases hji : j = i
              · subst hji; rw [Hx.out] at hy; cases hy; exact HF.out
              · exact hb j y (by omega) hy
            case measure => simp [intOf]; omega
        · have n2 : (r.s == s) = false := beq_eq_false_iff_ne.2 e2
          have HF : Hid (ruleFor p s l r = false) := by show _ = _; simp [ruleFor, e2]
          clear e1 e2
          go_wp2
          go_roundw
          case rel =>
            refine ⟨i + 1, by go_num, hlt, fun j y hj hy => ?_, hgr⟩
            by_cases hji : j = i
            · subst hji; rw [Hx.out] at hy; cases hy; exact HF.out
            · exact hb j y (by omega) hy
          case measure => simp [intOf]; omega
      · have n1 : (r.p == p) = false := beq_eq_false_iff_ne.2 e1
        have HF : Hid (ruleFor p s l r = false) := by show _ = _; simp [ruleFor, e1]
        clear e1
        go_wp2
        go_roundw
        case rel =>
          refine ⟨i + 1, by go_num, hlt, fun j y hj hy => ?_, hgr⟩
          by_cases hji : j = i
          · subst hji; rw [Hx.out] at hy; cases hy; exact HF.out
          · exact hb j y (by omega) hy
        case measure => simp [intOf]; omega
    · have hie : Hid (i = m.rules.length) := by show _ = _; omega
      clear h
      go_wp2
      go_ret
      exact ⟨ret_int (firstIx_none (fun j y hy => hb j y (by have := get_lt hy; have := hie.out; omega) hy)).symm, Gr.below hg hB0⟩

set_option maxRecDepth 100000 in
set_option maxHeartbeats 4000000 in
theorem refEmits_any (m : Mdl) (hm : Lim m) (lv rv sv : Value) (R : List RuleV) (B : Nat) (p : Int) (x : MEmit) (w : World) (h : ModelAt w B lv rv sv m R) (hB : B ≤ w.heap.size) :
    Calls Try.prog 83 #[.agg #[.int .i64 m.procs, .int .i64 m.states, .int .i64 m.loads, lv, rv, sv], .int .i64 p, .agg #[.int .i64 x.k, .int .i64 x.d, .int .i64 x.l]] w fun e w' => e = .returned (.bool (emitOk m p x)) ∧ Below w.heap.size w w' := by
  obtain ⟨ao, cap, hlv, hcap⟩ := RowsAt.form h.links
  have hnl := hm.nl
  subst hlv
  have HL : isL m x.l = withinB x.l 0 (m.loads - 1) := rfl
  cases hk : withinB x.k 0 ((m.links.length : Int) - 1) with
  | false =>
    have H := emitOk_no (p := p) hk
    clear h HL
    go_enter Try.func83, Try.ntmps83
    go_wp2_with (go_at_call 55; refine (refBelow_any _ _ _).mono ?_; rintro e w1 ⟨rfl, rfl⟩)
    go_ret
    exact ⟨ret_bool H.symm, ((Below.refl _ _).alloc (Nat.le_refl _) _).alloc (by simp) _⟩
  | true =>
    obtain ⟨hk0, hk1⟩ := withinB_iff.1 hk
    obtain ⟨y, hy⟩ := get_of_lt (d := m.links) (k := x.k.toNat) (by omega)
    have H := emitOk_at (p := p) hk hy
    rw [HL] at H
    clear HL
    cases h2 : withinB x.l 0 (m.loads - 1) with
    | false =>
      rw [h2, Bool.and_false] at H
      clear h hy
      go_enter Try.func83, Try.ntmps83
      go_wp2_with (go_at_call 55; refine (refBelow_any _ _ _).mono ?_; rintro e w1 ⟨rfl, rfl⟩)
      go_ret
      exact ⟨ret_bool H.symm, ((Below.refl _ _).alloc (Nat.le_refl _) _).alloc (by simp) _⟩
    | true =>
      rw [h2, Bool.and_true] at H
      obtain ⟨b, off, hao, hbB, hc⟩ := RowsAt.at_ h.links hy
      subst hao
      have hB0 : Below w.heap.size w ((w.alloc (.cells #[.int .i64 m.procs, .int .i64 m.states, .int .i64 m.loads, (.slice (some ⟨b, off, none⟩) m.links.length cap), rv, sv] 26)).alloc (.cells #[.int .i64 x.k, .int .i64 x.d, .int .i64 x.l] 84)) := ((Below.refl _ _).alloc (Nat.le_refl _) _).alloc (by simp) _
      have L0 := cell?_alloc_some' (o := .cells #[.int .i64 x.k, .int .i64 x.d, .int .i64 x.l] 84) (cell?_alloc_some' (o := .cells #[.int .i64 m.procs, .int .i64 m.states, .int .i64 m.loads, (.slice (some ⟨b, off, none⟩) m.links.length cap), rv, sv] 26) (hc 0 (.int .i64 y.f) rfl))
      have L1 := cell?_alloc_some' (o := .cells #[.int .i64 x.k, .int .i64 x.d, .int .i64 x.l] 84) (cell?_alloc_some' (o := .cells #[.int .i64 m.procs, .int .i64 m.states, .int .i64 m.loads, (.slice (some ⟨b, off, none⟩) m.links.length cap), rv, sv] 26) (hc 1 (.int .i64 y.t) rfl))
      have L2 := cell?_alloc_some' (o := .cells #[.int .i64 x.k, .int .i64 x.d, .int .i64 x.l] 84) (cell?_alloc_some' (o := .cells #[.int .i64 m.procs, .int .i64 m.states, .int .i64 m.loads, (.slice (some ⟨b, off, none⟩) m.links.length cap), rv, sv] 26) (hc 2 (.int .i64 y.a) rfl))
      simp only [Nat.add_zero] at L0
      have hki : x.k < (m.links.length : Int) := by omega
      have hbs : b < w.heap.size := Nat.lt_of_lt_of_le hbB hB
      clear hy h hc hcap
      have l0 := cell?_alloc_some' (o := .cells #[.int .i64 y.f, .int .i64 y.t, .int .i64 y.a] 77) L0
      by_cases e1 : y.f = p
      · have n1 : (y.f == p) = true := beq_iff_eq.2 e1
        rw [decide_eq_true e1, Bool.true_and] at H
        clear e1
        by_cases e2 : y.a ≤ x.d
        · by_cases e3 : x.d ≤ 60
          · rw [withinB_t e2 e3] at H
            go_enter Try.func83, Try.ntmps83
            go_wp2_with (go_at_call 55; refine (refBelow_any _ _ _).mono ?_; rintro e w1 ⟨rfl, rfl⟩)
            go_ret
            first | exact ⟨ret_bool H.symm, hB0.alloc hB0.size _⟩ | exact ⟨rfl, hB0.alloc hB0.size _⟩ | exact ⟨ret_bool ((decide_eq_false (by omega)).trans H.symm), hB0.alloc hB0.size _⟩
          · rw [withinB_f2 e3] at H
            go_enter Try.func83, Try.ntmps83
            go_wp2_with (go_at_call 55; refine (refBelow_any _ _ _).mono ?_; rintro e w1 ⟨rfl, rfl⟩)
            go_ret
            first | exact ⟨ret_bool H.symm, hB0.alloc hB0.size _⟩ | exact ⟨rfl, hB0.alloc hB0.size _⟩ | exact ⟨ret_bool ((decide_eq_false (by omega)).trans H.symm), hB0.alloc hB0.size _⟩
        · rw [withinB_f1 e2] at H
          go_enter Try.func83, Try.ntmps83
          go_wp2_with (go_at_call 55; refine (refBelow_any _ _ _).mono ?_; rintro e w1 ⟨rfl, rfl⟩)
          go_ret
          first | exact ⟨ret_bool H.symm, hB0.alloc hB0.size _⟩ | exact ⟨rfl, hB0.alloc hB0.size _⟩ | exact ⟨ret_bool ((decide_eq_false (by omega)).trans H.symm), hB0.alloc hB0.size _⟩
      · have n1 : (y.f == p) = false := beq_eq_false_iff_ne.2 e1
        rw [decide_eq_false e1, Bool.false_and] at H
        clear e1
        go_enter Try.func83, Try.ntmps83
        go_wp2_with (go_at_call 55; refine (refBelow_any _ _ _).mono ?_; rintro e w1 ⟨rfl, rfl⟩)
        go_ret
        first | exact ⟨ret_bool H.symm, hB0.alloc hB0.size _⟩ | exact ⟨rfl, hB0.alloc hB0.size _⟩ | exact ⟨ret_bool ((decide_eq_false (by omega)).trans H.symm), hB0.alloc hB0.size _⟩

end Go.Proofs.Ytkobkilfbbalaaa

