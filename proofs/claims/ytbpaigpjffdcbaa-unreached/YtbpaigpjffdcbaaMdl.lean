/-
  A model, plain; and how it lies in memory (the reference's and the program's alike).
-/
import Derived.Test.YtbpaigpjffdcbaaQPop
namespace Go.Proofs.Ytbpaigpjffdcbaa
open Go.RowKit Go.Sort Go.Maps

structure MLink where
  f : Int
  t : Int
  a : Int
structure MEmit where
  k : Int
  d : Int
  l : Int
structure MRule where
  p : Int
  s : Int
  l : Int
  n : Int
  es : List MEmit
structure MStart where
  p : Int
  t : Int
  l : Int
structure Mdl where
  procs : Int
  states : Int
  loads : Int
  links : List MLink
  rules : List MRule
  starts : List MStart

/-- rows of sz cells each, from some place on, in blocks below B -/
def RowsAt {α : Type} (sz : Nat) (enc : α → List Value) (w : World) (B : Nat) (v : Value) (l : List α) : Prop :=
  ∃ ao cap, v = .slice ao l.length cap ∧ l.length ≤ cap ∧ (l ≠ [] → ∃ b off, ao = some ⟨b, off, none⟩ ∧ b < B ∧ ∀ (j : Nat) (x : α) (k : Nat) (u : Value), l[j]? = some x → (enc x)[k]? = some u → w.cell? ⟨b, off + j * sz + k, none⟩ = some u)

theorem RowsAt.keep {α : Type} {sz : Nat} {enc : α → List Value} {w w' : World} {B : Nat} {v : Value} {l : List α} (h : RowsAt sz enc w B v l) (k : Below B w w') : RowsAt sz enc w' B v l := by
  obtain ⟨ao, cap, h1, h2, h3⟩ := h
  refine ⟨ao, cap, h1, h2, fun hne => ?_⟩
  obtain ⟨b, off, h4, h5, h6⟩ := h3 hne
  exact ⟨b, off, h4, h5, fun j x k' u hx hu => by rw [k.cell (p := ⟨b, _, none⟩) h5]; exact h6 j x k' u hx hu⟩

theorem RowsAt.mono {α : Type} {sz : Nat} {enc : α → List Value} {w : World} {B B' : Nat} {v : Value} {l : List α} (h : RowsAt sz enc w B v l) (hB : B ≤ B') : RowsAt sz enc w B' v l := by
  obtain ⟨ao, cap, h1, h2, h3⟩ := h
  refine ⟨ao, cap, h1, h2, fun hne => ?_⟩
  obtain ⟨b, off, h4, h5, h6⟩ := h3 hne
  exact ⟨b, off, h4, by omega, h6⟩

/-- the first n rows -/
theorem RowsAt.take {α : Type} {sz : Nat} {enc : α → List Value} {w : World} {B : Nat} {ao : Option Addr} {len cap : Nat} {l : List α} (h : RowsAt sz enc w B (.slice ao len cap) l) (n : Nat) (hn : n ≤ l.length) : RowsAt sz enc w B (.slice ao n cap) (l.take n) := by
  obtain ⟨ao', cap', h1, h2, h3⟩ := h
  simp only [Value.slice.injEq] at h1
  obtain ⟨rfl, rfl, rfl⟩ := h1
  refine ⟨ao, cap, by rw [List.length_take, Nat.min_eq_left hn], by rw [List.length_take]; omega, fun hne => ?_⟩
  obtain ⟨b, off, h4, h5, h6⟩ := h3 (fun e => hne (by rw [e]; simp))
  refine ⟨b, off, h4, h5, fun j x k u hx hu => h6 j x k u ?_ hu⟩
  have := get_lt hx
  rw [List.length_take] at this
  rw [List.getElem?_take_of_lt (by omega)] at hx
  exact hx

def linkC (x : MLink) : List Value := [.int .i64 x.f, .int .i64 x.t, .int .i64 x.a]
def emitC (x : MEmit) : List Value := [.int .i64 x.k, .int .i64 x.d, .int .i64 x.l]
def startC (x : MStart) : List Value := [.int .i64 x.p, .int .i64 x.t, .int .i64 x.l]
structure RuleV where
  r : MRule
  ev : Value
def ruleC (x : RuleV) : List Value := [.int .i64 x.r.p, .int .i64 x.r.s, .int .i64 x.r.l, .int .i64 x.r.n, x.ev]

def LinksAt (w : World) (B : Nat) (v : Value) (l : List MLink) : Prop := RowsAt 3 linkC w B v l
def EmitsAt (w : World) (B : Nat) (v : Value) (l : List MEmit) : Prop := RowsAt 3 emitC w B v l
def StartsAt (w : World) (B : Nat) (v : Value) (l : List MStart) : Prop := RowsAt 3 startC w B v l
def RulesAt (w : World) (B : Nat) (v : Value) (L : List RuleV) : Prop := RowsAt 5 ruleC w B v L ∧ ∀ x ∈ L, EmitsAt w B x.ev x.r.es

theorem RowsAt.form {α : Type} {sz : Nat} {enc : α → List Value} {w : World} {B : Nat} {v : Value} {l : List α} (h : RowsAt sz enc w B v l) : ∃ ao cap, v = .slice ao l.length cap ∧ l.length ≤ cap := by
  obtain ⟨ao, cap, h1, h2, _⟩ := h
  exact ⟨ao, cap, h1, h2⟩

theorem RowsAt.at_ {α : Type} {sz : Nat} {enc : α → List Value} {w : World} {B : Nat} {ao : Option Addr} {len cap : Nat} {l : List α} (h : RowsAt sz enc w B (.slice ao len cap) l) {j : Nat} {x : α} (hx : l[j]? = some x) :
    ∃ b off, ao = some ⟨b, off, none⟩ ∧ b < B ∧ ∀ (k : Nat) (u : Value), (enc x)[k]? = some u → w.cell? ⟨b, off + j * sz + k, none⟩ = some u := by
  obtain ⟨ao', cap', h1, h2, h3⟩ := h
  simp only [Value.slice.injEq] at h1
  obtain ⟨rfl, rfl, rfl⟩ := h1
  obtain ⟨b, off, h4, h5, h6⟩ := h3 (fun e => by rw [e] at hx; simp at hx)
  exact ⟨b, off, h4, h5, fun k u hu => h6 j x k u hx hu⟩

/-- a model's three slices -/
structure ModelAt (w : World) (B : Nat) (lv rv sv : Value) (m : Mdl) (R : List RuleV) : Prop where
  links : LinksAt w B lv m.links
  rules : RulesAt w B rv R
  starts : StartsAt w B sv m.starts
  same : R.map RuleV.r = m.rules

theorem ModelAt.keep {w w' : World} {B : Nat} {lv rv sv : Value} {m : Mdl} {R : List RuleV} (h : ModelAt w B lv rv sv m R) (k : Below B w w') : ModelAt w' B lv rv sv m R :=
  ⟨RowsAt.keep h.links k, ⟨RowsAt.keep h.rules.1 k, fun x hx => RowsAt.keep (h.rules.2 x hx) k⟩, RowsAt.keep h.starts k, h.same⟩

theorem ModelAt.mono {w : World} {B B' : Nat} {lv rv sv : Value} {m : Mdl} {R : List RuleV} (h : ModelAt w B lv rv sv m R) (hB : B ≤ B') : ModelAt w B' lv rv sv m R :=
  ⟨RowsAt.mono h.links hB, ⟨RowsAt.mono h.rules.1 hB, fun x hx => RowsAt.mono (h.rules.2 x hx) hB⟩, RowsAt.mono h.starts hB, h.same⟩

/-! ### what is asked of a model, plainly -/
def withinB (x a b : Int) : Bool := decide (a ≤ x) && decide (x ≤ b)
def isP (m : Mdl) (p : Int) : Bool := withinB p 0 (m.procs - 1)
def isS (m : Mdl) (p : Int) : Bool := withinB p 0 (m.states - 1)
def isL (m : Mdl) (p : Int) : Bool := withinB p 0 (m.loads - 1)
def linkBad (m : Mdl) (x : MLink) : Bool := !isP m x.f || !isP m x.t || !withinB x.a 1 50
def emitOk (m : Mdl) (p : Int) (e : MEmit) : Bool :=
  if withinB e.k 0 ((m.links.length : Int) - 1) = true then
    match m.links[e.k.toNat]? with
    | some x => decide (x.f = p) && withinB e.d x.a 60 && isL m e.l
    | none => false
  else false
def ruleOk (m : Mdl) (r : MRule) : Bool :=
  isP m r.p && isS m r.s && isL m r.l && isS m r.n && decide (r.es.length ≤ 4) && r.es.all (emitOk m r.p)
def ruleFor (p s l : Int) (r : MRule) : Bool := decide (r.p = p) && decide (r.s = s) && decide (r.l = l)
def startBad (m : Mdl) (x : MStart) : Bool := !isP m x.p || !withinB x.t 0 200 || !isL m x.l

/-- the number of the first that answers yes; -1 if none -/
def firstIx {α : Type} (p : α → Bool) (l : List α) : Int :=
  match l.findIdx? p with
  | some i => i
  | none => -1

end Go.Proofs.Ytbpaigpjffdcbaa
