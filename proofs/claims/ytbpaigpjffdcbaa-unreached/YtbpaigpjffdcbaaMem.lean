/-
  What a call does to memory: blocks that may turn, blocks that stay; rows of entries and of pointers in a block of the program's own.
-/
import Derived.Test.YtbpaigpjffdcbaaProg
import Derived.Test.YtbpaigpjffdcbaaOrd
import Derived.Test.YtbpaigpjffdcbaaHeap
import Derived.WalkKit
import Derived.Below
import Derived.Deep.Draws
namespace Go.Proofs.Ytbpaigpjffdcbaa
open Go.RowKit

/-- All blocks that were there, but for those of F, are as they were. -/
structure KeptF (F : Nat → Prop) (w w' : World) : Prop where
  os : w'.os = w.os
  tape : w'.tape = w.tape
  output : w'.output = w.output
  size : w.heap.size ≤ w'.heap.size
  block : ∀ k, k < w.heap.size → ¬ F k → w'.heap[k]? = w.heap[k]?

theorem KeptF.refl (F : Nat → Prop) (w : World) : KeptF F w w := ⟨rfl, rfl, rfl, Nat.le_refl _, fun _ _ _ => rfl⟩

/-- the second step may also turn what the first one made -/
theorem KeptF.trans' {F G : Nat → Prop} {a b c : World} (h : KeptF F a b) (k : KeptF G b c) (hG : ∀ i, i < a.heap.size → G i → F i) : KeptF F a c :=
  ⟨k.os.trans h.os, k.tape.trans h.tape, k.output.trans h.output, Nat.le_trans h.size k.size,
   fun i hi hF => (k.block i (Nat.lt_of_lt_of_le hi h.size) (fun g => hF (hG i hi g))).trans (h.block i hi hF)⟩

theorem KeptF.trans {F : Nat → Prop} {a b c : World} (h : KeptF F a b) (k : KeptF F b c) : KeptF F a c := h.trans' k (fun _ _ g => g)

theorem KeptF.weaken {F G : Nat → Prop} {a b : World} (h : KeptF F a b) (hF : ∀ i, i < a.heap.size → F i → G i) : KeptF G a b :=
  ⟨h.os, h.tape, h.output, h.size, fun i hi hG => h.block i hi (fun f => hG (hF i hi f))⟩

theorem KeptF.of_below {F : Nat → Prop} {w w' : World} (h : Below w.heap.size w w') : KeptF F w w' :=
  ⟨h.os, h.tape, h.output, h.size, fun i hi _ => h.block i hi⟩

theorem KeptF.below {F : Nat → Prop} {w w' : World} {B : Nat} (h : KeptF F w w') (hB : B ≤ w.heap.size) (hF : ∀ i, F i → B ≤ i) : Below B w w' :=
  ⟨h.os, h.tape, h.output, h.size, fun i hi => h.block i (by omega) (fun f => by have := hF i f; omega)⟩

theorem KeptF.drew {F : Nat → Prop} {a w : World} (h : KeptF F a w) : KeptF F a w.drew := ⟨h.os, h.tape, h.output, h.size, h.block⟩
theorem KeptF.drewN {F : Nat → Prop} {a w : World} (h : KeptF F a w) (n : Nat) : KeptF F a (w.drewN n) := ⟨h.os, h.tape, h.output, h.size, h.block⟩

theorem KeptF.setCell {F : Nat → Prop} {a w : World} (h : KeptF F a w) {p : Addr} (hp : F p.block ∨ a.heap.size ≤ p.block) (u : Value) : KeptF F a (w.setCell p u) :=
  ⟨h.os, h.tape, h.output, by have := h.size; simp [World.setCell]; exact this, fun k hk hF => by
    rw [Below.heap_setCell _ _ _ _ (by intro e; subst e; rcases hp with hp | hp; exact hF hp; omega)]; exact h.block k hk hF⟩

theorem KeptF.alloc {F : Nat → Prop} {a w : World} (h : KeptF F a w) (o : Obj) : KeptF F a (w.alloc o) :=
  ⟨h.os, h.tape, h.output, by have := h.size; simp; omega, fun k hk hF => by
    rw [Below.heap_alloc _ _ _ (by have := h.size; omega)]; exact h.block k hk hF⟩

theorem KeptF.cell {F : Nat → Prop} {w w' : World} (h : KeptF F w w') {p : Addr} (hp : p.block < w.heap.size) (hF : ¬ F p.block) : w'.cell? p = w.cell? p := World.cell?_of_block (w := w) (h.block p.block hp hF)
theorem KeptF.frozen {F : Nat → Prop} {w w' : World} (h : KeptF F w w') {p : Addr} (hp : p.block < w.heap.size) (hF : ¬ F p.block) : w'.frozen? p = w.frozen? p := World.frozen?_of_block (w := w) (h.block p.block hp hF)

/-- A block of cells of the program's own: never frozen. -/
def Blk (w : World) (b : Nat) (c : Array Value) (T : TypeId) : Prop := w.heap[b]? = some (.cells c T (0, 0))

theorem Blk.cell {w : World} {b : Nat} {c : Array Value} {T : TypeId} (h : Blk w b c T) (o : Nat) : w.cell? ⟨b, o, none⟩ = c[o]? := by
  have h' : w.heap[b]? = some (.cells c T (0, 0)) := h
  simp [World.cell?, h']
theorem Blk.frozen {w : World} {b : Nat} {c : Array Value} {T : TypeId} (h : Blk w b c T) (o : Nat) : w.frozen? ⟨b, o, none⟩ = false := by
  have h' : w.heap[b]? = some (.cells c T (0, 0)) := h
  simp [World.frozen?, h']
theorem Blk.lt {w : World} {b : Nat} {c : Array Value} {T : TypeId} (h : Blk w b c T) : b < w.heap.size := by
  have h' : w.heap[b]? = some (.cells c T (0, 0)) := h
  rcases Nat.lt_or_ge b w.heap.size with k | k
  · exact k
  · rw [Array.getElem?_eq_none k] at h'; cases h'
theorem Blk.drew {w : World} {b : Nat} {c : Array Value} {T : TypeId} (h : Blk w b c T) : Blk w.drew b c T := h
theorem Blk.keep {F : Nat → Prop} {w w' : World} {b : Nat} {c : Array Value} {T : TypeId} (h : Blk w b c T) (k : KeptF F w w') (hF : ¬ F b) : Blk w' b c T :=
  (k.block b h.lt hF).trans h
theorem Blk.set {w : World} {b : Nat} {c : Array Value} {T : TypeId} (h : Blk w b c T) (o : Nat) (v : Value) : Blk (w.setCell ⟨b, o, none⟩ v) b (c.setIfInBounds o v) T := by
  have h' : w.heap[b]? = some (.cells c T (0, 0)) := h
  show (w.heap.modify b _)[b]? = _
  simp [Array.getElem?_modify, h']
theorem Blk.set_other {w : World} {b : Nat} {c : Array Value} {T : TypeId} (h : Blk w b c T) {a : Addr} (hne : b ≠ a.block) (v : Value) : Blk (w.setCell a v) b c T :=
  (Below.heap_setCell w a v b hne).trans h
theorem Blk.alloc {w : World} {b : Nat} {c : Array Value} {T : TypeId} (h : Blk w b c T) (o : Obj) : Blk (w.alloc o) b c T :=
  (Below.heap_alloc w o b h.lt).trans h

/-- Cells from 5j on hold entry j, for every entry of the list. -/
def ERow (c : Array Value) (d : List Ent) : Prop := ∀ (j : Nat) (e : Ent), d[j]? = some e →
  c[j * 5]? = some (.int .i64 e.it.t) ∧ c[j * 5 + 1]? = some (.int .i64 e.it.f) ∧ c[j * 5 + 2]? = some (.int .i64 e.it.s) ∧ c[j * 5 + 3]? = some (.int .i64 e.it.l) ∧ c[j * 5 + 4]? = some (.int .i64 e.r)

/-- A block that holds a row of entries, with room for cap. -/
structure EArr (w : World) (b : Nat) (T : TypeId) (cap : Nat) (d : List Ent) : Prop where
  ex : ∃ c, Blk w b c T ∧ c.size = cap * 5 ∧ ERow c d
  fits : d.length ≤ cap

theorem EArr.lt {w : World} {b : Nat} {T : TypeId} {cap : Nat} {d : List Ent} (h : EArr w b T cap d) : b < w.heap.size := by
  obtain ⟨c, h1, _⟩ := h.ex; exact h1.lt
theorem EArr.frozen {w : World} {b : Nat} {T : TypeId} {cap : Nat} {d : List Ent} (h : EArr w b T cap d) (o : Nat) : w.frozen? ⟨b, o, none⟩ = false := by
  obtain ⟨c, h1, _⟩ := h.ex; exact h1.frozen o
theorem EArr.cells {w : World} {b : Nat} {T : TypeId} {cap : Nat} {d : List Ent} (h : EArr w b T cap d) {j : Nat} {e : Ent} (he : d[j]? = some e) :
    w.cell? ⟨b, j * 5, none⟩ = some (.int .i64 e.it.t) ∧ w.cell? ⟨b, j * 5 + 1, none⟩ = some (.int .i64 e.it.f) ∧ w.cell? ⟨b, j * 5 + 2, none⟩ = some (.int .i64 e.it.s) ∧ w.cell? ⟨b, j * 5 + 3, none⟩ = some (.int .i64 e.it.l) ∧ w.cell? ⟨b, j * 5 + 4, none⟩ = some (.int .i64 e.r) := by
  obtain ⟨c, h1, _, h2⟩ := h.ex
  rw [h1.cell, h1.cell, h1.cell, h1.cell, h1.cell]
  exact h2 j e he
theorem EArr.keep {F : Nat → Prop} {w w' : World} {b : Nat} {T : TypeId} {cap : Nat} {d : List Ent} (h : EArr w b T cap d) (k : KeptF F w w') (hF : ¬ F b) : EArr w' b T cap d := by
  obtain ⟨c, h1, h2⟩ := h.ex
  exact ⟨⟨c, h1.keep k hF, h2⟩, h.fits⟩
theorem EArr.drew {w : World} {b : Nat} {T : TypeId} {cap : Nat} {d : List Ent} (h : EArr w b T cap d) : EArr w.drew b T cap d := ⟨h.ex, h.fits⟩

/-- five cells are stored: entry e at place j -/
def setEnt (w : World) (b j : Nat) (e : Ent) : World :=
  ((((w.setCell ⟨b, j * 5, none⟩ (.int .i64 e.it.t)).setCell ⟨b, j * 5 + 1, none⟩ (.int .i64 e.it.f)).setCell ⟨b, j * 5 + 2, none⟩ (.int .i64 e.it.s)).setCell ⟨b, j * 5 + 3, none⟩ (.int .i64 e.it.l)).setCell ⟨b, j * 5 + 4, none⟩ (.int .i64 e.r)

def setEntC (c : Array Value) (j : Nat) (e : Ent) : Array Value :=
  ((((c.setIfInBounds (j * 5) (.int .i64 e.it.t)).setIfInBounds (j * 5 + 1) (.int .i64 e.it.f)).setIfInBounds (j * 5 + 2) (.int .i64 e.it.s)).setIfInBounds (j * 5 + 3) (.int .i64 e.it.l)).setIfInBounds (j * 5 + 4) (.int .i64 e.r)

theorem Blk.setEnt {w : World} {b : Nat} {c : Array Value} {T : TypeId} (h : Blk w b c T) (j : Nat) (e : Ent) : Blk (setEnt w b j e) b (setEntC c j e) T :=
  ((((h.set _ _).set _ _).set _ _).set _ _).set _ _

theorem setEntC_size (c : Array Value) (j : Nat) (e : Ent) : (setEntC c j e).size = c.size := by simp [setEntC]

theorem setEntC_other (c : Array Value) (j : Nat) (e : Ent) (o : Nat) (h : o < j * 5 ∨ j * 5 + 5 ≤ o) : (setEntC c j e)[o]? = c[o]? := by
  unfold setEntC
  rw [Array.getElem?_setIfInBounds_ne (by omega), Array.getElem?_setIfInBounds_ne (by omega), Array.getElem?_setIfInBounds_ne (by omega), Array.getElem?_setIfInBounds_ne (by omega), Array.getElem?_setIfInBounds_ne (by omega)]

theorem setEntC_same (c : Array Value) (j : Nat) (e : Ent) (h : j * 5 + 5 ≤ c.size) :
    (setEntC c j e)[j * 5]? = some (.int .i64 e.it.t) ∧ (setEntC c j e)[j * 5 + 1]? = some (.int .i64 e.it.f) ∧ (setEntC c j e)[j * 5 + 2]? = some (.int .i64 e.it.s) ∧ (setEntC c j e)[j * 5 + 3]? = some (.int .i64 e.it.l) ∧ (setEntC c j e)[j * 5 + 4]? = some (.int .i64 e.r) := by
  unfold setEntC
  refine ⟨?_, ?_, ?_, ?_, ?_⟩
  · rw [Array.getElem?_setIfInBounds_ne (by omega), Array.getElem?_setIfInBounds_ne (by omega), Array.getElem?_setIfInBounds_ne (by omega), Array.getElem?_setIfInBounds_ne (by omega), Array.getElem?_setIfInBounds_self_of_lt (by omega)]
  · rw [Array.getElem?_setIfInBounds_ne (by omega), Array.getElem?_setIfInBounds_ne (by omega), Array.getElem?_setIfInBounds_ne (by omega), Array.getElem?_setIfInBounds_self_of_lt (by simp; omega)]
  · rw [Array.getElem?_setIfInBounds_ne (by omega), Array.getElem?_setIfInBounds_ne (by omega), Array.getElem?_setIfInBounds_self_of_lt (by simp; omega)]
  · rw [Array.getElem?_setIfInBounds_ne (by omega), Array.getElem?_setIfInBounds_self_of_lt (by simp; omega)]
  · rw [Array.getElem?_setIfInBounds_self_of_lt (by simp; omega)]

theorem ERow.set {c : Array Value} {d : List Ent} (h : ERow c d) {j : Nat} (e : Ent) (hj : j * 5 + 5 ≤ c.size) : ERow (setEntC c j e) (d.set j e) := by
  intro k x hx
  by_cases hk : k = j
  · subst hk
    have hlt : k < d.length := by have := get_lt hx; simpa using this
    rw [List.getElem?_set_self hlt] at hx
    cases hx
    exact setEntC_same c k e hj
  · rw [List.getElem?_set_ne (by omega)] at hx
    have := h k x hx
    rw [setEntC_other _ _ _ _ (by omega), setEntC_other _ _ _ _ (by omega), setEntC_other _ _ _ _ (by omega), setEntC_other _ _ _ _ (by omega), setEntC_other _ _ _ _ (by omega)]
    exact this

theorem EArr.set {w : World} {b : Nat} {T : TypeId} {cap : Nat} {d : List Ent} (h : EArr w b T cap d) {j : Nat} (e : Ent) (hj : j < cap) : EArr (setEnt w b j e) b T cap (d.set j e) := by
  obtain ⟨c, h1, h2, h3⟩ := h.ex
  exact ⟨⟨_, h1.setEnt j e, by rw [setEntC_size]; exact h2, h3.set e (by omega)⟩, by have := h.fits; simpa using this⟩

theorem KeptF.setEnt {F : Nat → Prop} {a w : World} (h : KeptF F a w) {b : Nat} (hp : F b ∨ a.heap.size ≤ b) (j : Nat) (e : Ent) : KeptF F a (setEnt w b j e) :=
  ((((h.setCell (p := ⟨b, j * 5, none⟩) hp _).setCell (p := ⟨b, j * 5 + 1, none⟩) hp _).setCell (p := ⟨b, j * 5 + 2, none⟩) hp _).setCell (p := ⟨b, j * 5 + 3, none⟩) hp _).setCell (p := ⟨b, j * 5 + 4, none⟩) hp _

theorem EArr.swap {w : World} {b : Nat} {T : TypeId} {cap : Nat} {d : List Ent} (h : EArr w b T cap d) {i j : Nat} {x y : Ent} (hi : d[i]? = some x) (hj : d[j]? = some y) :
    EArr (Go.Proofs.Ytbpaigpjffdcbaa.setEnt (Go.Proofs.Ytbpaigpjffdcbaa.setEnt w b i y) b j x) b T cap (swapL d i j x y) := by
  have := get_lt hi; have := get_lt hj; have := h.fits
  exact (h.set y (by omega)).set x (by omega)

/-- A day: its block and its date. -/
structure Dy where
  kb : Nat
  date : Int
def Dy.ltB (x y : Dy) : Bool := decide (x.date < y.date)
def DRow (c : Array Value) (d : List Dy) : Prop := ∀ (j : Nat) (e : Dy), d[j]? = some e → c[j]? = some (Value.pointer (some ⟨e.kb, 0, none⟩))

structure DArr (w : World) (b : Nat) (T : TypeId) (cap : Nat) (d : List Dy) : Prop where
  ex : ∃ c, Blk w b c T ∧ c.size = cap ∧ DRow c d
  fits : d.length ≤ cap

theorem DArr.lt {w : World} {b : Nat} {T : TypeId} {cap : Nat} {d : List Dy} (h : DArr w b T cap d) : b < w.heap.size := by
  obtain ⟨c, h1, _⟩ := h.ex; exact h1.lt
theorem DArr.frozen {w : World} {b : Nat} {T : TypeId} {cap : Nat} {d : List Dy} (h : DArr w b T cap d) (o : Nat) : w.frozen? ⟨b, o, none⟩ = false := by
  obtain ⟨c, h1, _⟩ := h.ex; exact h1.frozen o
theorem DArr.cells {w : World} {b : Nat} {T : TypeId} {cap : Nat} {d : List Dy} (h : DArr w b T cap d) {j : Nat} {e : Dy} (he : d[j]? = some e) :
    w.cell? ⟨b, j, none⟩ = some (.pointer (some ⟨e.kb, 0, none⟩)) := by
  obtain ⟨c, h1, _, h2⟩ := h.ex
  rw [h1.cell]
  exact h2 j e he
theorem DArr.keep {F : Nat → Prop} {w w' : World} {b : Nat} {T : TypeId} {cap : Nat} {d : List Dy} (h : DArr w b T cap d) (k : KeptF F w w') (hF : ¬ F b) : DArr w' b T cap d := by
  obtain ⟨c, h1, h2⟩ := h.ex
  exact ⟨⟨c, h1.keep k hF, h2⟩, h.fits⟩
theorem DArr.drew {w : World} {b : Nat} {T : TypeId} {cap : Nat} {d : List Dy} (h : DArr w b T cap d) : DArr w.drew b T cap d := ⟨h.ex, h.fits⟩
theorem DArr.set {w : World} {b : Nat} {T : TypeId} {cap : Nat} {d : List Dy} (h : DArr w b T cap d) {j : Nat} (e : Dy) (hj : j < cap) : DArr (w.setCell ⟨b, j, none⟩ (.pointer (some ⟨e.kb, 0, none⟩))) b T cap (d.set j e) := by
  obtain ⟨c, h1, h2, h3⟩ := h.ex
  refine ⟨⟨_, h1.set j _, by simpa using h2, fun k x hx => ?_⟩, by have := h.fits; simpa using this⟩
  by_cases hk : k = j
  · subst hk
    have hlt : k < d.length := by have := get_lt hx; simpa using this
    rw [List.getElem?_set_self hlt] at hx
    cases hx
    rw [Array.getElem?_setIfInBounds_self_of_lt (by omega)]
  · rw [List.getElem?_set_ne (by omega)] at hx
    rw [Array.getElem?_setIfInBounds_ne (by omega)]
    exact h3 k x hx
theorem DArr.swap {w : World} {b : Nat} {T : TypeId} {cap : Nat} {d : List Dy} (h : DArr w b T cap d) {i j : Nat} {x y : Dy} (hi : d[i]? = some x) (hj : d[j]? = some y) :
    DArr ((w.setCell ⟨b, i, none⟩ (.pointer (some ⟨y.kb, 0, none⟩))).setCell ⟨b, j, none⟩ (.pointer (some ⟨x.kb, 0, none⟩))) b T cap (swapL d i j x y) := by
  have := get_lt hi; have := get_lt hj; have := h.fits
  exact (h.set y (by omega)).set x (by omega)

/-- every day's own block tells its date -/
def Dated (w : World) (d : List Dy) : Prop := ∀ e, e ∈ d → w.cell? ⟨e.kb, 0, none⟩ = some (.int .i64 e.date)

theorem Ent.orderly : Orderly Ent.ltB := ⟨fun _ _ h => Ent.ltB_asymm h, fun _ _ _ h k => Ent.ltB_neg_trans h k⟩
theorem Dy.orderly : Orderly Dy.ltB := by
  refine ⟨fun x y h => ?_, fun x y z h k => ?_⟩
  · simp only [Dy.ltB, decide_eq_true_eq, decide_eq_false_iff_not] at *; omega
  · simp only [Dy.ltB, decide_eq_false_iff_not] at *; omega

end Go.Proofs.Ytbpaigpjffdcbaa
