/-
  The walks of NewQueue, Len, Least.
-/
import Derived.Test.YtbpaigpjffdcbaaQPush
namespace Go.Proofs.Ytbpaigpjffdcbaa
open Go.RowKit Go.Sort Go.Maps

set_option maxRecDepth 100000 in
set_option maxHeartbeats 1000000 in
theorem len_any (w : World) (B qb mb : Nat) (dv : Value) (n : Nat) (ds : List Day) (rest : Array Value) (Tq : TypeId) (width : Int) (count pushed : Nat)
    (h : QCore w B qb mb dv n ds rest Tq width count pushed) :
    Calls Try.prog 19 #[.pointer (some ⟨qb, 0, none⟩)] w fun e w' => e = .returned (.int .i64 count) ∧ w' = w := by
  have c1 : w.cell? ⟨qb, 1, none⟩ = some (.int .i64 count) := (h.blk.cell 1).trans (five_get _ _ _ _ _ rest).2.1
  clear h
  go_enter Try.func19, Try.ntmps19
  go_wp2
  go_ret
  exact ⟨rfl, rfl⟩

/-- a queue that nothing was pushed into -/
theorem QCore.empty (w : World) (B qb mb : Nat) (width : Int) (Tq : TypeId) (rest : Array Value) (hB : B ≤ mb) (hBq : B ≤ qb) (hne : qb ≠ mb) (hm : w.heap[mb]? = some (.map #[] 0)) (hq : Blk w qb (#[.int .i64 width, .int .i64 0, .int .i64 0, .slice none 0 0, .map (some mb)] ++ rest) Tq) :
    QCore w B qb mb (.slice none 0 0) 0 [] rest Tq width ((0 : Nat) : Int) ((0 : Nat) : Int) := by
  refine ⟨hq, ⟨.map [], ?_, ⟨fun x hx => by simp at hx, fun t _ => rfl⟩⟩, DSl.nil _ _, fun k x y _ hx => by simp at hx, fun x hx => by simp at hx, by simp, hBq, hB, fun x hx => by simp at hx, ⟨hne, by simp [Value.ownBlock], by simp [Value.ownBlock], fun x hx => by simp at hx, fun x hx => by simp at hx, fun x hx => by simp at hx, fun x hx => by simp at hx⟩⟩
  obtain ⟨es, clock, hb, r⟩ := World.ownsMap_made (H := Nat) w Try.prog 3 dayR
  have : (w.alloc (.map #[] 0)).heap[w.heap.size]? = some (.map #[] 0) := heap_alloc_new w _
  rw [this] at hb
  cases hb
  exact ⟨_, _, hm, r⟩

set_option maxRecDepth 100000 in
set_option maxHeartbeats 1000000 in
theorem new_any (x : Int) (w : World) :
    Calls Try.prog 17 #[.int .i64 x] w fun e w' => e = .returned (.pointer (some ⟨w.heap.size + 1, 0, none⟩)) ∧ ∃ width : Int, 1 ≤ width ∧ width ≤ 100 ∧ w' = (w.alloc (.map #[] 0)).alloc (.cells #[.int .i64 width, .int .i64 0, .int .i64 0, .slice none 0 0, .map (some w.heap.size)] 115) := by
  have hmm := @run_makeMap Try.prog
  go_enter Try.func17, Try.ntmps17
  go_wp2
  all_goals (go_ret; exact ⟨rfl, _, by omega, by omega, rfl⟩)

set_option maxRecDepth 100000 in
set_option maxHeartbeats 1000000 in
theorem least_none (w : World) (B qb mb : Nat) (dv : Value) (n : Nat) (ds : List Day) (rest : Array Value) (Tq : TypeId) (width : Int) (pushed : Nat)
    (h : QCore w B qb mb dv n ds rest Tq width ((0 : Nat) : Int) pushed) :
    Calls Try.prog 47 #[.pointer (some ⟨qb, 0, none⟩)] w fun e w' => e = .returned (.tuple #[.agg #[.int .i64 0, .int .i64 0, .int .i64 0, .int .i64 0], .bool false]) ∧ Below w.heap.size w w' := by
  have c1 : w.cell? ⟨qb, 1, none⟩ = some (.int .i64 0) := (h.blk.cell 1).trans (five_get _ _ _ _ _ rest).2.1
  have hqb := h.blk.lt
  clear h
  go_enter Try.func47, Try.ntmps47
  go_wp2
  refine bodyPost_ret (v := .tuple #[.agg #[.int .i64 0, .int .i64 0, .int .i64 0, .int .i64 0], .bool false]) (by simp [results, Try.results47, go_sem]) rfl ⟨rfl, ?_⟩
  exact (Below.refl _ _).alloc (Nat.le_refl _) _

/-- where the least entry of a queue lies -/
theorem QCore.top {w : World} {B qb mb : Nat} {dv : Value} {n : Nat} {l : List Day} {x : Day} {rest : Array Value} {Tq : TypeId} {width count pushed : Int} {e : Ent} {r : List Ent}
    (h : QCore w B qb mb dv n (x :: l) rest Tq width count pushed) (he : x.es = e :: r) :
    ∃ g cap gi ci, dv = .slice (some ⟨g, 0, none⟩) (l.length + 1) cap ∧ x.iv = .slice (some ⟨gi, 0, none⟩) (r.length + 1) ci ∧ DArr w g 156 cap ((x :: l).map Day.dy) ∧ EArr w gi 160 ci x.es ∧ cap ≤ maxLen ∧ ci ≤ maxLen ∧ B ≤ g ∧ B ≤ gi := by
  rcases h.days.cases with ⟨_, h2⟩ | ⟨g, cap, h1, h2, h3, h4⟩
  · simp at h2
  · obtain ⟨_, hE, _⟩ := h.each x (by simp)
    rcases hE.cases with ⟨_, h6⟩ | ⟨gi, ci, h5, h6, h7, h8⟩
    · rw [he] at h6; simp at h6
    · exact ⟨g, cap, gi, ci, by simpa using h1, by rw [h5, he]; rfl, h4, h8, h3, h7, h2, h6⟩

set_option maxRecDepth 100000 in
set_option maxHeartbeats 1000000 in
theorem least_some (w : World) (B qb mb : Nat) (dv : Value) (n : Nat) (l : List Day) (x : Day) (rest : Array Value) (Tq : TypeId) (width : Int) (count pushed : Nat) (e : Ent) (r : List Ent)
    (h : QCore w B qb mb dv n (x :: l) rest Tq width count pushed) (hc : 0 < count) (he : x.es = e :: r) :
    Calls Try.prog 47 #[.pointer (some ⟨qb, 0, none⟩)] w fun e' w' => e' = .returned (.tuple #[.agg #[.int .i64 e.it.t, .int .i64 e.it.f, .int .i64 e.it.s, .int .i64 e.it.l], .bool true]) ∧ Below w.heap.size w w' := by
  obtain ⟨g, cap, gi, ci, rfl, hiv, hA, hE, _⟩ := h.top he
  have c1 : w.cell? ⟨qb, 1, none⟩ = some (.int .i64 count) := (h.blk.cell 1).trans (five_get _ _ _ _ _ rest).2.1
  have c3 : w.cell? ⟨qb, 3, none⟩ = some (.slice (some ⟨g, 0, none⟩) (l.length + 1) cap) := (h.blk.cell 3).trans (five_get _ _ _ _ _ rest).2.2.2.1
  have d0 : w.cell? ⟨g, 0, none⟩ = some (.pointer (some ⟨x.kb, 0, none⟩)) := hA.cells (j := 0) (e := x.dy) rfl
  have k1 : w.cell? ⟨x.kb, 1, none⟩ = some (.slice (some ⟨gi, 0, none⟩) (r.length + 1) ci) := by
    rw [(h.each x (by simp)).1.cell, ← hiv]; rfl
  obtain ⟨e0, e1, e2, e3, _⟩ := hE.cells (j := 0) (e := e) (by rw [he]; rfl)
  simp only [Nat.zero_mul, Nat.zero_add] at e0 e1 e2 e3
  have hqb := h.blk.lt
  have hgl := hA.lt
  have hgi := hE.lt
  have hkb := (h.each x (by simp)).1.lt
  have hc0 : ((count : Int) == 0) = false := beq_eq_false_iff_ne.2 (by omega)
  clear h hA hE hiv
  go_enter Try.func47, Try.ntmps47
  go_wp2
  refine bodyPost_ret (v := .tuple #[.agg #[.int .i64 e.it.t, .int .i64 e.it.f, .int .i64 e.it.s, .int .i64 e.it.l], .bool true]) (by simp [results, Try.results47, go_sem]) rfl ⟨rfl, ?_⟩
  exact (Below.refl _ _).alloc (Nat.le_refl _) _

end Go.Proofs.Ytbpaigpjffdcbaa
