/-
  firstWrongLink, firstWrongStart, findRule, rightEmit, rightRule, firstWrongRule.
-/
import Derived.Test.YtbpaigpjffdcbaaChk2
namespace Go.Proofs.Ytbpaigpjffdcbaa
open Go.RowKit Go.Sort Go.Maps

set_option maxRecDepth 100000 in
set_option maxHeartbeats 1000000 in
theorem fwLink_any (m : Mdl) (hm : Lim m) (lv rv sv : Value) (R : List RuleV) (B : Nat) (w : World) (h : ModelAt w B lv rv sv m R) (hB : B ≤ w.heap.size) :
    Calls Try.prog 34 #[.agg #[.int .i64 m.procs, .int .i64 m.states, .int .i64 m.loads, lv, rv, sv]] w fun e w' => e = .returned (.int .i64 (firstIx (linkBad m) m.links)) ∧ Below w.heap.size w w' := by
  have hmb : Blk (w.alloc (.cells #[.int .i64 m.procs, .int .i64 m.states, .int .i64 m.loads, lv, rv, sv] 31)) w.heap.size #[.int .i64 m.procs, .int .i64 m.states, .int .i64 m.loads, lv, rv, sv] 31 := heap_alloc_new w _
  have hB0 : Below w.heap.size w (w.alloc (.cells #[.int .i64 m.procs, .int .i64 m.states, .int .i64 m.loads, lv, rv, sv] 31)) := (Below.refl _ _).alloc (Nat.le_refl _) _
  have hix := ixLink_any (w.alloc (.cells #[.int .i64 m.procs, .int .i64 m.states, .int .i64 m.loads, lv, rv, sv] 31)) B _ m.links (linkBad m) #[.pointer (some ⟨w.heap.size, 0, none⟩)] (RowsAt.keep h.links (hB0.mono hB)) (by have := hm.nl; omega) (fun x _ W hW => (linkFn_any m hm lv rv sv w.heap.size x W (hmb.keep hW.kept (fun e => e))).mono fun e w' ⟨he, hb⟩ => ⟨he, hW.trans hb⟩)
  clear h hmb
  go_enter Try.func34, Try.ntmps34
  go_wp2_with fail
  refine hix.mono ?_
  rintro e w1 ⟨rfl, g1⟩
  go_wp2
  go_ret
  exact ⟨rfl, Gr.below g1 hB0⟩

set_option maxRecDepth 100000 in
set_option maxHeartbeats 1000000 in
theorem fwStart_any (m : Mdl) (hm : Lim m) (lv rv sv : Value) (R : List RuleV) (B : Nat) (w : World) (h : ModelAt w B lv rv sv m R) (hB : B ≤ w.heap.size) :
    Calls Try.prog 36 #[.agg #[.int .i64 m.procs, .int .i64 m.states, .int .i64 m.loads, lv, rv, sv]] w fun e w' => e = .returned (.int .i64 (firstIx (startBad m) m.starts)) ∧ Below w.heap.size w w' := by
  have hmb : Blk (w.alloc (.cells #[.int .i64 m.procs, .int .i64 m.states, .int .i64 m.loads, lv, rv, sv] 31)) w.heap.size #[.int .i64 m.procs, .int .i64 m.states, .int .i64 m.loads, lv, rv, sv] 31 := heap_alloc_new w _
  have hB0 : Below w.heap.size w (w.alloc (.cells #[.int .i64 m.procs, .int .i64 m.states, .int .i64 m.loads, lv, rv, sv] 31)) := (Below.refl _ _).alloc (Nat.le_refl _) _
  have hix := ixStart_any (w.alloc (.cells #[.int .i64 m.procs, .int .i64 m.states, .int .i64 m.loads, lv, rv, sv] 31)) B _ m.starts (startBad m) #[.pointer (some ⟨w.heap.size, 0, none⟩)] (RowsAt.keep h.starts (hB0.mono hB)) (by have := hm.ns; omega) (fun x _ W hW => (startFn_any m hm lv rv sv w.heap.size x W (hmb.keep hW.kept (fun e => e))).mono fun e w' ⟨he, hb⟩ => ⟨he, hW.trans hb⟩)
  clear h hmb
  go_enter Try.func36, Try.ntmps36
  go_wp2_with fail
  refine hix.mono ?_
  rintro e w1 ⟨rfl, g1⟩
  go_wp2
  go_ret
  exact ⟨rfl, Gr.below g1 hB0⟩

set_option maxRecDepth 100000 in
set_option maxHeartbeats 1000000 in
theorem findRule_any (p s l : Int) (v : Value) (R : List RuleV) (B : Nat) (w : World) (h : RowsAt 5 ruleC w B v R) (hB : B ≤ w.heap.size) (hn : R.length ≤ 40) :
    Calls Try.prog 55 #[v, .int .i64 p, .int .i64 s, .int .i64 l] w fun e w' => e = .returned (.int .i64 (firstIx (fun x => ruleFor p s l x.r) R)) ∧ Below w.heap.size w w' := by
  have hB0 : Below w.heap.size w (((w.alloc (.cells #[.int .i64 p] 3)).alloc (.cells #[.int .i64 s] 3)).alloc (.cells #[.int .i64 l] 3)) := (((Below.refl _ _).alloc (Nat.le_refl _) _).alloc (by simp) _).alloc (by simp; omega) _
  have b1 : (((w.alloc (.cells #[.int .i64 p] 3)).alloc (.cells #[.int .i64 s] 3)).alloc (.cells #[.int .i64 l] 3)).cell? ⟨w.heap.size, 0, none⟩ = some (.int .i64 p) := by go_simp
  have b2 : (((w.alloc (.cells #[.int .i64 p] 3)).alloc (.cells #[.int .i64 s] 3)).alloc (.cells #[.int .i64 l] 3)).cell? ⟨w.heap.size + 1, 0, none⟩ = some (.int .i64 s) := by go_simp
  have b3 : (((w.alloc (.cells #[.int .i64 p] 3)).alloc (.cells #[.int .i64 s] 3)).alloc (.cells #[.int .i64 l] 3)).cell? ⟨w.heap.size + 1 + 1, 0, none⟩ = some (.int .i64 l) := by go_simp
  have hix := ixRule_any (((w.alloc (.cells #[.int .i64 p] 3)).alloc (.cells #[.int .i64 s] 3)).alloc (.cells #[.int .i64 l] 3)) B v R (fun x => ruleFor p s l x.r) #[.pointer (some ⟨w.heap.size, 0, none⟩), .pointer (some ⟨w.heap.size + 1, 0, none⟩), .pointer (some ⟨w.heap.size + 1 + 1, 0, none⟩)] (h.keep (hB0.mono hB)) (by omega)
    (fun x _ W hW => (findFn_any w.heap.size (w.heap.size + 1) (w.heap.size + 1 + 1) p s l x W (hW.cell b1) (hW.cell b2) (hW.cell b3)).mono fun e w' ⟨he, hb⟩ => ⟨he, hW.trans hb⟩)
  clear h b1 b2 b3
  go_enter Try.func55, Try.ntmps55
  go_wp2_with fail
  refine hix.mono ?_
  rintro e w1 ⟨rfl, g1⟩
  go_wp2
  go_ret
  exact ⟨rfl, Gr.below g1 hB0⟩

end Go.Proofs.Ytbpaigpjffdcbaa
