/-
  The program: Run, its answer in one form.
-/
import Derived.Test.YtbpaigpjffdcbaaRun
namespace Go.Proofs.Ytbpaigpjffdcbaa
open Go.RowKit Go.Sort Go.Maps

theorem eql_nil {P : Program} {t e : TypeId} (ht : P.underlying t = some (.slice e)) (w : World) : (binOp .eql t (.slice none 0 0) (.slice none 0 0)).run P w = .ok (.bool true) w := by
  have h : ∀ d : Nat, (Op.equalIn (d + 1) t (.slice none 0 0) (.slice none 0 0)).run P w = .ok true w := fun d => by
    simp [Op.equalIn, run_underlying ht]
  simp only [binOp]
  simp [Op.equal, Op.maxDepth, h 9999]

theorem run_any2 (m : Mdl) (lv rv sv : Value) (R : List RuleV) (B : Nat) (en : Int) (w : World) (h : ModelAt w B lv rv sv m R) (hB : B ≤ w.heap.size) (hne : ∀ r ∈ m.rules, r.es.length ≤ 5864062014634) :
    Calls Try.prog 20 #[.agg #[.int .i64 m.procs, .int .i64 m.states, .int .i64 m.loads, lv, rv, sv], .int .i64 en] w fun e w' => Below w.heap.size w w' ∧ ∃ s l : Value, e = .returned (.tuple #[s, l, .int .i64 (answer m en).1, .int .i64 (answer m en).2]) ∧
      (answer m en ≠ (0, 0) → s = .slice none 0 0 ∧ l = .slice none 0 0) ∧
      (answer m en = (0, 0) → ∃ sb lb k L, s = .slice (some ⟨sb, 0, none⟩) (np m) (np m) ∧ l = .slice (some ⟨lb, 0, none⟩) (np m) (np m) ∧ RunAt w' m en sb lb k L) := by
  refine (run_any m lv rv sv R B en w h hB hne).mono ?_
  rintro e w' ⟨g, ⟨ha, rfl⟩ | ⟨ha, sb, lb, k, L, rfl, hR⟩⟩
  · exact ⟨g, _, _, rfl, fun _ => ⟨rfl, rfl⟩, fun e => absurd e ha⟩
  · exact ⟨g, _, _, by rw [ha], fun e => absurd ha e, fun _ => ⟨sb, lb, k, L, rfl, rfl, hR⟩⟩

theorem run_in2 (m : Mdl) (lv rv sv : Value) (R : List RuleV) (B : Nat) (en : Int) (w : World) (h : ModelAt w B lv rv sv m R) (hB : B ≤ w.heap.size) (hne : ∀ r ∈ m.rules, r.es.length ≤ 5864062014634) :
    Calls Try.prog 20 #[.agg #[.int .i64 m.procs, .int .i64 m.states, .int .i64 m.loads, lv, rv, sv], .int .i64 en] w fun e w' => Below w.heap.size w w' ∧ ∃ s l : Value, e = .returned (.tuple #[s, l, .int .i64 (answer m en).1, .int .i64 (answer m en).2]) ∧
      (answer m en ≠ (0, 0) → s = .slice none 0 0 ∧ l = .slice none 0 0) ∧
      (answer m en = (0, 0) → ∃ sb lb k L, s = .slice (some ⟨sb, 0, none⟩) (np m) (np m) ∧ l = .slice (some ⟨lb, 0, none⟩) (np m) (np m) ∧ RunIn w.heap.size w' m en sb lb k L) := by
  refine (run_in m lv rv sv R B en w h hB hne).mono ?_
  rintro e w' ⟨g, ⟨ha, rfl⟩ | ⟨ha, sb, lb, k, L, rfl, hR⟩⟩
  · exact ⟨g, _, _, rfl, fun _ => ⟨rfl, rfl⟩, fun e => absurd e ha⟩
  · exact ⟨g, _, _, by rw [ha], fun e => absurd ha e, fun _ => ⟨sb, lb, k, L, rfl, rfl, hR⟩⟩

end Go.Proofs.Ytbpaigpjffdcbaa
