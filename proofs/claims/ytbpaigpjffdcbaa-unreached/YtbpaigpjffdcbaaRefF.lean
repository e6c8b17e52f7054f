/-
  The reference: Check.
-/
import Derived.Test.YtbpaigpjffdcbaaRefE
namespace Go.Proofs.Ytbpaigpjffdcbaa
open Go.RowKit Go.Sort Go.Maps

def fewB (m : Mdl) (en : Int) : Bool := (List.range 301).any (fun k => (nx en (atK m en k).wait).isNone)
theorem fewB_iff {m : Mdl} {en : Int} : fewB m en = true ↔ Few m en := by
  simp only [fewB, List.any_eq_true, List.mem_range, Option.isNone_iff_eq_none, Few]
  constructor
  · rintro ⟨k, h1, h2⟩; exact ⟨k, by omega, h2⟩
  · rintro ⟨k, h1, h2⟩; exact ⟨k, by omega, h2⟩

/-- what P3 asks: the error and its number -/
def answer (m : Mdl) (en : Int) : Int × Int := if valid m en = (0, 0) then (if fewB m en = true then (0, 0) else (6, 0)) else valid m en

theorem valid_zero {m : Mdl} {en : Int} (h : (valid m en).1 = 0) : valid m en = (0, 0) := by
  unfold valid at h ⊢
  split <;> rename_i h1
  · rw [if_pos h1] at h
    split <;> rename_i h2
    · rw [if_pos h2] at h; cases h
    · rw [if_neg h2] at h
      split <;> rename_i h3
      · rw [if_pos h3] at h; cases h
      · rw [if_neg h3] at h
        split <;> rename_i h4
        · rw [if_pos h4] at h; cases h
        · rw [if_neg h4] at h
          split <;> rename_i h5
          · rfl
          · rw [if_neg h5] at h; cases h
  · rw [if_neg h1] at h; cases h

set_option maxRecDepth 100000 in
set_option maxHeartbeats 4000000 in
theorem refCheck_any (m : Mdl) (lv rv sv : Value) (R : List RuleV) (B : Nat) (en : Int) (w : World) (h : ModelAt w B lv rv sv m R) (hB : B ≤ w.heap.size) (hne : ∀ r ∈ m.rules, r.es.length ≤ 5864062014634) :
    Calls Try.prog 15 #[.agg #[.int .i64 m.procs, .int .i64 m.states, .int .i64 m.loads, lv, rv, sv], .int .i64 en] w fun e w' => ∃ pv : Value, e = .returned (.tuple #[pv, .int .i64 (answer m en).1, .int .i64 (answer m en).2]) ∧ Below w.heap.size w w' ∧
      (answer m en = (0, 0) → ∃ B' cb k wv sb qb db kb D C, pv = .pointer (some ⟨cb, 0, none⟩) ∧ w.heap.size ≤ B' ∧ k ≤ 300 ∧ nx en (atK m en k).wait = none ∧ CAt w' B' cb lv rv sv m wv sb qb db kb D C (atK m en k)) := by
  have hB0 : Below w.heap.size w (w.alloc (.cells #[.int .i64 m.procs, .int .i64 m.states, .int .i64 m.loads, lv, rv, sv] 26)) := (Below.refl _ _).alloc (Nat.le_refl _) _
  have hmb : Blk (w.alloc (.cells #[.int .i64 m.procs, .int .i64 m.states, .int .i64 m.loads, lv, rv, sv] 26)) w.heap.size #[.int .i64 m.procs, .int .i64 m.states, .int .i64 m.loads, lv, rv, sv] 26 := heap_alloc_new w _
  have hval := refValid_any m lv rv sv R B en (w.alloc (.cells #[.int .i64 m.procs, .int .i64 m.states, .int .i64 m.loads, lv, rv, sv] 26)) (h.keep (hB0.mono hB)) (Nat.le_trans hB hB0.size) hne
  go_enter Try.func15, Try.ntmps15
  go_wp2_with fail
  refine hval.mono ?_
  rintro e1 w1 ⟨rfl, hb1⟩
  clear hval
  have hb01 : Below w.heap.size w w1 := hB0.trans (hb1.mono hB0.size)
  have hm1 : Blk w1 w.heap.size #[.int .i64 m.procs, .int .i64 m.states, .int .i64 m.loads, lv, rv, sv] 26 := hmb.keep (kept_of_below' hb1) (fun e => e)
  by_cases hv : (valid m en).1 = 0
  · have hv2 := valid_zero hv
    have Hv : Hid (valid m en = (0, 0)) := hv2
    rw [hv2]
    obtain ⟨hR, hen0, hen⟩ := right_of_valid hv2
    have hseq := sequel_any m lv rv sv R B en w1 (h.keep (hb01.mono hB)) (Nat.le_trans hB hb01.size) hR hen
    have c0 : w1.cell? ⟨w.heap.size, 0, none⟩ = some (.int .i64 m.procs) := hm1.cell 0
    have c1 : w1.cell? ⟨w.heap.size, 1, none⟩ = some (.int .i64 m.states) := hm1.cell 1
    have c2 : w1.cell? ⟨w.heap.size, 2, none⟩ = some (.int .i64 m.loads) := hm1.cell 2
    have c3 : w1.cell? ⟨w.heap.size, 3, none⟩ = some lv := hm1.cell 3
    have c4 : w1.cell? ⟨w.heap.size, 4, none⟩ = some rv := hm1.cell 4
    have c5 : w1.cell? ⟨w.heap.size, 5, none⟩ = some sv := hm1.cell 5
    clear hv hv2
    go_wp2_with fail
    refine hseq.mono ?_
    rintro e2 w2 ⟨cb, b, rfl, hb2, hcase⟩
    clear hseq
    have hb02 : Below w.heap.size w w2 := hb01.trans (hb2.mono hb01.size)
    rcases hcase with ⟨rfl, k, wv, sb, qb, db, kb, D, C, hk, hnx, hC⟩ | ⟨rfl, hfew⟩
    · have Hans : Hid (answer m en = (0, 0)) := by show _ = _; rw [answer, if_pos Hv.out, if_pos (fewB_iff.2 ⟨k, hk, hnx⟩)]
      go_wp2
      go_ret3
      refine ⟨.pointer (some ⟨cb, 0, none⟩), by rw [Hans.out]; rfl, hb02, fun _ => ⟨_, cb, k, wv, sb, qb, db, kb, D, C, rfl, ?_, hk, hnx, hC⟩⟩
      have := hb01.size; omega
    · have Hans : Hid (answer m en = (6, 0)) := by
        show _ = _
        rw [answer, if_pos Hv.out, if_neg]
        intro hf; exact hfew (fewB_iff.1 hf)
      clear hfew
      go_wp2
      go_ret3
      refine ⟨.pointer none, by rw [Hans.out]; rfl, hb02, fun hx => ?_⟩
      rw [Hans.out] at hx
      cases hx
  · have Hans : Hid (answer m en = valid m en) := by
      show _ = _
      rw [answer, if_neg]
      intro hx; exact hv (by rw [hx])
    have Hnz : Hid (valid m en ≠ (0, 0)) := fun hx => hv (by rw [hx])
    go_wp2
    go_ret3
    refine ⟨.pointer none, by rw [Hans.out]; rfl, hb01, fun hx => ?_⟩
    rw [Hans.out] at hx
    exact absurd hx Hnz.out

end Go.Proofs.Ytbpaigpjffdcbaa
