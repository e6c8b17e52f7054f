/-
  The statement Moves, proved: every model, every end, all steps.
-/
import Derived.Test.YtkobkilfbbalaaaRows
import Derived.Test.YtkobkilfbbalaaaK18
import Derived.Test.YtkobkilfbbalaaaK11
namespace Go.Proofs.Ytkobkilfbbalaaa
open Go.ChangeShapes Go.WideShapes Go.ChangeAt Go.RowKit Go.Deep

theorem Try.own : ownKnob Try.prog.godebug = none := by kernel_rfl
theorem Try.laidOut : laidOutB Try.prog = true := by kernel_rfl
theorem cells_n : Try.prog.cellsOf 3 = 1 := by kernel_rfl
theorem bytes_n : Try.prog.bytesOf 3 = 8 := by kernel_rfl

set_option maxRecDepth 100000 in
theorem moves_lifted (os : Os) (started : os.Started) (H : Type) (enc : TypeId × Value → H) :
    ReturnsInHanded {} Try.checked os 8 .any (Rows.movesSpec.pre6 enc Try.prog Try.f8 Rows.movesRow.domain false) (Rows.movesSpec.post enc Try.prog Try.f8 false true false false) := by
  refine returnsInHanded_of_change_sized (C := Try.checked) Try.own started (by kernel_rfl) Try.func8
    (ChangeSpec.witness6 (enc := enc) (C := Try.checked) false ⟨#[], #[.agg #[.int .i64 0, .int .i64 0, .int .i64 0, .slice none 0 0, .slice none 0 0, .slice none 0 0], .int .i64 0, .slice none 0 0], []⟩ 8 (by kernel_rfl) (by kernel_rfl) (by kernel_rfl) (by kernel_rfl)) ?_
  intro W base args ds gs before hval0 hW _ hsz0 _
  have hsz : (DataW.weightsEach Try.prog (Try.f8.params.toList ++ Rows.movesSpec.plain.varTypes Try.prog) (ds ++ gs)).all (· ≤ reachBytes) = true := hsz0
  clear hsz0
  have hval : ∀ (j : Nat) t v, Try.f8.params[j]? = some t → args[j]? = some v → Value.okWide Try.prog W .any base t v := hval0
  have hW' := hW
  obtain ⟨p, q, hA0, hV, rfl, _, _⟩ := hW
  have hA : DataW.TrodAll enc Try.prog W 0 (fun _ => true) true Try.f8.params.toList args.toList ds p := hA0
  rw [Try.params8] at hA hval hsz
  obtain ⟨v0, v1, v2, d0, d1, d2, p0, p1, p2, rfl, rfl, rfl, h0, h1, h2⟩ := trodAll_three hA
  obtain ⟨rfl, rfl⟩ := trodVars_none hV
  obtain ⟨cs, rfl, _⟩ := okWide_struct Try.underlying26 (hval 0 26 v0 rfl rfl)
  obtain ⟨y, rfl, rfl, rfl, wy⟩ := open_int Try.underlying3 (hval 1 3 v1 rfl rfl) h1
  obtain ⟨a0, len, cap, rfl⟩ := okWide_slice Try.underlying55 (hval 2 55 v2 rfl rfl)
  have h0k := h0
  have h2k := h2
  obtain ⟨fuel, hf⟩ := h0
  obtain ⟨fuel2, hf2⟩ := h2
  clear hA0 hval0
  simp only [List.append_nil] at hW'
  have hlt : ∀ z ∈ p0, z.block < W.heap.size := fun z hz => hW'.lt z (by simp [hz])
  have hlt2 : ∀ z ∈ p2, z.block < W.heap.size := fun z hz => hW'.lt z (by simp [hz])
  have hargs : ∀ (W' : World), Below W.heap.size W W' → DataW.Trod enc Try.prog W' 0 (fun b => decide (b < W.heap.size)) true 26 (.agg cs) d0 p0 :=
    fun W' hn => Below.trod Try.laidOut (by kernel_rfl) (of_decide_eq_true (by kernel_rfl)) h0k hn hlt
  have hargs2 : ∀ (W' : World), Below W.heap.size W W' → DataW.Trod enc Try.prog W' 0 (fun b => decide (b < W.heap.size)) true 55 (.slice a0 len cap) d2 p2 :=
    fun W' hn => Below.trod Try.laidOut (by kernel_rfl) (of_decide_eq_true (by kernel_rfl)) h2k hn hlt2
  have hsm : Small 26 d0 := fun n hn => by
    have := List.all_eq_true.1 hsz n (DataW.weights_mem_each (j := 0) rfl rfl n hn)
    simpa using this
  have hsm2 : Small 55 d2 := fun n hn => by
    have := List.all_eq_true.1 hsz n (DataW.weights_mem_each (j := 2) rfl rfl n hn)
    simpa using this
  obtain ⟨m, lv, rv, sv, R, hcs, hM, b1, b2, b3, b4⟩ := model_cells hf hsm
  have hcs' : cs = #[.int .i64 m.procs, .int .i64 m.states, .int .i64 m.loads, lv, rv, sv] := by
    cases cs
    simpa [Value.cells] using hcs
  subst hcs'
  obtain ⟨tv, steps, hcs2, hT, hsz2⟩ := rows_open (sz := 1) intC (by omega) (fun _ => rfl) Try.underlying55 cells_n (fun _ _ => True) (fun f cs y hy => by obtain ⟨o, ho, _⟩ := DataW.trod_int Try.underlying3 hy; exact ⟨o, ho, trivial⟩) hf2
  have htv : tv = .slice a0 len cap := by simp [Value.cells] at hcs2; exact hcs2.symm
  subst htv
  have b5 : steps.length * 8 ≤ 140737488351232 := by
    rcases hsz2 with e | ⟨elems, sp, e1, e2, _⟩
    · rw [e]; simp
    · have e1 : d2 = .slice elems sp := e1
      rw [e1] at hsm2
      have := (Small.slice Try.underlying55 hsm2).1
      rw [bytes_n, e2] at this
      simp only [reachBytes] at this
      omega
  refine (moves_any W m lv rv sv (.slice a0 len cap) R steps y hM hT b1 b2 b3 b4 b5).mono fun e W' ⟨he, hnx⟩ => ?_
  subst he
  have hfin := trodAll_mk3 (hargs _ hnx) (shut_int (enc := enc) (w := W') (base := 0) (spare := fun b => decide (b < W.heap.size)) (held := true) Try.underlying3 wy) (hargs2 _ hnx)
  simp only [List.nil_append] at hfin
  exact ⟨_, rfl, _, _, _, [], p0 ++ p2, [], hW', trodAll_mk1 (shut_bool Try.underlying4 true), hfin, rfl, hnx.frame _, fun h => by cases h⟩

theorem moves_holds : Rows.MovesSaid :=
  OpenClaim.holds_of_wide 8 Try.f8 rfl rfl rfl rfl rfl rfl rfl ⟨rfl, rfl, rfl, rfl, rfl⟩ rfl rfl rfl rfl rfl (by kernel_rfl) Try.func8 (by kernel_rfl)
    (of_decide_eq_true (by kernel_rfl)) (by unfold Func.isWrapper; first | (rw [if_pos (by decide +kernel)]; kernel_rfl) | (rw [if_neg (by decide +kernel)]; exact ⟨rfl, rfl⟩))
    (fun os started H enc _ => moves_lifted os started H enc)

#print axioms moves_holds
end Go.Proofs.Ytkobkilfbbalaaa

