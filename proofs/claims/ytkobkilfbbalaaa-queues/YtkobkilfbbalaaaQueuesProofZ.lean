/-
  The statement Queues, proved: every width, every other width, every script.
-/
import Derived.Test.YtkobkilfbbalaaaRows
import Derived.Test.YtkobkilfbbalaaaQueues1
import Derived.ProofKit
import Derived.SizedLaws
import Derived.Deep.Slices
import Derived.Deep.Strs
import Derived.Lib.SmallJoins
namespace Go.Proofs.Ytkobkilfbbalaaa
open Go.ChangeShapes Go.WideShapes Go.ChangeAt Go.RowKit Go.Deep

theorem Try.own : ownKnob Try.prog.godebug = none := by kernel_rfl
theorem Try.laidOut : laidOutB Try.prog = true := by kernel_rfl
theorem cellsOp : Try.prog.cellsOf 49 = 6 := by kernel_rfl
theorem cellsInt : Try.prog.cellsOf 3 = 1 := by kernel_rfl
theorem cellsRItem : Try.prog.cellsOf 47 = 4 := by kernel_rfl
theorem bytesOp : Try.prog.bytesOf 49 = 48 := by kernel_rfl

theorem inInt_of_wf {t : Int} (h : (Lit.int .i64 t).wf = true) : InInt t := by
  have h1 : IntKind.i64.min = -9223372036854775808 := rfl
  have h2 : IntKind.i64.max = 9223372036854775807 := rfl
  simp only [Lit.wf, Bool.and_eq_true, decide_eq_true_eq] at h
  unfold InInt
  omega

theorem six {cs : List Value} (h : cs.length = 6) : ∃ a b c d e f, cs = [a, b, c, d, e, f] := by
  match cs, h with
  | [a, b, c, d, e, f], _ => exact ⟨a, b, c, d, e, f, rfl⟩

/-- a step of the script, out of its reading -/
theorem op_cells {H : Type} {enc : TypeId × Value → H} {w : World} {base : Nat} {spare : Nat → Bool} {held : Bool} {fuel : Nat} {cs : List Value} {x : DataW H × List MemPlace} (h : DataW.trod enc Try.prog w base spare held fuel 49 cs = some x) :
    ∃ o : OpX, cs = [.int .i64 o.kind, .int .i64 o.w, .int .i64 o.x.t, .int .i64 o.x.f, .int .i64 o.x.s, .int .i64 o.x.l] ∧ InInt o.x.t := by
  obtain ⟨y0, y1, y2, n, _, hl, t0, t1, t2⟩ := trod_struct3 Try.underlying49 h
  rw [cellsOp] at hl
  obtain ⟨a, b, c, d, e, f, rfl⟩ := six hl
  simp only [cellsInt, cellsRItem] at t0 t1 t2
  obtain ⟨k, e0, _, _⟩ := DataW.trod_int Try.underlying3 t0
  obtain ⟨k1, e1, _, _⟩ := DataW.trod_int Try.underlying3 t1
  obtain ⟨z0, z1, z2, z3, m, _, _, s0, s1, s2, s3⟩ := Joins.trod_struct4 Try.underlying47 t2
  simp only [cellsInt] at s0 s1 s2 s3
  obtain ⟨i0, f0, _, w0⟩ := DataW.trod_int Try.underlying3 s0
  obtain ⟨i1, f1, _, _⟩ := DataW.trod_int Try.underlying3 s1
  obtain ⟨i2, f2, _, _⟩ := DataW.trod_int Try.underlying3 s2
  obtain ⟨i3, f3, _, _⟩ := DataW.trod_int Try.underlying3 s3
  simp at e0 e1 f0 f1 f2 f3
  subst e0 e1 f0 f1 f2 f3
  exact ⟨⟨k, k1, ⟨i0, i1, i2, i3⟩⟩, rfl, inInt_of_wf w0⟩

theorem list_of_fn {α : Type} (n : Nat) (p : Nat → α → Prop) (h : ∀ i, i < n → ∃ x, p i x) : ∃ l : List α, l.length = n ∧ ∀ (j : Nat) (x : α), l[j]? = some x → p j x := by
  induction n with
  | zero => exact ⟨[], rfl, fun j x hx => by simp at hx⟩
  | succ n ih =>
    obtain ⟨l, h1, h2⟩ := ih (fun i hi => h i (by omega))
    obtain ⟨y, hy⟩ := h n (by omega)
    refine ⟨l ++ [y], by simp [h1], fun j x hx => ?_⟩
    by_cases hj : j < l.length
    · rw [List.getElem?_append_left hj] at hx; exact h2 j x hx
    · rw [List.getElem?_append_right (by omega)] at hx
      have : j = n := by
        have := get_lt hx
        simp at this; omega
      subst this
      have e : j - l.length = 0 := by omega
      rw [e] at hx
      simp at hx
      rw [← hx]; exact hy

set_option maxRecDepth 100000 in
theorem queues_lifted (os : Os) (started : os.Started) (H : Type) (enc : TypeId × Value → H) :
    ReturnsInHanded {} Try.checked os 4 .any (Rows.queuesSpec.pre6 enc Try.prog Try.f4 Rows.queuesRow.domain false) (Rows.queuesSpec.post enc Try.prog Try.f4 false true false false) := by
  refine returnsInHanded_of_change_sized (C := Try.checked) Try.own started (by kernel_rfl) Try.func4
    (ChangeSpec.witness6 (enc := enc) (C := Try.checked) false ⟨#[], #[.int .i64 0, .int .i64 0, .slice none 0 0], []⟩ 8 (by kernel_rfl) (by kernel_rfl) (by kernel_rfl) (by kernel_rfl)) ?_
  intro W base args ds gs before hval0 hW _ hsz0 _
  have hsz : (DataW.weightsEach Try.prog (Try.f4.params.toList ++ Rows.queuesSpec.plain.varTypes Try.prog) (ds ++ gs)).all (· ≤ reachBytes) = true := hsz0
  clear hsz0
  have hval : ∀ (j : Nat) t v, Try.f4.params[j]? = some t → args[j]? = some v → Value.okWide Try.prog W .any base t v := hval0
  have hW' := hW
  obtain ⟨p, q, hA0, hV, rfl, _, _⟩ := hW
  have hA : DataW.TrodAll enc Try.prog W 0 (fun _ => true) true Try.f4.params.toList args.toList ds p := hA0
  rw [Try.params4] at hA hval hsz
  obtain ⟨v0, v1, v2, d0, d1, d2, p0, p1, p2, rfl, rfl, rfl, h0, h1, h2⟩ := trodAll_three hA
  obtain ⟨rfl, rfl⟩ := trodVars_none hV
  obtain ⟨x, rfl, rfl, rfl, wx⟩ := open_int Try.underlying3 (hval 0 3 v0 rfl rfl) h0
  obtain ⟨y, rfl, rfl, rfl, wy⟩ := open_int Try.underlying3 (hval 1 3 v1 rfl rfl) h1
  obtain ⟨a0, len, cap, rfl⟩ := okWide_slice Try.underlying41 (hval 2 41 v2 rfl rfl)
  have h2k := h2
  obtain ⟨fuel, hf⟩ := h2
  clear hA0 hval0
  simp only [List.append_nil, List.nil_append] at hW'
  have hlt : ∀ z ∈ p2, z.block < W.heap.size := fun z hz => by simpa using hW'.lt z hz
  have hargs : ∀ (W' : World), Below W.heap.size W W' → DataW.Trod enc Try.prog W' 0 (fun b => decide (b < W.heap.size)) true 41 (.slice a0 len cap) d2 p2 :=
    fun W' hn => Below.trod Try.laidOut (by kernel_rfl) (of_decide_eq_true (by kernel_rfl)) h2k hn hlt
  -- the script as a list
  have hscript : ∃ ops : List OpX, len = ops.length ∧ ScriptIs W a0 ops ∧ ops.length ≤ 2932031007317 := by
    rcases open_slice Try.underlying41 hf with ⟨hcs, hx⟩ | ⟨a, len', cap', m, n, D, Pl, hcs, _, hl, hm, hmm, hx, hel⟩
    · simp [Value.cells] at hcs
      obtain ⟨rfl, rfl, rfl⟩ := hcs
      exact ⟨[], rfl, ⟨fun h => absurd rfl h, fun o ho => by simp at ho⟩, by simp⟩
    · simp [Value.cells] at hcs
      obtain ⟨rfl, rfl, rfl⟩ := hcs
      simp only [if_true] at hmm
      subst hmm
      simp only [Prod.mk.injEq] at hx
      obtain ⟨hd2, hp2⟩ := hx
      subst hd2
      have hreach : len * 48 ≤ 140737488351232 := by
        have := sized_slice hsz (j := 2) (t := 41) (e := 49) rfl rfl Try.underlying41
        rw [bytesOp] at this
        simp only [List.length_map, List.length_range, reachBytes] at this
        omega
      obtain ⟨ab, ao, asp⟩ := a
      rw [cellsOp] at hel
      obtain ⟨ops, hol, hop⟩ := list_of_fn (α := OpX) len (fun i o => W.cells? 0 ((⟨ab, ao, asp⟩ : Addr).add (i * 6)) 6 = some [.int .i64 o.kind, .int .i64 o.w, .int .i64 o.x.t, .int .i64 o.x.f, .int .i64 o.x.s, .int .i64 o.x.l] ∧ InInt o.x.t) (fun i hi => by
        obtain ⟨cs', c1, c2⟩ := hel i (by omega)
        obtain ⟨o, ho, hin⟩ := op_cells c2
        exact ⟨o, by rw [c1, ho], hin⟩)
      refine ⟨ops, hol.symm, ⟨fun hne => ?_, fun o ho => ?_⟩, by omega⟩
      · have hpos : 0 < ops.length := List.length_pos_iff.2 hne
        obtain ⟨o0, ho0⟩ := get_of_lt hpos
        have c00 := (World.cells?_some (hop 0 o0 ho0).1).2.2 0 (by omega)
        have hspot : asp = none := by
          have := World.cell?_spot (c00.trans rfl)
          simpa [Addr.add] using this
        subst hspot
        refine ⟨ab, ao, rfl, ?_, fun j o ho => ?_⟩
        · refine block_lt_of_cell (a := (⟨ab, ao, none⟩ : Addr)) (v := .int .i64 o0.kind) ?_
          simpa [Addr.add] using c00
        · have hc := (World.cells?_some (hop j o ho).1).2.2
          have g : ∀ k, ((⟨ab, ao, none⟩ : Addr).add (j * 6)).add k = ⟨ab, ao + j * 6 + k, none⟩ := by
            intro k; rw [add_plain, add_plain]
          have c0 := hc 0 (by omega)
          have c1 := hc 1 (by omega)
          have c2 := hc 2 (by omega)
          have c3 := hc 3 (by omega)
          have c4 := hc 4 (by omega)
          have c5 := hc 5 (by omega)
          rw [g] at c0 c1 c2 c3 c4 c5
          exact ⟨c0, c1, c2, c3, c4, c5⟩
      · obtain ⟨j, hj⟩ := List.getElem?_of_mem ho
        exact (hop j o hj).2
  obtain ⟨ops, rfl, hS, hN⟩ := hscript
  refine (queues_any W x y a0 cap ops hS hN).mono fun e W' ⟨he, hnx⟩ => ?_
  subst he
  have hfin := trodAll_mk3 (shut_int (enc := enc) (w := W') (base := 0) (spare := fun b => decide (b < W.heap.size)) (held := true) Try.underlying3 wx) (shut_int Try.underlying3 wy) (hargs _ hnx)
  simp only [List.nil_append] at hfin
  exact ⟨_, rfl, _, _, _, [], p2, [], hW', trodAll_mk1 (shut_bool Try.underlying4 true), hfin, rfl, hnx.frame _, fun h => by cases h⟩

theorem queues_holds : Rows.QueuesSaid :=
  OpenClaim.holds_of_wide 4 Try.f4 rfl rfl rfl rfl rfl rfl rfl ⟨rfl, rfl, rfl, rfl, rfl⟩ rfl rfl rfl rfl rfl (by kernel_rfl) Try.func4 (by kernel_rfl)
    (of_decide_eq_true (by kernel_rfl)) (by unfold Func.isWrapper; first | (rw [if_pos (by decide +kernel)]; kernel_rfl) | (rw [if_neg (by decide +kernel)]; exact ⟨rfl, rfl⟩))
    (fun os started H enc _ => queues_lifted os started H enc)

#print axioms queues_holds
end Go.Proofs.Ytkobkilfbbalaaa

