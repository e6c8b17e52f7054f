/-
  slices.IndexFunc with the program's own functions, and what rests on it.
-/
import Derived.Test.YtbpaigpjffdcbaaChk1
namespace Go.Proofs.Ytbpaigpjffdcbaa
open Go.RowKit Go.Sort Go.Maps

theorem firstIx_at {α : Type} {p : α → Bool} : ∀ {l : List α} {i : Nat} {x : α}, l[i]? = some x → p x = true → (∀ (j : Nat) (y : α), j < i → l[j]? = some y → p y = false) → firstIx p l = (i : Int) := by
  intro l i x hx hp hb
  have : l.findIdx? p = some i := by
    rw [List.findIdx?_eq_some_iff_getElem]
    have hi := get_lt hx
    refine ⟨hi, ?_, fun j hj => ?_⟩
    · have := List.getElem?_eq_getElem hi
      rw [hx] at this
      simp only [Option.some.injEq] at this
      rw [← this]; exact hp
    · have hj' : j < l.length := by omega
      have := hb j _ hj (List.getElem?_eq_getElem hj')
      simp [this]
  simp [firstIx, this]

theorem firstIx_none {α : Type} {p : α → Bool} {l : List α} (h : ∀ (j : Nat) (y : α), l[j]? = some y → p y = false) : firstIx p l = -1 := by
  have : l.findIdx? p = none := by
    rw [List.findIdx?_eq_none_iff]
    intro x hx
    obtain ⟨j, hj⟩ := List.getElem?_of_mem hx
    simp [h j x hj]
  simp [firstIx, this]

set_option maxRecDepth 100000 in
set_option maxHeartbeats 4000000 in
theorem ixLink_any (w : World) (B : Nat) (v : Value) (l : List MLink) (p : MLink → Bool) (cap : Array Value) (h : LinksAt w B v l) (hn : l.length ≤ 5864062014634)
    (hp : ∀ x ∈ l, ∀ W, Gr w W → Calls Try.prog 52 (#[.agg #[.int .i64 x.f, .int .i64 x.t, .int .i64 x.a]] ++ cap) W fun e w' => e = .returned (.bool (p x)) ∧ Gr w w') :
    Calls Try.prog 51 #[v, .func (.func 52) #[] cap] w fun e w' => e = .returned (.int .i64 (firstIx p l)) ∧ Below w.heap.size w w' := by
  obtain ⟨ao, c, rfl, _⟩ := RowsAt.form h
  go_enter Try.func51, Try.ntmps51
  go_wp2
  go_loopw [8] (fun si wr => ∃ i : Nat, si = .int .i64 i ∧ i ≤ l.length ∧ (∀ (j : Nat) (y : MLink), j < i → l[j]? = some y → p y = false) ∧ Gr w wr) (fun si _ => l.length - (intOf si).toNat)
  case atStart => exact ⟨0, rfl, Nat.zero_le _, fun j y hj => by omega, Gr.refl _⟩
  case round =>
    obtain ⟨i, rfl, hi, hb, hg⟩ := hrel
    by_cases hlt : i < l.length
    · obtain ⟨x, hx⟩ := get_of_lt hlt
      obtain ⟨b, off, rfl, hbB, hc⟩ := RowsAt.at_ h hx
      have c0 := hg.cell (hc 0 (.int .i64 x.f) rfl)
      have c1 := hg.cell (hc 1 (.int .i64 x.t) rfl)
      have c2 := hg.cell (hc 2 (.int .i64 x.a) rfl)
      simp only [Nat.add_zero] at c0
      have hcall := hp x (List.mem_of_getElem? hx) wr hg
      have Hx : Hid (l[i]? = some x) := hx
      clear hc hx
      cases hv : p x with
      | false =>
        have Hv : Hid (p x = false) := hv
        rw [hv] at hcall
        clear hv
        go_wp2_with fail
        refine hcall.mono ?_
        rintro e w1 ⟨rfl, g1⟩
        go_wp2
        go_roundw
        case rel =>
          refine ⟨i + 1, by go_num, hlt, fun j y hj hy => ?_, g1⟩
          by_cases hji : j = i
          · subst hji; rw [Hx.out] at hy; cases hy; exact Hv.out
          · exact hb j y (by omega) hy
        case measure => simp [intOf]; omega
      | true =>
        have Hv : Hid (p x = true) := hv
        rw [hv] at hcall
        clear hv
        go_wp2_with fail
        refine hcall.mono ?_
        rintro e w1 ⟨rfl, g1⟩
        go_wp2
        go_ret
        exact ⟨ret_int (firstIx_at Hx.out Hv.out hb).symm, g1⟩
    · go_wp2
      go_ret
      exact ⟨ret_int (firstIx_none (fun j y hy => hb j y (by have := get_lt hy; omega) hy)).symm, hg⟩

set_option maxRecDepth 100000 in
set_option maxHeartbeats 4000000 in
theorem ixStart_any (w : World) (B : Nat) (v : Value) (l : List MStart) (p : MStart → Bool) (cap : Array Value) (h : StartsAt w B v l) (hn : l.length ≤ 5864062014634)
    (hp : ∀ x ∈ l, ∀ W, Gr w W → Calls Try.prog 57 (#[.agg #[.int .i64 x.p, .int .i64 x.t, .int .i64 x.l]] ++ cap) W fun e w' => e = .returned (.bool (p x)) ∧ Gr w w') :
    Calls Try.prog 56 #[v, .func (.func 57) #[] cap] w fun e w' => e = .returned (.int .i64 (firstIx p l)) ∧ Below w.heap.size w w' := by
  obtain ⟨ao, c, rfl, _⟩ := RowsAt.form h
  go_enter Try.func56, Try.ntmps56
  go_wp2
  go_loopw [8] (fun si wr => ∃ i : Nat, si = .int .i64 i ∧ i ≤ l.length ∧ (∀ (j : Nat) (y : MStart), j < i → l[j]? = some y → p y = false) ∧ Gr w wr) (fun si _ => l.length - (intOf si).toNat)
  case atStart => exact ⟨0, rfl, Nat.zero_le _, fun j y hj => by omega, Gr.refl _⟩
  case round =>
    obtain ⟨i, rfl, hi, hb, hg⟩ := hrel
    by_cases hlt : i < l.length
    · obtain ⟨x, hx⟩ := get_of_lt hlt
      obtain ⟨b, off, rfl, hbB, hc⟩ := RowsAt.at_ h hx
      have c0 := hg.cell (hc 0 (.int .i64 x.p) rfl)
      have c1 := hg.cell (hc 1 (.int .i64 x.t) rfl)
      have c2 := hg.cell (hc 2 (.int .i64 x.l) rfl)
      simp only [Nat.add_zero] at c0
      have hcall := hp x (List.mem_of_getElem? hx) wr hg
      have Hx : Hid (l[i]? = some x) := hx
      clear hc hx
      cases hv : p x with
      | false =>
        have Hv : Hid (p x = false) := hv
        rw [hv] at hcall
        clear hv
        go_wp2_with fail
        refine hcall.mono ?_
        rintro e w1 ⟨rfl, g1⟩
        go_wp2
        go_roundw
        case rel =>
          refine ⟨i + 1, by go_num, hlt, fun j y hj hy => ?_, g1⟩
          by_cases hji : j = i
          · subst hji; rw [Hx.out] at hy; cases hy; exact Hv.out
          · exact hb j y (by omega) hy
        case measure => simp [intOf]; omega
      | true =>
        have Hv : Hid (p x = true) := hv
        rw [hv] at hcall
        clear hv
        go_wp2_with fail
        refine hcall.mono ?_
        rintro e w1 ⟨rfl, g1⟩
        go_wp2
        go_ret
        exact ⟨ret_int (firstIx_at Hx.out Hv.out hb).symm, g1⟩
    · go_wp2
      go_ret
      exact ⟨ret_int (firstIx_none (fun j y hy => hb j y (by have := get_lt hy; omega) hy)).symm, hg⟩

set_option maxRecDepth 100000 in
set_option maxHeartbeats 4000000 in
theorem ixEmit_any (w : World) (B : Nat) (v : Value) (l : List MEmit) (p : MEmit → Bool) (cap : Array Value) (h : EmitsAt w B v l) (hn : l.length ≤ 5864062014634)
    (hp : ∀ x ∈ l, ∀ W, Gr w W → Calls Try.prog 74 (#[.agg #[.int .i64 x.k, .int .i64 x.d, .int .i64 x.l]] ++ cap) W fun e w' => e = .returned (.bool (p x)) ∧ Gr w w') :
    Calls Try.prog 86 #[v, .func (.func 74) #[] cap] w fun e w' => e = .returned (.int .i64 (firstIx p l)) ∧ Below w.heap.size w w' := by
  obtain ⟨ao, c, rfl, _⟩ := RowsAt.form h
  go_enter Try.func86, Try.ntmps86
  go_wp2
  go_loopw [8] (fun si wr => ∃ i : Nat, si = .int .i64 i ∧ i ≤ l.length ∧ (∀ (j : Nat) (y : MEmit), j < i → l[j]? = some y → p y = false) ∧ Gr w wr) (fun si _ => l.length - (intOf si).toNat)
  case atStart => exact ⟨0, rfl, Nat.zero_le _, fun j y hj => by omega, Gr.refl _⟩
  case round =>
    obtain ⟨i, rfl, hi, hb, hg⟩ := hrel
    by_cases hlt : i < l.length
    · obtain ⟨x, hx⟩ := get_of_lt hlt
      obtain ⟨b, off, rfl, hbB, hc⟩ := RowsAt.at_ h hx
      have c0 := hg.cell (hc 0 (.int .i64 x.k) rfl)
      have c1 := hg.cell (hc 1 (.int .i64 x.d) rfl)
      have c2 := hg.cell (hc 2 (.int .i64 x.l) rfl)
      simp only [Nat.add_zero] at c0
      have hcall := hp x (List.mem_of_getElem? hx) wr hg
      have Hx : Hid (l[i]? = some x) := hx
      clear hc hx
      cases hv : p x with
      | false =>
        have Hv : Hid (p x = false) := hv
        rw [hv] at hcall
        clear hv
        go_wp2_with fail
        refine hcall.mono ?_
        rintro e w1 ⟨rfl, g1⟩
        go_wp2
        go_roundw
        case rel =>
          refine ⟨i + 1, by go_num, hlt, fun j y hj hy => ?_, g1⟩
          by_cases hji : j = i
          · subst hji; rw [Hx.out] at hy; cases hy; exact Hv.out
          · exact hb j y (by omega) hy
        case measure => simp [intOf]; omega
      | true =>
        have Hv : Hid (p x = true) := hv
        rw [hv] at hcall
        clear hv
        go_wp2_with fail
        refine hcall.mono ?_
        rintro e w1 ⟨rfl, g1⟩
        go_wp2
        go_ret
        exact ⟨ret_int (firstIx_at Hx.out Hv.out hb).symm, g1⟩
    · go_wp2
      go_ret
      exact ⟨ret_int (firstIx_none (fun j y hy => hb j y (by have := get_lt hy; omega) hy)).symm, hg⟩

set_option maxRecDepth 100000 in
set_option maxHeartbeats 4000000 in
theorem ixRule_any (w : World) (B : Nat) (v : Value) (l : List RuleV) (p : RuleV → Bool) (cap : Array Value) (h : RowsAt 5 ruleC w B v l) (hn : l.length ≤ 5864062014634)
    (hp : ∀ x ∈ l, ∀ W, Gr w W → Calls Try.prog 77 (#[.agg #[.int .i64 x.r.p, .int .i64 x.r.s, .int .i64 x.r.l, .int .i64 x.r.n, x.ev]] ++ cap) W fun e w' => e = .returned (.bool (p x)) ∧ Gr w w') :
    Calls Try.prog 76 #[v, .func (.func 77) #[] cap] w fun e w' => e = .returned (.int .i64 (firstIx p l)) ∧ Below w.heap.size w w' := by
  obtain ⟨ao, c, rfl, _⟩ := RowsAt.form h
  go_enter Try.func76, Try.ntmps76
  go_wp2
  go_loopw [8] (fun si wr => ∃ i : Nat, si = .int .i64 i ∧ i ≤ l.length ∧ (∀ (j : Nat) (y : RuleV), j < i → l[j]? = some y → p y = false) ∧ Gr w wr) (fun si _ => l.length - (intOf si).toNat)
  case atStart => exact ⟨0, rfl, Nat.zero_le _, fun j y hj => by omega, Gr.refl _⟩
  case round =>
    obtain ⟨i, rfl, hi, hb, hg⟩ := hrel
    by_cases hlt : i < l.length
    · obtain ⟨x, hx⟩ := get_of_lt hlt
      obtain ⟨b, off, rfl, hbB, hc⟩ := RowsAt.at_ h hx
      have c0 := hg.cell (hc 0 (.int .i64 x.r.p) rfl)
      have c1 := hg.cell (hc 1 (.int .i64 x.r.s) rfl)
      have c2 := hg.cell (hc 2 (.int .i64 x.r.l) rfl)
      have c3 := hg.cell (hc 3 (.int .i64 x.r.n) rfl)
      have c4 := hg.cell (hc 4 (x.ev) rfl)
      simp only [Nat.add_zero] at c0
      have hcall := hp x (List.mem_of_getElem? hx) wr hg
      have Hx : Hid (l[i]? = some x) := hx
      clear hc hx
      cases hv : p x with
      | false =>
        have Hv : Hid (p x = false) := hv
        rw [hv] at hcall
        clear hv
        go_wp2_with fail
        refine hcall.mono ?_
        rintro e w1 ⟨rfl, g1⟩
        go_wp2
        go_roundw
        case rel =>
          refine ⟨i + 1, by go_num, hlt, fun j y hj hy => ?_, g1⟩
          by_cases hji : j = i
          · subst hji; rw [Hx.out] at hy; cases hy; exact Hv.out
          · exact hb j y (by omega) hy
        case measure => simp [intOf]; omega
      | true =>
        have Hv : Hid (p x = true) := hv
        rw [hv] at hcall
        clear hv
        go_wp2_with fail
        refine hcall.mono ?_
        rintro e w1 ⟨rfl, g1⟩
        go_wp2
        go_ret
        exact ⟨ret_int (firstIx_at Hx.out Hv.out hb).symm, g1⟩
    · go_wp2
      go_ret
      exact ⟨ret_int (firstIx_none (fun j y hy => hb j y (by have := get_lt hy; omega) hy)).symm, hg⟩

end Go.Proofs.Ytbpaigpjffdcbaa
