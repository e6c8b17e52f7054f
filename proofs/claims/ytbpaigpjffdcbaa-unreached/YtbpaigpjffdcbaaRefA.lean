/-
  The reference: within, below, Find, emits.
-/
import Derived.Test.YtbpaigpjffdcbaaChk5
namespace Go.Proofs.Ytbpaigpjffdcbaa
open Go.RowKit Go.Sort Go.Maps

set_option maxHeartbeats 400000 in
theorem refWithin_any (x a b : Int) (w : World) :
    Calls Try.prog 62 #[.int .i64 x, .int .i64 a, .int .i64 b] w fun e w' => e = .returned (.bool (withinB x a b)) ∧ w' = w := by
  by_cases h1 : a ≤ x
  · by_cases h2 : x ≤ b
    · have H := withinB_t h1 h2
      go_enter Try.func62, Try.ntmps62
      go_wp2
      go_ret
      first | exact ⟨ret_bool H.symm, rfl⟩ | exact ⟨rfl, rfl⟩
    · have H := withinB_f2 (a := a) h2
      go_enter Try.func62, Try.ntmps62
      go_wp2
      go_ret
      first | exact ⟨ret_bool H.symm, rfl⟩ | exact ⟨rfl, rfl⟩
  · have H := withinB_f1 (b := b) h1
    go_enter Try.func62, Try.ntmps62
    go_wp2
    go_ret
    first | exact ⟨ret_bool H.symm, rfl⟩ | exact ⟨rfl, rfl⟩

set_option maxHeartbeats 400000 in
theorem refBelow_any (x b : Int) (w : World) :
    Calls Try.prog 63 #[.int .i64 x, .int .i64 b] w fun e w' => e = .returned (.bool (withinB x 0 (b - 1))) ∧ w' = w := by
  by_cases h1 : 0 ≤ x
  · by_cases h2 : x < b
    · have H := withinB_t h1 (show x ≤ b - 1 by omega)
      go_enter Try.func63, Try.ntmps63
      go_wp2
      go_ret
      first | exact ⟨ret_bool H.symm, rfl⟩ | exact ⟨rfl, rfl⟩
    · have H := withinB_f2 (a := 0) (show ¬ x ≤ b - 1 by omega)
      go_enter Try.func63, Try.ntmps63
      go_wp2
      go_ret
      first | exact ⟨ret_bool H.symm, rfl⟩ | exact ⟨rfl, rfl⟩
  · have H := withinB_f1 (b := b - 1) h1
    go_enter Try.func63, Try.ntmps63
    go_wp2
    go_ret
    first | exact ⟨ret_bool H.symm, rfl⟩ | exact ⟨rfl, rfl⟩

set_option maxRecDepth 100000 in
set_option maxHeartbeats 4000000 in
theorem refFind_any (m : Mdl) (lv rv sv : Value) (R : List RuleV) (B : Nat) (p s l : Int) (w : World) (h : RulesAt w B rv R) (hsame : R.map RuleV.r = m.rules) (hB : B ≤ w.heap.size) (hn : m.rules.length ≤ 5864062014634) :
    Calls Try.prog 81 #[.agg #[.int .i64 m.procs, .int .i64 m.states, .int .i64 m.loads, lv, rv, sv], .int .i64 p, .int .i64 s, .int .i64 l] w fun e w' => e = .returned (.int .i64 (firstIx (ruleFor p s l) m.rules)) ∧ Below w.heap.size w w' := by
  obtain ⟨ao, cap, hrv, hcap⟩ := RowsAt.form h.1
  have hrl : R.length = m.rules.length := by rw [← hsame]; simp
  rw [hrl] at hrv hcap
  subst hrv
  have hB0 : Below w.heap.size w (w.alloc (.cells #[.int .i64 m.procs, .int .i64 m.states, .int .i64 m.loads, lv, (.slice ao m.rules.length cap), sv] 26)) := (Below.refl _ _).alloc (Nat.le_refl _) _
  have hmb : Blk (w.alloc (.cells #[.int .i64 m.procs, .int .i64 m.states, .int .i64 m.loads, lv, (.slice ao m.rules.length cap), sv] 26)) w.heap.size #[.int .i64 m.procs, .int .i64 m.states, .int .i64 m.loads, lv, (.slice ao m.rules.length cap), sv] 26 := heap_alloc_new w _
  have R0 := Gr.refl (w.alloc (.cells #[.int .i64 m.procs, .int .i64 m.states, .int .i64 m.loads, lv, (.slice ao m.rules.length cap), sv] 26))
  have k0 := Gr.cells (v := .int .i64 m.procs) (hmb.cell 0)
  have k1 := Gr.cells (v := .int .i64 m.states) (hmb.cell 1)
  have k2 := Gr.cells (v := .int .i64 m.loads) (hmb.cell 2)
  have k3 := Gr.cells (v := lv) (hmb.cell 3)
  have k4 := Gr.cells (v := (.slice ao m.rules.length cap)) (hmb.cell 4)
  have k5 := Gr.cells (v := sv) (hmb.cell 5)
  clear hmb
  go_enter Try.func81, Try.ntmps81
  go_wp2
  go_loopw [9] (fun si wr => ∃ i : Nat, si = .int .i64 i ∧ i ≤ m.rules.length ∧ (∀ (j : Nat) (y : MRule), j < i → m.rules[j]? = some y → ruleFor p s l y = false) ∧ Gr (w.alloc (.cells #[.int .i64 m.procs, .int .i64 m.states, .int .i64 m.loads, lv, (.slice ao m.rules.length cap), sv] 26)) wr) (fun si _ => m.rules.length - (intOf si).toNat)
  case atStart => exact ⟨0, rfl, Nat.zero_le _, fun j y hj => by omega, Gr.refl _⟩
  case round =>
    obtain ⟨i, rfl, hi, hb, hg⟩ := hrel
    have hlw : w.heap.size < wr.heap.size := by have := Below.size hg; simp at this; omega
    by_cases hlt : i < m.rules.length
    · obtain ⟨⟨r, ev⟩, hx⟩ := get_of_lt (d := R) (k := i) (by omega)
      have hE : EmitsAt w B ev r.es := h.2 _ (List.mem_of_getElem? hx)
      have hxr : m.rules[i]? = some r := by rw [← hsame, List.getElem?_map, hx]; rfl
      obtain ⟨aoe, cape, rfl, hcape⟩ := RowsAt.form hE
      obtain ⟨b, off, hao, hbB, hc⟩ := RowsAt.at_ h.1 hx
      subst hao
      have c0 := hg.cell (hB0.cell (p := ⟨b, off + i * 5 + 0, none⟩) (Nat.lt_of_lt_of_le hbB hB) ▸ hc 0 (.int .i64 r.p) rfl)
      have c1 := hg.cell (hB0.cell (p := ⟨b, off + i * 5 + 1, none⟩) (Nat.lt_of_lt_of_le hbB hB) ▸ hc 1 (.int .i64 r.s) rfl)
      have c2 := hg.cell (hB0.cell (p := ⟨b, off + i * 5 + 2, none⟩) (Nat.lt_of_lt_of_le hbB hB) ▸ hc 2 (.int .i64 r.l) rfl)
      have c3 := hg.cell (hB0.cell (p := ⟨b, off + i * 5 + 3, none⟩) (Nat.lt_of_lt_of_le hbB hB) ▸ hc 3 (.int .i64 r.n) rfl)
      have c4 := hg.cell (hB0.cell (p := ⟨b, off + i * 5 + 4, none⟩) (Nat.lt_of_lt_of_le hbB hB) ▸ hc 4 (.slice aoe r.es.length cape) rfl)
      simp only [Nat.add_zero] at c0
      have hgr := hg.alloc (.cells #[.int .i64 r.p, .int .i64 r.s, .int .i64 r.l, .int .i64 r.n, .slice aoe r.es.length cape] 94)
      have Hx : Hid (m.rules[i]? = some r) := hxr
      clear hxr hc hx hE h
      by_cases e1 : r.p = p
      · have n1 : (r.p == p) = true := beq_iff_eq.2 e1
        by_cases e2 : r.s = s
        · have n2 : (r.s == s) = true := beq_iff_eq.2 e2
          by_cases e3 : r.l = l
          · have n3 : (r.l == l) = true := beq_iff_eq.2 e3
            have HF : Hid (ruleFor p s l r = true) := by show _ = _; simp [ruleFor, e1, e2, e3]
            clear e1 e2 e3
            go_wp2
            go_ret
            exact ⟨ret_int (firstIx_at Hx.out HF.out hb).symm, Gr.below hgr hB0⟩
          · have n3 : (r.l == l) = false := beq_eq_false_iff_ne.2 e3
            have HF : Hid (ruleFor p s l r = false) := by show _ = _; simp [ruleFor, e3]
            clear e1 e2 e3
            go_wp2
            go_roundw
            case rel =>
              refine ⟨i + 1, by go_num, hlt, fun j y hj hy => ?_, hgr⟩
              by_cases hji : j = i
              · subst hji; rw [Hx.out] at hy; cases hy; exact HF.out
              · exact hb j y (by omega) hy
            case measure => simp [intOf]; omega
        · have n2 : (r.s == s) = false := beq_eq_false_iff_ne.2 e2
          have HF : Hid (ruleFor p s l r = false) := by show _ = _; simp [ruleFor, e2]
          clear e1 e2
          go_wp2
          go_roundw
          case rel =>
            refine ⟨i + 1, by go_num, hlt, fun j y hj hy => ?_, hgr⟩
            by_cases hji : j = i
            · subst hji; rw [Hx.out] at hy; cases hy; exact HF.out
            · exact hb j y (by omega) hy
          case measure => simp [intOf]; omega
      · have n1 : (r.p == p) = false := beq_eq_false_iff_ne.2 e1
        have HF : Hid (ruleFor p s l r = false) := by show _ = _; simp [ruleFor, e1]
        clear e1
        go_wp2
        go_roundw
        case rel =>
          refine ⟨i + 1, by go_num, hlt, fun j y hj hy => ?_, hgr⟩
          by_cases hji : j = i
          · subst hji; rw [Hx.out] at hy; cases hy; exact HF.out
          · exact hb j y (by omega) hy
        case measure => simp [intOf]; omega
    · have hie : Hid (i = m.rules.length) := by show _ = _; omega
      clear h
      go_wp2
      go_ret
      exact ⟨ret_int (firstIx_none (fun j y hy => hb j y (by have := get_lt hy; have := hie.out; omega) hy)).symm, Gr.below hg hB0⟩

set_option maxRecDepth 100000 in
set_option maxHeartbeats 4000000 in
theorem refEmits_any (m : Mdl) (hm : Lim m) (lv rv sv : Value) (R : List RuleV) (B : Nat) (p : Int) (x : MEmit) (w : World) (h : ModelAt w B lv rv sv m R) (hB : B ≤ w.heap.size) :
    Calls Try.prog 80 #[.agg #[.int .i64 m.procs, .int .i64 m.states, .int .i64 m.loads, lv, rv, sv], .int .i64 p, .agg #[.int .i64 x.k, .int .i64 x.d, .int .i64 x.l]] w fun e w' => e = .returned (.bool (emitOk m p x)) ∧ Below w.heap.size w w' := by
  obtain ⟨ao, cap, hlv, hcap⟩ := RowsAt.form h.links
  have hnl := hm.nl
  subst hlv
  have HL : isL m x.l = withinB x.l 0 (m.loads - 1) := rfl
  cases hk : withinB x.k 0 ((m.links.length : Int) - 1) with
  | false =>
    have H := emitOk_no (p := p) hk
    clear h HL
    go_enter Try.func80, Try.ntmps80
    go_wp2_with (go_at_call 63; refine (refBelow_any _ _ _).mono ?_; rintro e w1 ⟨rfl, rfl⟩)
    go_ret
    exact ⟨ret_bool H.symm, ((Below.refl _ _).alloc (Nat.le_refl _) _).alloc (by simp) _⟩
  | true =>
    obtain ⟨hk0, hk1⟩ := withinB_iff.1 hk
    obtain ⟨y, hy⟩ := get_of_lt (d := m.links) (k := x.k.toNat) (by omega)
    have H := emitOk_at (p := p) hk hy
    rw [HL] at H
    clear HL
    cases h2 : withinB x.l 0 (m.loads - 1) with
    | false =>
      rw [h2, Bool.and_false] at H
      clear h hy
      go_enter Try.func80, Try.ntmps80
      go_wp2_with (go_at_call 63; refine (refBelow_any _ _ _).mono ?_; rintro e w1 ⟨rfl, rfl⟩)
      go_ret
      exact ⟨ret_bool H.symm, ((Below.refl _ _).alloc (Nat.le_refl _) _).alloc (by simp) _⟩
    | true =>
      rw [h2, Bool.and_true] at H
      obtain ⟨b, off, hao, hbB, hc⟩ := RowsAt.at_ h.links hy
      subst hao
      have hB0 : Below w.heap.size w ((w.alloc (.cells #[.int .i64 m.procs, .int .i64 m.states, .int .i64 m.loads, (.slice (some ⟨b, off, none⟩) m.links.length cap), rv, sv] 26)).alloc (.cells #[.int .i64 x.k, .int .i64 x.d, .int .i64 x.l] 97)) := ((Below.refl _ _).alloc (Nat.le_refl _) _).alloc (by simp) _
      have L0 := cell?_alloc_some' (o := .cells #[.int .i64 x.k, .int .i64 x.d, .int .i64 x.l] 97) (cell?_alloc_some' (o := .cells #[.int .i64 m.procs, .int .i64 m.states, .int .i64 m.loads, (.slice (some ⟨b, off, none⟩) m.links.length cap), rv, sv] 26) (hc 0 (.int .i64 y.f) rfl))
      have L1 := cell?_alloc_some' (o := .cells #[.int .i64 x.k, .int .i64 x.d, .int .i64 x.l] 97) (cell?_alloc_some' (o := .cells #[.int .i64 m.procs, .int .i64 m.states, .int .i64 m.loads, (.slice (some ⟨b, off, none⟩) m.links.length cap), rv, sv] 26) (hc 1 (.int .i64 y.t) rfl))
      have L2 := cell?_alloc_some' (o := .cells #[.int .i64 x.k, .int .i64 x.d, .int .i64 x.l] 97) (cell?_alloc_some' (o := .cells #[.int .i64 m.procs, .int .i64 m.states, .int .i64 m.loads, (.slice (some ⟨b, off, none⟩) m.links.length cap), rv, sv] 26) (hc 2 (.int .i64 y.a) rfl))
      simp only [Nat.add_zero] at L0
      have hki : x.k < (m.links.length : Int) := by omega
      have hbs : b < w.heap.size := Nat.lt_of_lt_of_le hbB hB
      clear hy h hc hcap
      have l0 := cell?_alloc_some' (o := .cells #[.int .i64 y.f, .int .i64 y.t, .int .i64 y.a] 90) L0
      by_cases e1 : y.f = p
      · have n1 : (y.f == p) = true := beq_iff_eq.2 e1
        rw [decide_eq_true e1, Bool.true_and] at H
        clear e1
        by_cases e2 : y.a ≤ x.d
        · by_cases e3 : x.d ≤ 60
          · rw [withinB_t e2 e3] at H
            go_enter Try.func80, Try.ntmps80
            go_wp2_with (go_at_call 63; refine (refBelow_any _ _ _).mono ?_; rintro e w1 ⟨rfl, rfl⟩)
            go_ret
            first | exact ⟨ret_bool H.symm, hB0.alloc hB0.size _⟩ | exact ⟨rfl, hB0.alloc hB0.size _⟩ | exact ⟨ret_bool ((decide_eq_false (by omega)).trans H.symm), hB0.alloc hB0.size _⟩
          · rw [withinB_f2 e3] at H
            go_enter Try.func80, Try.ntmps80
            go_wp2_with (go_at_call 63; refine (refBelow_any _ _ _).mono ?_; rintro e w1 ⟨rfl, rfl⟩)
            go_ret
            first | exact ⟨ret_bool H.symm, hB0.alloc hB0.size _⟩ | exact ⟨rfl, hB0.alloc hB0.size _⟩ | exact ⟨ret_bool ((decide_eq_false (by omega)).trans H.symm), hB0.alloc hB0.size _⟩
        · rw [withinB_f1 e2] at H
          go_enter Try.func80, Try.ntmps80
          go_wp2_with (go_at_call 63; refine (refBelow_any _ _ _).mono ?_; rintro e w1 ⟨rfl, rfl⟩)
          go_ret
          first | exact ⟨ret_bool H.symm, hB0.alloc hB0.size _⟩ | exact ⟨rfl, hB0.alloc hB0.size _⟩ | exact ⟨ret_bool ((decide_eq_false (by omega)).trans H.symm), hB0.alloc hB0.size _⟩
      · have n1 : (y.f == p) = false := beq_eq_false_iff_ne.2 e1
        rw [decide_eq_false e1, Bool.false_and] at H
        clear e1
        go_enter Try.func80, Try.ntmps80
        go_wp2_with (go_at_call 63; refine (refBelow_any _ _ _).mono ?_; rintro e w1 ⟨rfl, rfl⟩)
        go_ret
        first | exact ⟨ret_bool H.symm, hB0.alloc hB0.size _⟩ | exact ⟨rfl, hB0.alloc hB0.size _⟩ | exact ⟨ret_bool ((decide_eq_false (by omega)).trans H.symm), hB0.alloc hB0.size _⟩

end Go.Proofs.Ytbpaigpjffdcbaa
