/-
  The reference: rule.
-/
import Derived.Test.YtbpaigpjffdcbaaRefA
namespace Go.Proofs.Ytbpaigpjffdcbaa
open Go.RowKit Go.Sort Go.Maps

theorem firstIx_cases {α : Type} (p : α → Bool) (l : List α) : (firstIx p l = -1 ∧ ∀ (j : Nat) (y : α), l[j]? = some y → p y = false) ∨ ∃ (i : Nat) (x : α), firstIx p l = (i : Int) ∧ l[i]? = some x ∧ p x = true ∧ ∀ (j : Nat) (y : α), j < i → l[j]? = some y → p y = false := by
  by_cases h : ∃ x ∈ l, p x = true
  · right
    cases hf : l.findIdx? p with
    | none =>
      obtain ⟨x, hx, hp⟩ := h
      rw [List.findIdx?_eq_none_iff] at hf
      have := hf x hx
      rw [hp] at this; cases this
    | some i =>
      have := hf
      rw [List.findIdx?_eq_some_iff_getElem] at this
      obtain ⟨hi, h1, h2⟩ := this
      refine ⟨i, l[i], by simp [firstIx, hf], List.getElem?_eq_getElem hi, h1, fun j y hj hy => ?_⟩
      have hj' : j < l.length := by omega
      rw [List.getElem?_eq_getElem hj'] at hy
      cases hy
      simpa using h2 j hj
  · left
    have hn : ∀ (j : Nat) (y : α), l[j]? = some y → p y = false := fun j y hy => by
      cases hp : p y
      · rfl
      · exact absurd ⟨y, List.mem_of_getElem? hy, hp⟩ h
    exact ⟨firstIx_none hn, hn⟩

theorem firstIx_self {α : Type} {p : α → Bool} {l : List α} {i : Nat} {x : α} (hx : l[i]? = some x) (hp : p x = true) : decide (firstIx p l = (i : Int)) = !decide (0 ≤ firstIx p (l.take i)) := by
  have hi := get_lt hx
  rcases firstIx_cases p (l.take i) with ⟨e, h⟩ | ⟨j, y, e, h1, h2, h3⟩
  · rw [e, firstIx_at hx hp (fun j y hj hy => h j y (by rw [List.getElem?_take_of_lt hj]; exact hy))]
    simp
  · have hj := get_lt h1
    rw [List.length_take] at hj
    have hji : j < i := by omega
    rw [List.getElem?_take_of_lt hji] at h1
    rw [e, firstIx_at h1 h2 (fun k z hk hz => h3 k z hk (by rw [List.getElem?_take_of_lt (by omega)]; exact hz))]
    have h4 : ((j : Int) = (i : Int)) = False := by simp; omega
    simp [h4]

theorem ruleOk_all {m : Mdl} {r : MRule} (h1 : isP m r.p = true) (h2 : isS m r.s = true) (h3 : isL m r.l = true) (h4 : isS m r.n = true) (h5 : r.es.length ≤ 4) : ruleOk m r = r.es.all (emitOk m r.p) := by
  simp [ruleOk, h1, h2, h3, h4, h5]

theorem ruleOk_no {m : Mdl} {r : MRule} (h : isP m r.p = false ∨ isS m r.s = false ∨ isL m r.l = false ∨ isS m r.n = false ∨ ¬ r.es.length ≤ 4) : ruleOk m r = false := by
  rcases h with h | h | h | h | h <;> simp [ruleOk, h]

set_option maxRecDepth 100000 in
set_option maxHeartbeats 4000000 in
theorem refRule_any (m : Mdl) (hm : Lim m) (lv rv sv : Value) (R : List RuleV) (B : Nat) (i : Nat) (hi : i < m.rules.length) (w : World) (h : ModelAt w B lv rv sv m R) (hB : B ≤ w.heap.size) (hne : ∀ r ∈ m.rules, r.es.length ≤ 5864062014634) :
    Calls Try.prog 64 #[.agg #[.int .i64 m.procs, .int .i64 m.states, .int .i64 m.loads, lv, rv, sv], .int .i64 i] w fun e w' => e = .returned (.bool (goodRule m i)) ∧ Below w.heap.size w w' := by
  obtain ⟨ao, cap, hrv, hcap⟩ := RowsAt.form h.rules.1
  have hrl := h.rlen
  rw [hrl] at hrv hcap
  subst hrv
  have hnr := hm.nr
  obtain ⟨⟨r, ev⟩, hx, hxr, hE⟩ := h.rule hi
  have hE : EmitsAt w B ev r.es := hE
  have hxr : m.rules[i]? = some r := hxr
  obtain ⟨aoe, cape, rfl, hcape⟩ := RowsAt.form hE
  obtain ⟨b, off, hao, hbB, hc⟩ := RowsAt.at_ h.rules.1 hx
  subst hao
  have H := goodRule_at hxr
  have hel := hne r (List.mem_of_getElem? hxr)
  have L0 := cell?_alloc_some' (o := .cells #[.int .i64 m.procs, .int .i64 m.states, .int .i64 m.loads, lv, (.slice (some ⟨b, off, none⟩) m.rules.length cap), sv] 26) (hc 0 (.int .i64 r.p) rfl)
  have L1 := cell?_alloc_some' (o := .cells #[.int .i64 m.procs, .int .i64 m.states, .int .i64 m.loads, lv, (.slice (some ⟨b, off, none⟩) m.rules.length cap), sv] 26) (hc 1 (.int .i64 r.s) rfl)
  have L2 := cell?_alloc_some' (o := .cells #[.int .i64 m.procs, .int .i64 m.states, .int .i64 m.loads, lv, (.slice (some ⟨b, off, none⟩) m.rules.length cap), sv] 26) (hc 2 (.int .i64 r.l) rfl)
  have L3 := cell?_alloc_some' (o := .cells #[.int .i64 m.procs, .int .i64 m.states, .int .i64 m.loads, lv, (.slice (some ⟨b, off, none⟩) m.rules.length cap), sv] 26) (hc 3 (.int .i64 r.n) rfl)
  have L4 := cell?_alloc_some' (o := .cells #[.int .i64 m.procs, .int .i64 m.states, .int .i64 m.loads, lv, (.slice (some ⟨b, off, none⟩) m.rules.length cap), sv] 26) (hc 4 (.slice aoe r.es.length cape) rfl)
  simp only [Nat.add_zero] at L0
  have hB1 : Below w.heap.size w ((w.alloc (.cells #[.int .i64 m.procs, .int .i64 m.states, .int .i64 m.loads, lv, (.slice (some ⟨b, off, none⟩) m.rules.length cap), sv] 26)).alloc (.cells #[.int .i64 r.p, .int .i64 r.s, .int .i64 r.l, .int .i64 r.n, .slice aoe r.es.length cape] 94)) := ((Below.refl _ _).alloc (Nat.le_refl _) _).alloc (by simp) _
  have hbs : b < w.heap.size := Nat.lt_of_lt_of_le hbB hB
  have hii : (i : Int) < m.rules.length := by omega
  have q1 : isP m r.p = withinB r.p 0 (m.procs - 1) := rfl
  have q2 : isS m r.s = withinB r.s 0 (m.states - 1) := rfl
  have q3 : isL m r.l = withinB r.l 0 (m.loads - 1) := rfl
  have q4 : isS m r.n = withinB r.n 0 (m.states - 1) := rfl
  cases h1 : withinB r.p 0 (m.procs - 1) with
  | false =>
    rw [ruleOk_no (.inl (q1.trans h1)), Bool.false_and] at H
    clear h hE hxr hx hc q1 q2 q3 q4
    go_enter Try.func64, Try.ntmps64
    go_wp2_with (go_at_call 63; refine (refBelow_any _ _ _).mono ?_; rintro e w1 ⟨rfl, rfl⟩)
    go_ret
    first | exact ⟨ret_bool H.symm, hB1⟩ | exact ⟨rfl, hB1⟩
  | true =>
    cases h2 : withinB r.s 0 (m.states - 1) with
    | false =>
      rw [ruleOk_no (.inr (.inl (q2.trans h2))), Bool.false_and] at H
      clear h hE hxr hx hc q1 q2 q3 q4
      go_enter Try.func64, Try.ntmps64
      go_wp2_with (go_at_call 63; refine (refBelow_any _ _ _).mono ?_; rintro e w1 ⟨rfl, rfl⟩)
      go_ret
      first | exact ⟨ret_bool H.symm, hB1⟩ | exact ⟨rfl, hB1⟩
    | true =>
      cases h4 : withinB r.n 0 (m.states - 1) with
      | false =>
        rw [ruleOk_no (.inr (.inr (.inr (.inl (q4.trans h4))))), Bool.false_and] at H
        clear h hE hxr hx hc q1 q2 q3 q4
        go_enter Try.func64, Try.ntmps64
        go_wp2_with (go_at_call 63; refine (refBelow_any _ _ _).mono ?_; rintro e w1 ⟨rfl, rfl⟩)
        go_ret
        first | exact ⟨ret_bool H.symm, hB1⟩ | exact ⟨rfl, hB1⟩
      | true =>
        cases h3 : withinB r.l 0 (m.loads - 1) with
        | false =>
          rw [ruleOk_no (.inr (.inr (.inl (q3.trans h3)))), Bool.false_and] at H
          clear h hE hxr hx hc q1 q2 q3 q4
          go_enter Try.func64, Try.ntmps64
          go_wp2_with (go_at_call 63; refine (refBelow_any _ _ _).mono ?_; rintro e w1 ⟨rfl, rfl⟩)
          go_ret
          first | exact ⟨ret_bool H.symm, hB1⟩ | exact ⟨rfl, hB1⟩
        | true =>
          by_cases h5 : r.es.length ≤ 4
          · rw [ruleOk_all (q1.trans h1) (q2.trans h2) (q3.trans h3) (q4.trans h4) h5] at H
            have hfix : decide (firstIx (ruleFor r.p r.s r.l) m.rules = (i : Int)) = !decide (0 ≤ firstIx (ruleFor r.p r.s r.l) (m.rules.take i)) := firstIx_self hxr (by simp [ruleFor])
            rw [← hfix] at H
            have HH : Hid (goodRule m i = (r.es.all (emitOk m r.p) && decide (firstIx (ruleFor r.p r.s r.l) m.rules = (i : Int)))) := H
            clear hxr hx hc q1 q2 q3 q4 H hfix
            have hmb : Blk ((w.alloc (.cells #[.int .i64 m.procs, .int .i64 m.states, .int .i64 m.loads, lv, (.slice (some ⟨b, off, none⟩) m.rules.length cap), sv] 26)).alloc (.cells #[.int .i64 r.p, .int .i64 r.s, .int .i64 r.l, .int .i64 r.n, .slice aoe r.es.length cape] 94)) w.heap.size #[.int .i64 m.procs, .int .i64 m.states, .int .i64 m.loads, lv, (.slice (some ⟨b, off, none⟩) m.rules.length cap), sv] 26 := Blk.alloc (heap_alloc_new w (.cells #[.int .i64 m.procs, .int .i64 m.states, .int .i64 m.loads, lv, (.slice (some ⟨b, off, none⟩) m.rules.length cap), sv] 26) : Blk _ _ _ _) _
            have hrb : Blk ((w.alloc (.cells #[.int .i64 m.procs, .int .i64 m.states, .int .i64 m.loads, lv, (.slice (some ⟨b, off, none⟩) m.rules.length cap), sv] 26)).alloc (.cells #[.int .i64 r.p, .int .i64 r.s, .int .i64 r.l, .int .i64 r.n, .slice aoe r.es.length cape] 94)) (w.heap.size + 1) #[.int .i64 r.p, .int .i64 r.s, .int .i64 r.l, .int .i64 r.n, .slice aoe r.es.length cape] 94 := by
              have := heap_alloc_new (w.alloc (.cells #[.int .i64 m.procs, .int .i64 m.states, .int .i64 m.loads, lv, (.slice (some ⟨b, off, none⟩) m.rules.length cap), sv] 26)) (.cells #[.int .i64 r.p, .int .i64 r.s, .int .i64 r.l, .int .i64 r.n, .slice aoe r.es.length cape] 94)
              rw [World.size_alloc] at this
              exact this
            go_enter Try.func64, Try.ntmps64
            go_wp2_with (go_at_call 63; refine (refBelow_any _ _ _).mono ?_; rintro e w1 ⟨rfl, rfl⟩)
            clear L0 L1 L2 L3 L4
            go_loopw [6] (fun sk wr => ∃ k : Nat, sk = .int .i64 k ∧ k ≤ r.es.length ∧ (∀ (j : Nat) (y : MEmit), j < k → r.es[j]? = some y → emitOk m r.p y = true) ∧ Gr ((w.alloc (.cells #[.int .i64 m.procs, .int .i64 m.states, .int .i64 m.loads, lv, (.slice (some ⟨b, off, none⟩) m.rules.length cap), sv] 26)).alloc (.cells #[.int .i64 r.p, .int .i64 r.s, .int .i64 r.l, .int .i64 r.n, .slice aoe r.es.length cape] 94)) wr) (fun sk _ => r.es.length - (intOf sk).toNat)
            case atStart => exact ⟨0, rfl, Nat.zero_le _, fun j y hj => by omega, Gr.refl _⟩
            case round =>
              obtain ⟨k, rfl, hk, hb, hg⟩ := hrel
              have hmw : Blk wr w.heap.size #[.int .i64 m.procs, .int .i64 m.states, .int .i64 m.loads, lv, (.slice (some ⟨b, off, none⟩) m.rules.length cap), sv] 26 := hmb.keep hg.kept (fun e => e)
              have hrw : Blk wr (w.heap.size + 1) #[.int .i64 r.p, .int .i64 r.s, .int .i64 r.l, .int .i64 r.n, .slice aoe r.es.length cape] 94 := hrb.keep hg.kept (fun e => e)
              have m0 := hmw.cell 0
              have m1 := hmw.cell 1
              have m2 := hmw.cell 2
              have m3 := hmw.cell 3
              have m4 := hmw.cell 4
              have m5 := hmw.cell 5
              have x0 := hrw.cell 0
              have x1 := hrw.cell 1
              have x2 := hrw.cell 2
              have x3 := hrw.cell 3
              have x4 := hrw.cell 4
              simp only [List.getElem?_toArray, List.getElem?_cons_zero, List.getElem?_cons_succ] at m0 m1 m2 m3 m4 m5 x0 x1 x2 x3 x4
              have hBw := Gr.below hg hB1
              by_cases hlt : k < r.es.length
              · obtain ⟨x, hxe⟩ := get_of_lt hlt
                obtain ⟨b2, off2, hao2, hbB2, hc2⟩ := RowsAt.at_ hE hxe
                subst hao2
                have k0 := cell_regrown (v := .int .i64 m.procs) m0
                have k1 := cell_regrown (v := .int .i64 m.states) m1
                have k2 := cell_regrown (v := .int .i64 m.loads) m2
                have k3 := cell_regrown (v := lv) m3
                have k4 := cell_regrown (v := (.slice (some ⟨b, off, none⟩) m.rules.length cap)) m4
                have k5 := cell_regrown (v := sv) m5
                have y0 := cell_regrown (v := .int .i64 r.p) x0
                have y4 := cell_regrown (v := .slice (some ⟨b2, off2, none⟩) r.es.length cape) x4
                have z0 := cell_regrown (hBw.cell (p := ⟨b2, off2 + k * 3 + 0, none⟩) (Nat.lt_of_lt_of_le hbB2 hB) ▸ hc2 0 (.int .i64 x.k) rfl)
                have z1 := cell_regrown (hBw.cell (p := ⟨b2, off2 + k * 3 + 1, none⟩) (Nat.lt_of_lt_of_le hbB2 hB) ▸ hc2 1 (.int .i64 x.d) rfl)
                have z2 := cell_regrown (hBw.cell (p := ⟨b2, off2 + k * 3 + 2, none⟩) (Nat.lt_of_lt_of_le hbB2 hB) ▸ hc2 2 (.int .i64 x.l) rfl)
                simp only [Nat.add_zero] at z0
                have P1 : ∀ p : Regrown, Calls Try.prog 80 #[.agg #[.int .i64 m.procs, .int .i64 m.states, .int .i64 m.loads, lv, (.slice (some ⟨b, off, none⟩) m.rules.length cap), sv], .int .i64 r.p, .agg #[.int .i64 x.k, .int .i64 x.d, .int .i64 x.l]] (grow (redrawn wr p.d) p.os) fun e w'' => e = .returned (.bool (emitOk m r.p x)) ∧ ∃ p : Regrown, w'' = grow (redrawn wr p.d) p.os := fun p => by
                  have hb2 := hBw.trans ((below_regrown _ p.d p.os).mono hBw.size)
                  exact Calls.regrown_of (refEmits_any m hm lv _ sv R B r.p x _ (h.keep (hb2.mono hB)) (Nat.le_trans hB hb2.size))
                have Hx : Hid (r.es[k]? = some x) := hxe
                clear hxe hc2 h hE hmb hrb hmw hrw
                cases hv : emitOk m r.p x with
                | false =>
                  have Hv : Hid (emitOk m r.p x = false) := hv
                  rw [hv] at P1
                  clear hv
                  go_wp2
                  refine wp_region_quiet_below (by kernel_rfl) (by kernel_rfl) ?_
                  repeat (quiet_step (exact P1 _))
                  refine wpQuiet_nil ?_
                  intro wq hw'
                  have hbl := below_of_regrown hw'
                  clear hw' k0 k1 k2 k3 k4 k5 y0 y4 z0 z1 z2 P1
                  go_wp2
                  go_ret
                  refine ⟨ret_bool ?_, hBw.trans (hbl.mono hBw.size)⟩
                  rw [HH.out]
                  have : r.es.all (emitOk m r.p) = false := by
                    rw [← Bool.not_eq_true, List.all_eq_true]
                    intro ha
                    rw [ha x (List.mem_of_getElem? Hx.out)] at Hv
                    exact absurd Hv.out (by simp)
                  rw [this, Bool.false_and]
                | true =>
                  have Hv : Hid (emitOk m r.p x = true) := hv
                  rw [hv] at P1
                  clear hv
                  go_wp2
                  refine wp_region_quiet_below (by kernel_rfl) (by kernel_rfl) ?_
                  repeat (quiet_step (exact P1 _))
                  refine wpQuiet_nil ?_
                  intro wq hw'
                  have hbl := below_of_regrown hw'
                  clear hw' k0 k1 k2 k3 k4 k5 y0 y4 z0 z1 z2 P1
                  go_wp2
                  go_roundw
                  case rel =>
                    refine ⟨k + 1, by go_num, hlt, fun j y hj hy => ?_, hg.trans hbl⟩
                    by_cases hji : j = k
                    · subst hji; rw [Hx.out] at hy; cases hy; exact Hv.out
                    · exact hb j y (by omega) hy
                  case measure => simp [intOf]; omega
              · have hfind := refFind_any m lv _ sv R B r.p r.s r.l wr ((h.keep (hBw.mono hB)).rules) h.same (Nat.le_trans hB hBw.size) (by omega)
                have hke : Hid (k = r.es.length) := by show _ = _; omega
                clear h hE hmb hrb hmw hrw
                go_wp2_with fail
                refine hfind.mono ?_
                rintro e w2 ⟨rfl, g2⟩
                go_wp2
                go_ret
                refine ⟨ret_bool ?_, hBw.trans (g2.mono hBw.size)⟩
                rw [HH.out]
                have : r.es.all (emitOk m r.p) = true := by
                  rw [List.all_eq_true]
                  intro x hx
                  obtain ⟨j, hj⟩ := List.getElem?_of_mem hx
                  exact hb j x (by have := get_lt hj; have := hke.out; omega) hj
                rw [this, Bool.true_and]
                first | rfl | (rw [Bool.eq_iff_iff]; simp)
          · rw [ruleOk_no (.inr (.inr (.inr (.inr h5)))), Bool.false_and] at H
            clear h hE hxr hx hc q1 q2 q3 q4
            go_enter Try.func64, Try.ntmps64
            go_wp2_with (go_at_call 63; refine (refBelow_any _ _ _).mono ?_; rintro e w1 ⟨rfl, rfl⟩)
            go_ret
            first | exact ⟨ret_bool H.symm, hB1⟩ | exact ⟨rfl, hB1⟩

end Go.Proofs.Ytbpaigpjffdcbaa
