/-
  The reference: rule.
  The reference: Valid.
-/
import Derived.Test.YtaieackeflmhgaaK04
namespace Go.Proofs.Ytaieackeflmhgaa
open Go.RowKit Go.Sort Go.Maps

theorem firstIx_cases {α : Type} (p : α → Bool) (l : List α) : (firstIx p l = -1 ∧ ∀ (j : Nat) (y : α), l[j]? = some y → p y = false) ∨ ∃ (i : Nat) (x : α), firstIx p l = (i : Int) ∧ l[i]? = some x ∧ p x = true ∧ ∀ (j : Nat) (y : α), j < i → l[j]? = some y → p y = false := by
  by_cases h : ∃ x ∈ l, p x = true
  · right
    cases hf : l.findIdx? p with
    | none =>
      obtain ⟨x, hx, hp⟩ := h
      rw [List.findIdx?_eq_none_iff] at hf
      have := hf x hx
      rw [hp] at this; cases this
    | some i =>
      have := hf
      rw [List.findIdx?_eq_some_iff_getElem] at this
      obtain ⟨hi, h1, h2⟩ := this
      refine ⟨i, l[i], by simp [firstIx, hf], List.getElem?_eq_getElem hi, h1, fun j y hj hy => ?_⟩
      have hj' : j < l.length := by omega
      rw [List.getElem?_eq_getElem hj'] at hy
      cases hy
      simpa using h2 j hj
  · left
    have hn : ∀ (j : Nat) (y : α), l[j]? = some y → p y = false := fun j y hy => by
      cases hp : p y
      · rfl
      · exact absurd ⟨y, List.mem_of_getElem? hy, hp⟩ h
    exact ⟨firstIx_none hn, hn⟩

theorem firstIx_self {α : Type} {p : α → Bool} {l : List α} {i : Nat} {x : α} (hx : l[i]? = some x) (hp : p x = true) : decide (firstIx p l = (i : Int)) = !decide (0 ≤ firstIx p (l.take i)) := by
  have hi := get_lt hx
  rcases firstIx_cases p (l.take i) with ⟨e, h⟩ | ⟨j, y, e, h1, h2, h3⟩
  · rw [e, firstIx_at hx hp (fun j y hj hy => h j y (by rw [List.getElem?_take_of_lt hj]; exact hy))]
    simp
  · have hj := get_lt h1
    rw [List.length_take] at hj
    have hji : j < i := by omega
    rw [List.getElem?_take_of_lt hji] at h1
    rw [e, firstIx_at h1 h2 (fun k z hk hz => h3 k z hk (by rw [List.getElem?_take_of_lt (by omega)]; exact hz))]
    have h4 : ((j : Int) = (i : Int)) = False := by simp; omega
    simp [h4]

theorem ruleOk_all {m : Mdl} {r : MRule} (h1 : isP m r.p = true) (h2 : isS m r.s = true) (h3 : isL m r.l = true) (h4 : isS m r.n = true) (h5 : r.es.length ≤ 4) : ruleOk m r = r.es.all (emitOk m r.p) := by
  simp [ruleOk, h1, h2, h3, h4, h5]

theorem ruleOk_no {m : Mdl} {r : MRule} (h : isP m r.p = false ∨ isS m r.s = false ∨ isL m r.l = false ∨ isS m r.n = false ∨ ¬ r.es.length ≤ 4) : ruleOk m r = false := by
  rcases h with h | h | h | h | h <;> simp [ruleOk, h]

set_option maxRecDepth 100000 in
set_option maxHeartbeats 4000000 in
theorem refRule_any (m : Mdl) (hm : Lim m) (lv rv sv : Value) (R : List RuleV) (B : Nat) (i : Nat) (hi : i < m.rules.length) (w : World) (h : ModelAt w B lv rv sv m R) (hB : B ≤ w.heap.size) (hne : ∀ r ∈ m.rules, r.es.length ≤ 5864062014634) :
    Calls Try.prog 76 #[.agg #[.int .i64 m.procs, .int .i64 m.states, .int .i64 m.loads, lv, rv, sv], .int .i64 i] w fun e w' => e = .returned (.bool (goodRule m i)) ∧ Below w.heap.size w w' := by
  obtain ⟨ao, cap, hrv, hcap⟩ := RowsAt.form h.rules.1
  have hrl := h.rlen
  rw [hrl] at hrv hcap
  subst hrv
  have hnr := hm.nr
  obtain ⟨⟨r, ev⟩, hx, hxr, hE⟩ := h.rule hi
  have hE : EmitsAt w B ev r.es := hE
  have hxr : m.rules[i]? = some r := hxr
  obtain ⟨aoe, cape, rfl, hcape⟩ := RowsAt.form hE
  obtain ⟨b, off, hao, hbB, hc⟩ := RowsAt.at_ h.rules.1 hx
  subst hao
  have H := goodRule_at hxr
  have hel := hne r (List.mem_of_getElem? hxr)
  have L0 := cell?_alloc_some' (o := .cells #[.int .i64 m.procs, .int .i64 m.states, .int .i64 m.loads, lv, (.slice (some ⟨b, off, none⟩) m.rules.length cap), sv] 26) (hc 0 (.int .i64 r.p) rfl)
  have L1 := cell?_alloc_some' (o := .cells #[.int .i64 m.procs, .int .i64 m.states, .int .i64 m.loads, lv, (.slice (some ⟨b, off, none⟩) m.rules.length cap), sv] 26) (hc 1 (.int .i64 r.s) rfl)
  have L2 := cell?_alloc_some' (o := .cells #[.int .i64 m.procs, .int .i64 m.states, .int .i64 m.loads, lv, (.slice (some ⟨b, off, none⟩) m.rules.length cap), sv] 26) (hc 2 (.int .i64 r.l) rfl)
  have L3 := cell?_alloc_some' (o := .cells #[.int .i64 m.procs, .int .i64 m.states, .int .i64 m.loads, lv, (.slice (some ⟨b, off, none⟩) m.rules.length cap), sv] 26) (hc 3 (.int .i64 r.n) rfl)
  have L4 := cell?_alloc_some' (o := .cells #[.int .i64 m.procs, .int .i64 m.states, .int .i64 m.loads, lv, (.slice (some ⟨b, off, none⟩) m.rules.length cap), sv] 26) (hc 4 (.slice aoe r.es.length cape) rfl)
  simp only [Nat.add_zero] at L0
  have hB1 : Below w.heap.size w ((w.alloc (.cells #[.int .i64 m.procs, .int .i64 m.states, .int .i64 m.loads, lv, (.slice (some ⟨b, off, none⟩) m.rules.length cap), sv] 26)).alloc (.cells #[.int .i64 r.p, .int .i64 r.s, .int .i64 r.l, .int .i64 r.n, .slice aoe r.es.length cape] 97)) := ((Below.refl _ _).alloc (Nat.le_refl _) _).alloc (by simp) _
  have hbs : b < w.heap.size := Nat.lt_of_lt_of_le hbB hB
  have hii : (i : Int) < m.rules.length := by omega
  have q1 : isP m r.p = withinB r.p 0 (m.procs - 1) := rfl
  have q2 : isS m r.s = withinB r.s 0 (m.states - 1) := rfl
  have q3 : isL m r.l = withinB r.l 0 (m.loads - 1) := rfl
  have q4 : isS m r.n = withinB r.n 0 (m.states - 1) := rfl
  cases h1 : withinB r.p 0 (m.procs - 1) with
  | false =>
    rw [ruleOk_no (.inl (q1.trans h1)), Bool.false_and] at H
    clear h hE hxr hx hc q1 q2 q3 q4
    go_enter Try.func76, Try.ntmps76
    go_wp2_with (go_at_call 75; refine (refBelow_any _ _ _).mono ?_; rintro e w1 ⟨rfl, rfl⟩)
    go_ret
    first | exact ⟨ret_bool H.symm, hB1⟩ | exact ⟨rfl, hB1⟩
  | true =>
    cases h2 : withinB r.s 0 (m.states - 1) with
    | false =>
      rw [ruleOk_no (.inr (.inl (q2.trans h2))), Bool.false_and] at H
      clear h hE hxr hx hc q1 q2 q3 q4
      go_enter Try.func76, Try.ntmps76
      go_wp2_with (go_at_call 75; refine (refBelow_any _ _ _).mono ?_; rintro e w1 ⟨rfl, rfl⟩)
      go_ret
      first | exact ⟨ret_bool H.symm, hB1⟩ | exact ⟨rfl, hB1⟩
    | true =>
      cases h4 : withinB r.n 0 (m.states - 1) with
      | false =>
        rw [ruleOk_no (.inr (.inr (.inr (.inl (q4.trans h4))))), Bool.false_and] at H
        clear h hE hxr hx hc q1 q2 q3 q4
        go_enter Try.func76, Try.ntmps76
        go_wp2_with (go_at_call 75; refine (refBelow_any _ _ _).mono ?_; rintro e w1 ⟨rfl, rfl⟩)
        go_ret
        first | exact ⟨ret_bool H.symm, hB1⟩ | exact ⟨rfl, hB1⟩
      | true =>
        cases h3 : withinB r.l 0 (m.loads - 1) with
        | false =>
          rw [ruleOk_no (.inr (.inr (.inl (q3.trans h3)))), Bool.false_and] at H
          clear h hE hxr hx hc q1 q2 q3 q4
          go_enter Try.func76, Try.ntmps76
          go_wp2_with (go_at_call 75; refine (refBelow_any _ _ _).mono ?_; rintro e w1 ⟨rfl, rfl⟩)
          go_ret
          first | exact ⟨ret_bool H.symm, hB1⟩ | exact ⟨rfl, hB1⟩
        | true =>
          by_cases h5 : r.es.length ≤ 4
          · rw [ruleOk_all (q1.trans h1) (q2.trans h2) (q3.trans h3) (q4.trans h4) h5] at H
            have hfix : decide (firstIx (ruleFor r.p r.s r.l) m.rules = (i : Int)) = !decide (0 ≤ firstIx (ruleFor r.p r.s r.l) (m.rules.take i)) := firstIx_self hxr (by simp [ruleFor])
            rw [← hfix] at H
            have HH : Hid (goodRule m i = (r.es.all (emitOk m r.p) && decide (firstIx (ruleFor r.p r.s r.l) m.rules = (i : Int)))) := H
            clear hxr hx hc q1 q2 q3 q4 H hfix
            have hmb : Blk ((w.alloc (.cells #[.int .i64 m.procs, .int .i64 m.states, .int .i64 m.loads, lv, (.slice (some ⟨b, off, none⟩) m.rules.length cap), sv] 26)).alloc (.cells #[.int .i64 r.p, .int .i64 r.s, .int .i64 r.l, .int .i64 r.n, .slice aoe r.es.length cape] 97)) w.heap.size #[.int .i64 m.procs, .int .i64 m.states, .int .i64 m.loads, lv, (.slice (some ⟨b, off, none⟩) m.rules.length cap), sv] 26 := Blk.alloc (heap_alloc_new w (.cells #[.int .i64 m.procs, .int .i64 m.states, .int .i64 m.loads, lv, (.slice (some ⟨b, off, none⟩) m.rules.length cap), sv] 26) : Blk _ _ _ _) _
            have hrb : Blk ((w.alloc (.cells #[.int .i64 m.procs, .int .i64 m.states, .int .i64 m.loads, lv, (.slice (some ⟨b, off, none⟩) m.rules.length cap), sv] 26)).alloc (.cells #[.int .i64 r.p, .int .i64 r.s, .int .i64 r.l, .int .i64 r.n, .slice aoe r.es.length cape] 97)) (w.heap.size + 1) #[.int .i64 r.p, .int .i64 r.s, .int .i64 r.l, .int .i64 r.n, .slice aoe r.es.length cape] 97 := by
              have := heap_alloc_new (w.alloc (.cells #[.int .i64 m.procs, .int .i64 m.states, .int .i64 m.loads, lv, (.slice (some ⟨b, off, none⟩) m.rules.length cap), sv] 26)) (.cells #[.int .i64 r.p, .int .i64 r.s, .int .i64 r.l, .int .i64 r.n, .slice aoe r.es.length cape] 97)
              rw [World.size_alloc] at this
              exact this
            go_enter Try.func76, Try.ntmps76
            go_wp2_with (go_at_call 75; refine (refBelow_any _ _ _).mono ?_; rintro e w1 ⟨rfl, rfl⟩)
            clear L0 L1 L2 L3 L4
            go_loopw [6] (fun sk wr => ∃ k : Nat, sk = .int .i64 k ∧ k ≤ r.es.length ∧ (∀ (j : Nat) (y : MEmit), j < k → r.es[j]? = some y → emitOk m r.p y = true) ∧ Gr ((w.alloc (.cells #[.int .i64 m.procs, .int .i64 m.states, .int .i64 m.loads, lv, (.slice (some ⟨b, off, none⟩) m.rules.length cap), sv] 26)).alloc (.cells #[.int .i64 r.p, .int .i64 r.s, .int .i64 r.l, .int .i64 r.n, .slice aoe r.es.length cape] 97)) wr) (fun sk _ => r.es.length - (intOf sk).toNat)
            case atStart => exact ⟨0, rfl, Nat.zero_le _, fun j y hj => by omega, Gr.refl _⟩
            case round =>
              obtain ⟨k, rfl, hk, hb, hg⟩ := hrel
              have hmw : Blk wr w.heap.size #[.int .i64 m.procs, .int .i64 m.states, .int .i64 m.loads, lv, (.slice (some ⟨b, off, none⟩) m.rules.length cap), sv] 26 := hmb.keep hg.kept (fun e => e)
              have hrw : Blk wr (w.heap.size + 1) #[.int .i64 r.p, .int .i64 r.s, .int .i64 r.l, .int .i64 r.n, .slice aoe r.es.length cape] 97 := hrb.keep hg.kept (fun e => e)
              have m0 := hmw.cell 0
              have m1 := hmw.cell 1
              have m2 := hmw.cell 2
              have m3 := hmw.cell 3
              have m4 := hmw.cell 4
              have m5 := hmw.cell 5
              have x0 := hrw.cell 0
              have x1 := hrw.cell 1
              have x2 := hrw.cell 2
              have x3 := hrw.cell 3
              have x4 := hrw.cell 4
              simp only [List.getElem?_toArray, List.getElem?_cons_zero, List.getElem?_cons_succ] at m0 m1 m2 m3 m4 m5 x0 x1 x2 x3 x4
              have hBw := Gr.below hg hB1
              by_cases hlt : k < r.es.length
              · obtain ⟨x, hxe⟩ := get_of_lt hlt
                obtain ⟨b2, off2, hao2, hbB2, hc2⟩ := RowsAt.at_ hE hxe
                subst hao2
                have k0 := cell_regrown (v := .int .i64 m.procs) m0
                have k1 := cell_regrown (v := .int .i64 m.states) m1
                have k2 := cell_regrown (v := .int .i64 m.loads) m2
                have k3 := cell_regrown (v := lv) m3
                have k4 := cell_regrown (v := (.slice (some ⟨b, off, none⟩) m.rules.length cap)) m4
                have k5 := cell_regrown (v := sv) m5
                have y0 := cell_regrown (v := .int .i64 r.p) x0
                have y4 := cell_regrown (v := .slice (some ⟨b2, off2, none⟩) r.es.length cape) x4
                have z0 := cell_regrown (hBw.cell (p := ⟨b2, off2 + k * 3 + 0, none⟩) (Nat.lt_of_lt_of_le hbB2 hB) ▸ hc2 0 (.int .i64 x.k) rfl)
                have z1 := cell_regrown (hBw.cell (p := ⟨b2, off2 + k * 3 + 1, none⟩) (Nat.lt_of_lt_of_le hbB2 hB) ▸ hc2 1 (.int .i64 x.d) rfl)
                have z2 := cell_regrown (hBw.cell (p := ⟨b2, off2 + k * 3 + 2, none⟩) (Nat.lt_of_lt_of_le hbB2 hB) ▸ hc2 2 (.int .i64 x.l) rfl)
                simp only [Nat.add_zero] at z0
                have P1 : ∀ p : Regrown, Calls Try.prog 102 #[.agg #[.int .i64 m.procs, .int .i64 m.states, .int .i64 m.loads, lv, (.slice (some ⟨b, off, none⟩) m.rules.length cap), sv], .int .i64 r.p, .agg #[.int .i64 x.k, .int .i64 x.d, .int .i64 x.l]] (grow (redrawn wr p.d) p.os) fun e w'' => e = .returned (.bool (emitOk m r.p x)) ∧ ∃ p : Regrown, w'' = grow (redrawn wr p.d) p.os := fun p => by
                  have hb2 := hBw.trans ((below_regrown _ p.d p.os).mono hBw.size)
                  exact Calls.regrown_of (refEmits_any m hm lv _ sv R B r.p x _ (h.keep (hb2.mono hB)) (Nat.le_trans hB hb2.size))
                have Hx : Hid (r.es[k]? = some x) := hxe
                clear hxe hc2 h hE hmb hrb hmw hrw
                cases hv : emitOk m r.p x with
                | false =>
                  have Hv : Hid (emitOk m r.p x = false) := hv
                  rw [hv] at P1
                  clear hv
                  go_wp2
                  refine wp_region_quiet_below (by kernel_rfl) (by kernel_rfl) ?_
                  repeat (quiet_step (exact P1 _))
                  refine wpQuiet_nil ?_
                  intro wq hw'
                  have hbl := below_of_regrown hw'
                  clear hw' k0 k1 k2 k3 k4 k5 y0 y4 z0 z1 z2 P1
                  go_wp2
                  go_ret
                  refine ⟨ret_bool ?_, hBw.trans (hbl.mono hBw.size)⟩
                  rw [HH.out]
                  have : r.es.all (emitOk m r.p) = false := by
                    rw [← Bool.not_eq_true, List.all_eq_true]
                    intro ha
                    rw [ha x (List.mem_of_getElem? Hx.out)] at Hv
                    exact absurd Hv.out (by simp)
                  rw [this, Bool.false_and]
                | true =>
                  have Hv : Hid (emitOk m r.p x = true) := hv
                  rw [hv] at P1
                  clear hv
                  go_wp2
                  refine wp_region_quiet_below (by kernel_rfl) (by kernel_rfl) ?_
                  repeat (quiet_step (exact P1 _))
                  refine wpQuiet_nil ?_
                  intro wq hw'
                  have hbl := below_of_regrown hw'
                  clear hw' k0 k1 k2 k3 k4 k5 y0 y4 z0 z1 z2 P1
                  go_wp2
                  go_roundw
                  case rel =>
                    refine ⟨k + 1, by go_num, hlt, fun j y hj hy => ?_, hg.trans hbl⟩
                    by_cases hji : j = k
                    · subst hji; rw [Hx.out] at hy; cases hy; exact Hv.out
                    · exact hb j y (by omega) hy
                  case measure => simp [intOf]; omega
              · have hfind := refFind_any m lv _ sv R B r.p r.s r.l wr ((h.keep (hBw.mono hB)).rules) h.same (Nat.le_trans hB hBw.size) (by omega)
                have hke : Hid (k = r.es.length) := by show _ = _; omega
                clear h hE hmb hrb hmw hrw
                go_wp2_with fail
                refine hfind.mono ?_
                rintro e w2 ⟨rfl, g2⟩
                go_wp2
                go_ret
                refine ⟨ret_bool ?_, hBw.trans (g2.mono hBw.size)⟩
                rw [HH.out]
                have : r.es.all (emitOk m r.p) = true := by
                  rw [List.all_eq_true]
                  intro x hx
                  obtain ⟨j, hj⟩ := List.getElem?_of_mem hx
                  exact hb j x (by have := get_lt hj; have := hke.out; omega) hj
                rw [this, Bool.true_and]
                first | rfl | (rw [Bool.eq_iff_iff]; simp)
          · rw [ruleOk_no (.inr (.inr (.inr (.inr h5)))), Bool.false_and] at H
            clear h hE hxr hx hc q1 q2 q3 q4
            go_enter Try.func76, Try.ntmps76
            go_wp2_with (go_at_call 75; refine (refBelow_any _ _ _).mono ?_; rintro e w1 ⟨rfl, rfl⟩)
            go_ret
            first | exact ⟨ret_bool H.symm, hB1⟩ | exact ⟨rfl, hB1⟩

end Go.Proofs.Ytaieackeflmhgaa

namespace Go.Proofs.Ytaieackeflmhgaa
open Go.RowKit Go.Sort Go.Maps

def wrongRule (m : Mdl) : Int := firstIx (fun j => !goodRule m j) (List.range m.rules.length)

theorem wrongRule_of {m : Mdl} {k : Int} (h : FirstBad m.rules.length (goodRule m) k) : k = wrongRule m := by
  refine h.unique ?_
  unfold wrongRule
  rcases firstIx_cases (fun j => !goodRule m j) (List.range m.rules.length) with ⟨e, h1⟩ | ⟨i, x, e, h1, h2, h3⟩
  · refine .inl ⟨e, fun j hj => ?_⟩
    have := h1 j j (by simp [hj])
    simpa using this
  · have hi := get_lt h1
    rw [List.length_range] at hi
    have hxi : x = i := by
      have := List.getElem?_range hi
      rw [this] at h1
      cases h1; rfl
    subst hxi
    refine .inr ⟨x, e, hi, by simpa using h2, fun j hj => ?_⟩
    have := h3 j j hj (List.getElem?_range (by omega))
    simpa using this

/-- what P3 asks, but for the events: the error and its number -/
def valid (m : Mdl) (en : Int) : Int × Int :=
  if limB m = true then
    if 0 ≤ firstIx (linkBad m) m.links then (2, firstIx (linkBad m) m.links)
    else if 0 ≤ wrongRule m then (3, wrongRule m)
    else if 0 ≤ firstIx (startBad m) m.starts then (4, firstIx (startBad m) m.starts)
    else if withinB en 0 200 = true then (0, 0) else (5, 0)
  else (1, 0)

structure Right (m : Mdl) : Prop where
  lim : Lim m
  links : ∀ (j : Nat) (y : MLink), m.links[j]? = some y → linkBad m y = false
  rules : ∀ j, j < m.rules.length → goodRule m j = true
  starts : ∀ (j : Nat) (y : MStart), m.starts[j]? = some y → startBad m y = false

theorem valid_range {m : Mdl} {en : Int} (h : limB m = false) : valid m en = (1, 0) := by simp [valid, h]
theorem valid_link {m : Mdl} {en k : Int} (h : limB m = true) (hk : firstIx (linkBad m) m.links = k) (h0 : 0 ≤ k) : valid m en = (2, k) := by subst hk; simp [valid, h, h0]
theorem valid_rule {m : Mdl} {en k : Int} (h : limB m = true) (h1 : firstIx (linkBad m) m.links = -1) (hk : wrongRule m = k) (h0 : 0 ≤ k) : valid m en = (3, k) := by subst hk; simp [valid, h, h1, h0]
theorem valid_start {m : Mdl} {en k : Int} (h : limB m = true) (h1 : firstIx (linkBad m) m.links = -1) (h2 : wrongRule m = -1) (hk : firstIx (startBad m) m.starts = k) (h0 : 0 ≤ k) : valid m en = (4, k) := by subst hk; simp [valid, h, h1, h2, h0]
theorem valid_end {m : Mdl} {en : Int} (h : limB m = true) (h1 : firstIx (linkBad m) m.links = -1) (h2 : wrongRule m = -1) (h3 : firstIx (startBad m) m.starts = -1) (h4 : withinB en 0 200 = false) : valid m en = (5, 0) := by simp [valid, h, h1, h2, h3, h4]
theorem valid_ok {m : Mdl} {en : Int} (h : limB m = true) (h1 : firstIx (linkBad m) m.links = -1) (h2 : wrongRule m = -1) (h3 : firstIx (startBad m) m.starts = -1) (h4 : withinB en 0 200 = true) : valid m en = (0, 0) := by simp [valid, h, h1, h2, h3, h4]

theorem firstIx_neg {α : Type} {p : α → Bool} {l : List α} (h : ¬ 0 ≤ firstIx p l) : firstIx p l = -1 ∧ ∀ (j : Nat) (y : α), l[j]? = some y → p y = false := by
  rcases firstIx_cases p l with h1 | ⟨i, x, e, _⟩
  · exact h1
  · exact absurd (show 0 ≤ firstIx p l by omega) h

theorem right_of_valid {m : Mdl} {en : Int} (h : valid m en = (0, 0)) : Right m ∧ 0 ≤ en ∧ en ≤ 200 := by
  unfold valid at h
  by_cases h1 : limB m = true
  · rw [if_pos h1] at h
    by_cases h2 : 0 ≤ firstIx (linkBad m) m.links
    · rw [if_pos h2] at h; simp at h
    rw [if_neg h2] at h
    by_cases h3 : 0 ≤ wrongRule m
    · rw [if_pos h3] at h; simp at h
    rw [if_neg h3] at h
    by_cases h4 : 0 ≤ firstIx (startBad m) m.starts
    · rw [if_pos h4] at h; simp at h
    rw [if_neg h4] at h
    by_cases h5 : withinB en 0 200 = true
    · refine ⟨⟨lim_of_limB h1, (firstIx_neg h2).2, fun j hj => ?_, (firstIx_neg h4).2⟩, (withinB_iff.1 h5).1, (withinB_iff.1 h5).2⟩
      have := (firstIx_neg h3).2 j j (by simp [hj])
      simpa using this
    · rw [if_neg h5] at h; simp at h
  · rw [if_neg h1] at h; simp at h

theorem limB_no {m : Mdl} (h : withinB m.procs 1 6 = false ∨ withinB m.states 1 6 = false ∨ withinB m.loads 1 6 = false ∨ ¬ m.links.length ≤ 12 ∨ ¬ m.rules.length ≤ 40 ∨ ¬ m.starts.length ≤ 12) : limB m = false := by
  rcases h with h | h | h | h | h | h
  · simp [limB, h]
  · simp [limB, h]
  · simp [limB, h]
  · have : ¬ (m.links.length : Int) ≤ 12 := by omega
    simp [limB, this]
  · have : ¬ (m.rules.length : Int) ≤ 40 := by omega
    simp [limB, this]
  · have : ¬ (m.starts.length : Int) ≤ 12 := by omega
    simp [limB, this]

theorem limB_yes {m : Mdl} (h1 : withinB m.procs 1 6 = true) (h2 : withinB m.states 1 6 = true) (h3 : withinB m.loads 1 6 = true) (h4 : m.links.length ≤ 12) (h5 : m.rules.length ≤ 40) (h6 : m.starts.length ≤ 12) : limB m = true := by
  have a : (m.links.length : Int) ≤ 12 := by omega
  have b : (m.rules.length : Int) ≤ 40 := by omega
  have c : (m.starts.length : Int) ≤ 12 := by omega
  simp [limB, h1, h2, h3, a, b, c]

theorem ret_two {a b c d : Int} {k : IntKind} (h : (a, b) = (c, d)) : Ending.returned (.tuple #[.int k a, .int k b]) = .returned (.tuple #[.int k c, .int k d]) := by
  cases h; rfl

set_option maxRecDepth 100000 in
set_option maxHeartbeats 8000000 in
theorem refValid_any (m : Mdl) (lv rv sv : Value) (R : List RuleV) (B : Nat) (en : Int) (w : World) (h : ModelAt w B lv rv sv m R) (hB : B ≤ w.heap.size) (hne : ∀ r ∈ m.rules, r.es.length ≤ 5864062014634) :
    Calls Try.prog 44 #[.agg #[.int .i64 m.procs, .int .i64 m.states, .int .i64 m.loads, lv, rv, sv], .int .i64 en] w fun e w' => e = .returned (.tuple #[.int .i64 (valid m en).1, .int .i64 (valid m en).2]) ∧ Below w.heap.size w w' := by
  obtain ⟨ao, cap, hlv, hcap⟩ := RowsAt.form h.links
  obtain ⟨ao1, cap1, hrv, hcap1⟩ := RowsAt.form h.rules.1
  obtain ⟨ao2, cap2, hsv, hcap2⟩ := RowsAt.form h.starts
  rw [h.rlen] at hrv hcap1
  subst hlv hrv hsv
  have hB0 : Below w.heap.size w (w.alloc (.cells #[.int .i64 m.procs, .int .i64 m.states, .int .i64 m.loads, (.slice ao m.links.length cap), (.slice ao1 m.rules.length cap1), (.slice ao2 m.starts.length cap2)] 26)) := (Below.refl _ _).alloc (Nat.le_refl _) _
  have hmb : Blk (w.alloc (.cells #[.int .i64 m.procs, .int .i64 m.states, .int .i64 m.loads, (.slice ao m.links.length cap), (.slice ao1 m.rules.length cap1), (.slice ao2 m.starts.length cap2)] 26)) w.heap.size #[.int .i64 m.procs, .int .i64 m.states, .int .i64 m.loads, (.slice ao m.links.length cap), (.slice ao1 m.rules.length cap1), (.slice ao2 m.starts.length cap2)] 26 := heap_alloc_new w _
  have R0 := Gr.refl (w.alloc (.cells #[.int .i64 m.procs, .int .i64 m.states, .int .i64 m.loads, (.slice ao m.links.length cap), (.slice ao1 m.rules.length cap1), (.slice ao2 m.starts.length cap2)] 26))
  have k0 := Gr.cells (v := .int .i64 m.procs) (hmb.cell 0)
  have k1 := Gr.cells (v := .int .i64 m.states) (hmb.cell 1)
  have k2 := Gr.cells (v := .int .i64 m.loads) (hmb.cell 2)
  have k3 := Gr.cells (v := (.slice ao m.links.length cap)) (hmb.cell 3)
  have k4 := Gr.cells (v := (.slice ao1 m.rules.length cap1)) (hmb.cell 4)
  have k5 := Gr.cells (v := (.slice ao2 m.starts.length cap2)) (hmb.cell 5)

  cases h1 : withinB m.procs 1 6 with
  | false =>
    have HV : Hid (valid m en = (1, 0)) := valid_range (en := en) (limB_no (.inl h1))
    clear h hne
    go_enter Try.func44, Try.ntmps44
    go_wp2_with (first | (go_at_call 75; refine (refBelow_any _ _ _).mono ?_; rintro e w1 ⟨rfl, rfl⟩) | (go_at_call 74; refine (refWithin_any _ _ _ _).mono ?_; rintro e w1 ⟨rfl, rfl⟩))
    go_ret2
    exact ⟨ret_two HV.out.symm, hB0⟩
  | true =>
    cases h2 : withinB m.states 1 6 with
    | false =>
      have HV : Hid (valid m en = (1, 0)) := valid_range (en := en) (limB_no (.inr (.inl h2)))
      clear h hne
      go_enter Try.func44, Try.ntmps44
      go_wp2_with (first | (go_at_call 75; refine (refBelow_any _ _ _).mono ?_; rintro e w1 ⟨rfl, rfl⟩) | (go_at_call 74; refine (refWithin_any _ _ _ _).mono ?_; rintro e w1 ⟨rfl, rfl⟩))
      go_ret2
      exact ⟨ret_two HV.out.symm, hB0⟩
    | true =>
      cases h3 : withinB m.loads 1 6 with
      | false =>
        have HV : Hid (valid m en = (1, 0)) := valid_range (en := en) (limB_no (.inr (.inr (.inl h3))))
        clear h hne
        go_enter Try.func44, Try.ntmps44
        go_wp2_with (first | (go_at_call 75; refine (refBelow_any _ _ _).mono ?_; rintro e w1 ⟨rfl, rfl⟩) | (go_at_call 74; refine (refWithin_any _ _ _ _).mono ?_; rintro e w1 ⟨rfl, rfl⟩))
        go_ret2
        exact ⟨ret_two HV.out.symm, hB0⟩
      | true =>
        by_cases h4 : m.links.length ≤ 12
        · by_cases h5 : m.rules.length ≤ 40
          · by_cases h6 : m.starts.length ≤ 12
            · have HL : Hid (limB m = true) := limB_yes h1 h2 h3 h4 h5 h6
              have hm := lim_of_limB HL.out
              go_enter Try.func44, Try.ntmps44
              go_wp2_with (first | (go_at_call 75; refine (refBelow_any _ _ _).mono ?_; rintro e w1 ⟨rfl, rfl⟩) | (go_at_call 74; refine (refWithin_any _ _ _ _).mono ?_; rintro e w1 ⟨rfl, rfl⟩))
              go_loopw [6] (fun si wr => ∃ i : Nat, si = .int .i64 i ∧ i ≤ m.links.length ∧ (∀ (j : Nat) (y : MLink), j < i → m.links[j]? = some y → linkBad m y = false) ∧ Gr (w.alloc (.cells #[.int .i64 m.procs, .int .i64 m.states, .int .i64 m.loads, (.slice ao m.links.length cap), (.slice ao1 m.rules.length cap1), (.slice ao2 m.starts.length cap2)] 26)) wr) (fun si _ => m.links.length - (intOf si).toNat)
              case atStart => exact ⟨0, rfl, Nat.zero_le _, fun j y hj => by omega, Gr.refl _⟩
              case round =>
                obtain ⟨i, rfl, hi, hb, hg⟩ := hrel
                have hlw : w.heap.size < wr.heap.size := by have := Below.size hg; simp at this; omega
                by_cases hlt : i < m.links.length
                · obtain ⟨x, hx⟩ := get_of_lt hlt
                  obtain ⟨b, off, hao, hbB, hc⟩ := RowsAt.at_ h.links hx
                  subst hao
                  have c0 := hg.cell (hB0.cell (p := ⟨b, off + i * 3 + 0, none⟩) (Nat.lt_of_lt_of_le hbB hB) ▸ hc 0 (.int .i64 x.f) rfl)
                  have c1 := hg.cell (hB0.cell (p := ⟨b, off + i * 3 + 1, none⟩) (Nat.lt_of_lt_of_le hbB hB) ▸ hc 1 (.int .i64 x.t) rfl)
                  have c2 := hg.cell (hB0.cell (p := ⟨b, off + i * 3 + 2, none⟩) (Nat.lt_of_lt_of_le hbB hB) ▸ hc 2 (.int .i64 x.a) rfl)
                  simp only [Nat.add_zero] at c0
                  have hgr := hg.alloc (.cells #[.int .i64 x.f, .int .i64 x.t, .int .i64 x.a] 93)
                  have Hx : Hid (m.links[i]? = some x) := hx
                  clear hx hc h
                  cases e1 : withinB x.f 0 (m.procs - 1) with
                  | false =>
                    have HF : Hid (linkBad m x = true) := by show _ = _; simp [linkBad, isP, e1]
                    go_wp2_with (first | (go_at_call 75; refine (refBelow_any _ _ _).mono ?_; rintro e w1 ⟨rfl, rfl⟩) | (go_at_call 74; refine (refWithin_any _ _ _ _).mono ?_; rintro e w1 ⟨rfl, rfl⟩))
                    go_ret2
                    exact ⟨ret_two (valid_link HL.out (firstIx_at Hx.out HF.out hb) (by omega)).symm, Gr.below hgr hB0⟩
                  | true =>
                    cases e2 : withinB x.t 0 (m.procs - 1) with
                    | false =>
                      have HF : Hid (linkBad m x = true) := by show _ = _; simp [linkBad, isP, e1, e2]
                      go_wp2_with (first | (go_at_call 75; refine (refBelow_any _ _ _).mono ?_; rintro e w1 ⟨rfl, rfl⟩) | (go_at_call 74; refine (refWithin_any _ _ _ _).mono ?_; rintro e w1 ⟨rfl, rfl⟩))
                      go_ret2
                      exact ⟨ret_two (valid_link HL.out (firstIx_at Hx.out HF.out hb) (by omega)).symm, Gr.below hgr hB0⟩
                    | true =>
                      cases e3 : withinB x.a 1 50 with
                      | false =>
                        have HF : Hid (linkBad m x = true) := by show _ = _; simp [linkBad, isP, e1, e2, e3]
                        go_wp2_with (first | (go_at_call 75; refine (refBelow_any _ _ _).mono ?_; rintro e w1 ⟨rfl, rfl⟩) | (go_at_call 74; refine (refWithin_any _ _ _ _).mono ?_; rintro e w1 ⟨rfl, rfl⟩))
                        go_ret2
                        exact ⟨ret_two (valid_link HL.out (firstIx_at Hx.out HF.out hb) (by omega)).symm, Gr.below hgr hB0⟩
                      | true =>
                        have HF : Hid (linkBad m x = false) := by show _ = _; simp [linkBad, isP, e1, e2, e3]
                        go_wp2_with (first | (go_at_call 75; refine (refBelow_any _ _ _).mono ?_; rintro e w1 ⟨rfl, rfl⟩) | (go_at_call 74; refine (refWithin_any _ _ _ _).mono ?_; rintro e w1 ⟨rfl, rfl⟩))
                        go_roundw
                        case rel =>
                          refine ⟨i + 1, by go_num, hlt, fun j y hj hy => ?_, hgr⟩
                          by_cases hji : j = i
                          · subst hji; rw [Hx.out] at hy; cases hy; exact HF.out
                          · exact hb j y (by omega) hy
                        case measure => simp [intOf]; omega
                · have H1 : Hid (firstIx (linkBad m) m.links = -1) := firstIx_none (fun j y hy => hb j y (by have := get_lt hy; omega) hy)
                  clear hb
                  go_wp2
                  go_loopw [8] (fun si wr => ∃ i : Nat, si = .int .i64 i ∧ i ≤ m.rules.length ∧ (∀ j, j < i → goodRule m j = true) ∧ Gr (w.alloc (.cells #[.int .i64 m.procs, .int .i64 m.states, .int .i64 m.loads, (.slice ao m.links.length cap), (.slice ao1 m.rules.length cap1), (.slice ao2 m.starts.length cap2)] 26)) wr) (fun si _ => m.rules.length - (intOf si).toNat)
                  case atStart => exact ⟨0, rfl, Nat.zero_le _, fun j hj => by omega, hg⟩
                  case round =>
                    clear hg hlt hi
                    obtain ⟨i, rfl, hi, hb, hg⟩ := hrel
                    have hlw : w.heap.size < wr.heap.size := by have := Below.size hg; simp at this; omega
                    by_cases hlt : i < m.rules.length
                    · have hmw : Blk wr w.heap.size #[.int .i64 m.procs, .int .i64 m.states, .int .i64 m.loads, (.slice ao m.links.length cap), (.slice ao1 m.rules.length cap1), (.slice ao2 m.starts.length cap2)] 26 := hmb.keep hg.kept (fun e => e)
                      have hBw := Gr.below hg hB0
                      have hcall := refRule_any m hm (.slice ao m.links.length cap) (.slice ao1 m.rules.length cap1) (.slice ao2 m.starts.length cap2) R B i hlt wr (h.keep (hBw.mono hB)) (Nat.le_trans hB hBw.size) hne
                      clear h hne hmw
                      cases e1 : goodRule m i with
                      | false =>
                        have HF : Hid (goodRule m i = false) := e1
                        rw [e1] at hcall
                        clear e1
                        go_wp2_with fail
                        refine hcall.mono ?_
                        rintro e w2 ⟨rfl, g2⟩
                        go_wp2
                        go_ret2
                        exact ⟨ret_two (valid_rule HL.out H1.out (wrongRule_of (.inr ⟨i, rfl, hlt, HF.out, hb⟩)).symm (by omega)).symm, hBw.trans (g2.mono hBw.size)⟩
                      | true =>
                        have HF : Hid (goodRule m i = true) := e1
                        rw [e1] at hcall
                        clear e1
                        go_wp2_with fail
                        refine hcall.mono ?_
                        rintro e w2 ⟨rfl, g2⟩
                        go_wp2
                        go_roundw
                        case rel =>
                          refine ⟨i + 1, by go_num, hlt, fun j hj => ?_, hg.trans g2⟩
                          by_cases hji : j = i
                          · subst hji; exact HF.out
                          · exact hb j (by omega)
                        case measure => simp [intOf]; omega
                    · have H2 : Hid (wrongRule m = -1) := (wrongRule_of (.inl ⟨rfl, fun j hj => hb j (by omega)⟩)).symm
                      clear hb
                      go_wp2
                      go_loopw [10] (fun si wr => ∃ i : Nat, si = .int .i64 i ∧ i ≤ m.starts.length ∧ (∀ (j : Nat) (y : MStart), j < i → m.starts[j]? = some y → startBad m y = false) ∧ Gr (w.alloc (.cells #[.int .i64 m.procs, .int .i64 m.states, .int .i64 m.loads, (.slice ao m.links.length cap), (.slice ao1 m.rules.length cap1), (.slice ao2 m.starts.length cap2)] 26)) wr) (fun si _ => m.starts.length - (intOf si).toNat)
                      case atStart => exact ⟨0, rfl, Nat.zero_le _, fun j y hj => by omega, hg⟩
                      case round =>
                        clear hg hlt hi
                        obtain ⟨i, rfl, hi, hb, hg⟩ := hrel
                        have hlw : w.heap.size < wr.heap.size := by have := Below.size hg; simp at this; omega
                        by_cases hlt : i < m.starts.length
                        · obtain ⟨x, hx⟩ := get_of_lt hlt
                          obtain ⟨b, off, hao, hbB, hc⟩ := RowsAt.at_ h.starts hx
                          subst hao
                          have c0 := hg.cell (hB0.cell (p := ⟨b, off + i * 3 + 0, none⟩) (Nat.lt_of_lt_of_le hbB hB) ▸ hc 0 (.int .i64 x.p) rfl)
                          have c1 := hg.cell (hB0.cell (p := ⟨b, off + i * 3 + 1, none⟩) (Nat.lt_of_lt_of_le hbB hB) ▸ hc 1 (.int .i64 x.t) rfl)
                          have c2 := hg.cell (hB0.cell (p := ⟨b, off + i * 3 + 2, none⟩) (Nat.lt_of_lt_of_le hbB hB) ▸ hc 2 (.int .i64 x.l) rfl)
                          simp only [Nat.add_zero] at c0
                          have hgr := hg.alloc (.cells #[.int .i64 x.p, .int .i64 x.t, .int .i64 x.l] 72)
                          have Hx : Hid (m.starts[i]? = some x) := hx
                          clear hx hc h
                          cases e1 : withinB x.p 0 (m.procs - 1) with
                          | false =>
                            have HF : Hid (startBad m x = true) := by show _ = _; simp [startBad, isP, isL, e1]
                            go_wp2_with (first | (go_at_call 75; refine (refBelow_any _ _ _).mono ?_; rintro e w1 ⟨rfl, rfl⟩) | (go_at_call 74; refine (refWithin_any _ _ _ _).mono ?_; rintro e w1 ⟨rfl, rfl⟩))
                            go_ret2
                            exact ⟨ret_two (valid_start HL.out H1.out H2.out (firstIx_at Hx.out HF.out hb) (by omega)).symm, Gr.below hgr hB0⟩
                          | true =>
                            cases e2 : withinB x.t 0 200 with
                            | false =>
                              have HF : Hid (startBad m x = true) := by show _ = _; simp [startBad, isP, isL, e1, e2]
                              go_wp2_with (first | (go_at_call 75; refine (refBelow_any _ _ _).mono ?_; rintro e w1 ⟨rfl, rfl⟩) | (go_at_call 74; refine (refWithin_any _ _ _ _).mono ?_; rintro e w1 ⟨rfl, rfl⟩))
                              go_ret2
                              exact ⟨ret_two (valid_start HL.out H1.out H2.out (firstIx_at Hx.out HF.out hb) (by omega)).symm, Gr.below hgr hB0⟩
                            | true =>
                              cases e3 : withinB x.l 0 (m.loads - 1) with
                              | false =>
                                have HF : Hid (startBad m x = true) := by show _ = _; simp [startBad, isP, isL, e1, e2, e3]
                                go_wp2_with (first | (go_at_call 75; refine (refBelow_any _ _ _).mono ?_; rintro e w1 ⟨rfl, rfl⟩) | (go_at_call 74; refine (refWithin_any _ _ _ _).mono ?_; rintro e w1 ⟨rfl, rfl⟩))
                                go_ret2
                                exact ⟨ret_two (valid_start HL.out H1.out H2.out (firstIx_at Hx.out HF.out hb) (by omega)).symm, Gr.below hgr hB0⟩
                              | true =>
                                have HF : Hid (startBad m x = false) := by show _ = _; simp [startBad, isP, isL, e1, e2, e3]
                                go_wp2_with (first | (go_at_call 75; refine (refBelow_any _ _ _).mono ?_; rintro e w1 ⟨rfl, rfl⟩) | (go_at_call 74; refine (refWithin_any _ _ _ _).mono ?_; rintro e w1 ⟨rfl, rfl⟩))
                                go_roundw
                                case rel =>
                                  refine ⟨i + 1, by go_num, hlt, fun j y hj hy => ?_, hgr⟩
                                  by_cases hji : j = i
                                  · subst hji; rw [Hx.out] at hy; cases hy; exact HF.out
                                  · exact hb j y (by omega) hy
                                case measure => simp [intOf]; omega
                        · have H3 : Hid (firstIx (startBad m) m.starts = -1) := firstIx_none (fun j y hy => hb j y (by have := get_lt hy; omega) hy)
                          have hBw := Gr.below hg hB0
                          clear h hne hb
                          cases e1 : withinB en 0 200 with
                          | false =>
                            have HV : Hid (valid m en = (5, 0)) := valid_end HL.out H1.out H2.out H3.out e1
                            go_wp2_with (go_at_call 74; refine (refWithin_any _ _ _ _).mono ?_; rintro e w1 ⟨rfl, rfl⟩)
                            go_ret2
                            exact ⟨ret_two HV.out.symm, hBw⟩
                          | true =>
                            have HV : Hid (valid m en = (0, 0)) := valid_ok HL.out H1.out H2.out H3.out e1
                            go_wp2_with (go_at_call 74; refine (refWithin_any _ _ _ _).mono ?_; rintro e w1 ⟨rfl, rfl⟩)
                            go_ret2
                            exact ⟨ret_two HV.out.symm, hBw⟩
            · have HV : Hid (valid m en = (1, 0)) := valid_range (en := en) (limB_no (.inr (.inr (.inr (.inr (.inr h6))))))
              clear h hne
              go_enter Try.func44, Try.ntmps44
              go_wp2_with (first | (go_at_call 75; refine (refBelow_any _ _ _).mono ?_; rintro e w1 ⟨rfl, rfl⟩) | (go_at_call 74; refine (refWithin_any _ _ _ _).mono ?_; rintro e w1 ⟨rfl, rfl⟩))
              go_ret2
              exact ⟨ret_two HV.out.symm, hB0⟩
          · have HV : Hid (valid m en = (1, 0)) := valid_range (en := en) (limB_no (.inr (.inr (.inr (.inr (.inl h5))))))
            clear h hne
            go_enter Try.func44, Try.ntmps44
            go_wp2_with (first | (go_at_call 75; refine (refBelow_any _ _ _).mono ?_; rintro e w1 ⟨rfl, rfl⟩) | (go_at_call 74; refine (refWithin_any _ _ _ _).mono ?_; rintro e w1 ⟨rfl, rfl⟩))
            go_ret2
            exact ⟨ret_two HV.out.symm, hB0⟩
        · have HV : Hid (valid m en = (1, 0)) := valid_range (en := en) (limB_no (.inr (.inr (.inr (.inl h4)))))
          clear h hne
          go_enter Try.func44, Try.ntmps44
          go_wp2_with (first | (go_at_call 75; refine (refBelow_any _ _ _).mono ?_; rintro e w1 ⟨rfl, rfl⟩) | (go_at_call 74; refine (refWithin_any _ _ _ _).mono ?_; rintro e w1 ⟨rfl, rfl⟩))
          go_ret2
          exact ⟨ret_two HV.out.symm, hB0⟩

end Go.Proofs.Ytaieackeflmhgaa

