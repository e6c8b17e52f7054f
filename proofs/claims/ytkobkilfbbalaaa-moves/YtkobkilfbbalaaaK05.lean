/-
  The reference: rule.
  The reference: Valid.
  What happens in a model, plainly: events that wait, done one behind the other. Nothing of the program.
  Rows of one's own, of whatever is encoded in a fixed number of cells.
-/
import Derived.Test.YtkobkilfbbalaaaK04
import Derived.Test.YtkobkilfbbalaaaK03
namespace Go.Proofs.Ytkobkilfbbalaaa
open Go.RowKit Go.Sort Go.Maps

theorem firstIx_cases {α : Type} (p : α → Bool) (l : List α) : (firstIx p l = -1 ∧ ∀ (j : Nat) (y : α), l[j]? = some y → p y = false) ∨ ∃ (i : Nat) (x : α), firstIx p l = (i : Int) ∧ l[i]? = some x ∧ p x = true ∧ ∀ (j : Nat) (y : α), j < i → l[j]? = some y → p y = false := by
  by_cases h : ∃ x ∈ l, p x = true
  · right
    cases hf : l.findIdx? p with
    | none =>
      obtain ⟨x, hx, hp⟩ := h
      rw [List.findIdx?_eq_none_iff] at hf
      have := hf x hx
      rw [hp] at this; cases this
    | some i =>
      have := hf
      rw [List.findIdx?_eq_some_iff_getElem] at this
      obtain ⟨hi, h1, h2⟩ := this
      refine ⟨i, l[i], by simp [firstIx, hf], List.getElem?_eq_getElem hi, h1, fun j y hj hy => ?_⟩
      have hj' : j < l.length := by omega
      rw [List.getElem?_eq_getElem hj'] at hy
      cases hy
      simpa using h2 j hj
  · left
    have hn : ∀ (j : Nat) (y : α), l[j]? = some y → p y = false := fun j y hy => by
      cases hp : p y
      · rfl
      · exact absurd ⟨y, List.mem_of_getElem? hy, hp⟩ h
    exact ⟨firstIx_none hn, hn⟩

theorem firstIx_self {α : Type} {p : α → Bool} {l : List α} {i : Nat} {x : α} (hx : l[i]? = some x) (hp : p x = true) : decide (firstIx p l = (i : Int)) = !decide (0 ≤ firstIx p (l.take i)) := by
  have hi := get_lt hx
  rcases firstIx_cases p (l.take i) with ⟨e, h⟩ | ⟨j, y, e, h1, h2, h3⟩
  · rw [e, firstIx_at hx hp (fun j y hj hy => h j y (by rw [List.getElem?_take_of_lt hj]; exact hy))]
    simp
  · have hj := get_lt h1
    rw [List.length_take] at hj
    have hji : j < i := by omega
    rw [List.getElem?_take_of_lt hji] at h1
    rw [e, firstIx_at h1 h2 (fun k z hk hz => h3 k z hk (by rw [List.getElem?_take_of_lt (by omega)]; exact hz))]
    have h4 : ((j : Int) = (i : Int)) = False := by simp; omega
    simp [h4]

theorem ruleOk_all {m : Mdl} {r : MRule} (h1 : isP m r.p = true) (h2 : isS m r.s = true) (h3 : isL m r.l = true) (h4 : isS m r.n = true) (h5 : r.es.length ≤ 4) : ruleOk m r = r.es.all (emitOk m r.p) := by
  simp [ruleOk, h1, h2, h3, h4, h5]

theorem ruleOk_no {m : Mdl} {r : MRule} (h : isP m r.p = false ∨ isS m r.s = false ∨ isL m r.l = false ∨ isS m r.n = false ∨ ¬ r.es.length ≤ 4) : ruleOk m r = false := by
  rcases h with h | h | h | h | h <;> simp [ruleOk, h]

set_option maxRecDepth 100000 in
set_option maxHeartbeats 4000000 in
theorem refRule_any (m : Mdl) (hm : Lim m) (lv rv sv : Value) (R : List RuleV) (B : Nat) (i : Nat) (hi : i < m.rules.length) (w : World) (h : ModelAt w B lv rv sv m R) (hB : B ≤ w.heap.size) (hne : ∀ r ∈ m.rules, r.es.length ≤ 5864062014634) :
    Calls Try.prog 56 #[.agg #[.int .i64 m.procs, .int .i64 m.states, .int .i64 m.loads, lv, rv, sv], .int .i64 i] w fun e w' => e = .returned (.bool (goodRule m i)) ∧ Below w.heap.size w w' := by
  obtain ⟨ao, cap, hrv, hcap⟩ := RowsAt.form h.rules.1
  have hrl := h.rlen
  rw [hrl] at hrv hcap
  subst hrv
  have hnr := hm.nr
  obtain ⟨⟨r, ev⟩, hx, hxr, hE⟩ := h.rule hi
  have hE : EmitsAt w B ev r.es := hE
  have hxr : m.rules[i]? = some r := hxr
  obtain ⟨aoe, cape, rfl, hcape⟩ := RowsAt.form hE
  obtain ⟨b, off, hao, hbB, hc⟩ := RowsAt.at_ h.rules.1 hx
  subst hao
  have H := goodRule_at hxr
  have hel := hne r (List.mem_of_getElem? hxr)
  have L0 := cell?_alloc_some' (o := .cells #[.int .i64 m.procs, .int .i64 m.states, .int .i64 m.loads, lv, (.slice (some ⟨b, off, none⟩) m.rules.length cap), sv] 26) (hc 0 (.int .i64 r.p) rfl)
  have L1 := cell?_alloc_some' (o := .cells #[.int .i64 m.procs, .int .i64 m.states, .int .i64 m.loads, lv, (.slice (some ⟨b, off, none⟩) m.rules.length cap), sv] 26) (hc 1 (.int .i64 r.s) rfl)
  have L2 := cell?_alloc_some' (o := .cells #[.int .i64 m.procs, .int .i64 m.states, .int .i64 m.loads, lv, (.slice (some ⟨b, off, none⟩) m.rules.length cap), sv] 26) (hc 2 (.int .i64 r.l) rfl)
  have L3 := cell?_alloc_some' (o := .cells #[.int .i64 m.procs, .int .i64 m.states, .int .i64 m.loads, lv, (.slice (some ⟨b, off, none⟩) m.rules.length cap), sv] 26) (hc 3 (.int .i64 r.n) rfl)
  have L4 := cell?_alloc_some' (o := .cells #[.int .i64 m.procs, .int .i64 m.states, .int .i64 m.loads, lv, (.slice (some ⟨b, off, none⟩) m.rules.length cap), sv] 26) (hc 4 (.slice aoe r.es.length cape) rfl)
  simp only [Nat.add_zero] at L0
  have hB1 : Below w.heap.size w ((w.alloc (.cells #[.int .i64 m.procs, .int .i64 m.states, .int .i64 m.loads, lv, (.slice (some ⟨b, off, none⟩) m.rules.length cap), sv] 26)).alloc (.cells #[.int .i64 r.p, .int .i64 r.s, .int .i64 r.l, .int .i64 r.n, .slice aoe r.es.length cape] 81)) := ((Below.refl _ _).alloc (Nat.le_refl _) _).alloc (by simp) _
  have hbs : b < w.heap.size := Nat.lt_of_lt_of_le hbB hB
  have hii : (i : Int) < m.rules.length := by omega
  have q1 : isP m r.p = withinB r.p 0 (m.procs - 1) := rfl
  have q2 : isS m r.s = withinB r.s 0 (m.states - 1) := rfl
  have q3 : isL m r.l = withinB r.l 0 (m.loads - 1) := rfl
  have q4 : isS m r.n = withinB r.n 0 (m.states - 1) := rfl
  cases h1 : withinB r.p 0 (m.procs - 1) with
  | false =>
    rw [ruleOk_no (.inl (q1.trans h1)), Bool.false_and] at H
    clear h hE hxr hx hc q1 q2 q3 q4
    go_enter Try.func56, Try.ntmps56
    go_wp2_with (go_at_call 55; refine (refBelow_any _ _ _).mono ?_; rintro e w1 ⟨rfl, rfl⟩)
    go_ret
    first | exact ⟨ret_bool H.symm, hB1⟩ | exact ⟨rfl, hB1⟩
  | true =>
    cases h2 : withinB r.s 0 (m.states - 1) with
    | false =>
      rw [ruleOk_no (.inr (.inl (q2.trans h2))), Bool.false_and] at H
      clear h hE hxr hx hc q1 q2 q3 q4
      go_enter Try.func56, Try.ntmps56
      go_wp2_with (go_at_call 55; refine (refBelow_any _ _ _).mono ?_; rintro e w1 ⟨rfl, rfl⟩)
      go_ret
      first | exact ⟨ret_bool H.symm, hB1⟩ | exact ⟨rfl, hB1⟩
    | true =>
      cases h4 : withinB r.n 0 (m.states - 1) with
      | false =>
        rw [ruleOk_no (.inr (.inr (.inr (.inl (q4.trans h4))))), Bool.false_and] at H
        clear h hE hxr hx hc q1 q2 q3 q4
        go_enter Try.func56, Try.ntmps56
        go_wp2_with (go_at_call 55; refine (refBelow_any _ _ _).mono ?_; rintro e w1 ⟨rfl, rfl⟩)
        go_ret
        first | exact ⟨ret_bool H.symm, hB1⟩ | exact ⟨rfl, hB1⟩
      | true =>
        cases h3 : withinB r.l 0 (m.loads - 1) with
        | false =>
          rw [ruleOk_no (.inr (.inr (.inl (q3.trans h3)))), Bool.false_and] at H
          clear h hE hxr hx hc q1 q2 q3 q4
          go_enter Try.func56, Try.ntmps56
          go_wp2_with (go_at_call 55; refine (refBelow_any _ _ _).mono ?_; rintro e w1 ⟨rfl, rfl⟩)
          go_ret
          first | exact ⟨ret_bool H.symm, hB1⟩ | exact ⟨rfl, hB1⟩
        | true =>
          by_cases h5 : r.es.length ≤ 4
          · rw [ruleOk_all (q1.trans h1) (q2.trans h2) (q3.trans h3) (q4.trans h4) h5] at H
            have hfix : decide (firstIx (ruleFor r.p r.s r.l) m.rules = (i : Int)) = !decide (0 ≤ firstIx (ruleFor r.p r.s r.l) (m.rules.take i)) := firstIx_self hxr (by simp [ruleFor])
            rw [← hfix] at H
            have HH : Hid (goodRule m i = (r.es.all (emitOk m r.p) && decide (firstIx (ruleFor r.p r.s r.l) m.rules = (i : Int)))) := H
            clear hxr hx hc q1 q2 q3 q4 H hfix
            have hmb : Blk ((w.alloc (.cells #[.int .i64 m.procs, .int .i64 m.states, .int .i64 m.loads, lv, (.slice (some ⟨b, off, none⟩) m.rules.length cap), sv] 26)).alloc (.cells #[.int .i64 r.p, .int .i64 r.s, .int .i64 r.l, .int .i64 r.n, .slice aoe r.es.length cape] 81)) w.heap.size #[.int .i64 m.procs, .int .i64 m.states, .int .i64 m.loads, lv, (.slice (some ⟨b, off, none⟩) m.rules.length cap), sv] 26 := Blk.alloc (heap_alloc_new w (.cells #[.int .i64 m.procs, .int .i64 m.states, .int .i64 m.loads, lv, (.slice (some ⟨b, off, none⟩) m.rules.length cap), sv] 26) : Blk _ _ _ _) _
            have hrb : Blk ((w.alloc (.cells #[.int .i64 m.procs, .int .i64 m.states, .int .i64 m.loads, lv, (.slice (some ⟨b, off, none⟩) m.rules.length cap), sv] 26)).alloc (.cells #[.int .i64 r.p, .int .i64 r.s, .int .i64 r.l, .int .i64 r.n, .slice aoe r.es.length cape] 81)) (w.heap.size + 1) #[.int .i64 r.p, .int .i64 r.s, .int .i64 r.l, .int .i64 r.n, .slice aoe r.es.length cape] 81 := by
              have := heap_alloc_new (w.alloc (.cells #[.int .i64 m.procs, .int .i64 m.states, .int .i64 m.loads, lv, (.slice (some ⟨b, off, none⟩) m.rules.length cap), sv] 26)) (.cells #[.int .i64 r.p, .int .i64 r.s, .int .i64 r.l, .int .i64 r.n, .slice aoe r.es.length cape] 81)
              rw [World.size_alloc] at this
              exact this
            go_enter Try.func56, Try.ntmps56
            go_wp2_with (go_at_call 55; refine (refBelow_any _ _ _).mono ?_; rintro e w1 ⟨rfl, rfl⟩)
            clear L0 L1 L2 L3 L4
            go_loopw [6] (fun sk wr => ∃ k : Nat, sk = .int .i64 k ∧ k ≤ r.es.length ∧ (∀ (j : Nat) (y : MEmit), j < k → r.es[j]? = some y → emitOk m r.p y = true) ∧ Gr ((w.alloc (.cells #[.int .i64 m.procs, .int .i64 m.states, .int .i64 m.loads, lv, (.slice (some ⟨b, off, none⟩) m.rules.length cap), sv] 26)).alloc (.cells #[.int .i64 r.p, .int .i64 r.s, .int .i64 r.l, .int .i64 r.n, .slice aoe r.es.length cape] 81)) wr) (fun sk _ => r.es.length - (intOf sk).toNat)
            case atStart => exact ⟨0, rfl, Nat.zero_le _, fun j y hj => by omega, Gr.refl _⟩
            case round =>
              obtain ⟨k, rfl, hk, hb, hg⟩ := hrel
              have hmw : Blk wr w.heap.size #[.int .i64 m.procs, .int .i64 m.states, .int .i64 m.loads, lv, (.slice (some ⟨b, off, none⟩) m.rules.length cap), sv] 26 := hmb.keep hg.kept (fun e => e)
              have hrw : Blk wr (w.heap.size + 1) #[.int .i64 r.p, .int .i64 r.s, .int .i64 r.l, .int .i64 r.n, .slice aoe r.es.length cape] 81 := hrb.keep hg.kept (fun e => e)
              have m0 := hmw.cell 0
              have m1 := hmw.cell 1
              have m2 := hmw.cell 2
              have m3 := hmw.cell 3
              have m4 := hmw.cell 4
              have m5 := hmw.cell 5
              have x0 := hrw.cell 0
              have x1 := hrw.cell 1
              have x2 := hrw.cell 2
              have x3 := hrw.cell 3
              have x4 := hrw.cell 4
              simp only [List.getElem?_toArray, List.getElem?_cons_zero, List.getElem?_cons_succ] at m0 m1 m2 m3 m4 m5 x0 x1 x2 x3 x4
              have hBw := Gr.below hg hB1
              by_cases hlt : k < r.es.length
              · obtain ⟨x, hxe⟩ := get_of_lt hlt
                obtain ⟨b2, off2, hao2, hbB2, hc2⟩ := RowsAt.at_ hE hxe
                subst hao2
                have k0 := cell_regrown (v := .int .i64 m.procs) m0
                have k1 := cell_regrown (v := .int .i64 m.states) m1
                have k2 := cell_regrown (v := .int .i64 m.loads) m2
                have k3 := cell_regrown (v := lv) m3
                have k4 := cell_regrown (v := (.slice (some ⟨b, off, none⟩) m.rules.length cap)) m4
                have k5 := cell_regrown (v := sv) m5
                have y0 := cell_regrown (v := .int .i64 r.p) x0
                have y4 := cell_regrown (v := .slice (some ⟨b2, off2, none⟩) r.es.length cape) x4
                have z0 := cell_regrown (hBw.cell (p := ⟨b2, off2 + k * 3 + 0, none⟩) (Nat.lt_of_lt_of_le hbB2 hB) ▸ hc2 0 (.int .i64 x.k) rfl)
                have z1 := cell_regrown (hBw.cell (p := ⟨b2, off2 + k * 3 + 1, none⟩) (Nat.lt_of_lt_of_le hbB2 hB) ▸ hc2 1 (.int .i64 x.d) rfl)
                have z2 := cell_regrown (hBw.cell (p := ⟨b2, off2 + k * 3 + 2, none⟩) (Nat.lt_of_lt_of_le hbB2 hB) ▸ hc2 2 (.int .i64 x.l) rfl)
                simp only [Nat.add_zero] at z0
                have P1 : ∀ p : Regrown, Calls Try.prog 83 #[.agg #[.int .i64 m.procs, .int .i64 m.states, .int .i64 m.loads, lv, (.slice (some ⟨b, off, none⟩) m.rules.length cap), sv], .int .i64 r.p, .agg #[.int .i64 x.k, .int .i64 x.d, .int .i64 x.l]] (grow (redrawn wr p.d) p.os) fun e w'' => e = .returned (.bool (emitOk m r.p x)) ∧ ∃ p : Regrown, w'' = grow (redrawn wr p.d) p.os := fun p => by
                  have hb2 := hBw.trans ((below_regrown _ p.d p.os).mono hBw.size)
                  exact Calls.regrown_of (refEmits_any m hm lv _ sv R B r.p x _ (h.keep (hb2.mono hB)) (Nat.le_trans hB hb2.size))
                have Hx : Hid (r.es[k]? = some x) := hxe
                clear hxe hc2 h hE hmb hrb hmw hrw
                cases hv : emitOk m r.p x with
                | false =>
                  have Hv : Hid (emitOk m r.p x = false) := hv
                  rw [hv] at P1
                  clear hv
                  go_wp2
                  refine wp_region_quiet_below (by kernel_rfl) (by kernel_rfl) ?_
                  repeat (quiet_step (exact P1 _))
                  refine wpQuiet_nil ?_
                  intro wq hw'
                  have hbl := below_of_regrown hw'
                  clear hw' k0 k1 k2 k3 k4 k5 y0 y4 z0 z1 z2 P1
                  go_wp2
                  go_ret
                  refine ⟨ret_bool ?_, hBw.trans (hbl.mono hBw.size)⟩
                  rw [HH.out]
                  have : r.es.all (emitOk m r.p) = false := by
                    rw [← Bool.not_eq_true, List.all_eq_true]
                    intro ha
                    rw [ha x (List.mem_of_getElem? Hx.out)] at Hv
                    exact absurd Hv.out (by simp)
                  rw [this, Bool.false_and]
                | true =>
                  have Hv : Hid (emitOk m r.p x = true) := hv
                  rw [hv] at P1
                  clear hv
                  go_wp2
                  refine wp_region_quiet_below (by kernel_rfl) (by kernel_rfl) ?_
                  repeat (quiet_step (exact P1 _))
                  refine wpQuiet_nil ?_
                  intro wq hw'
                  have hbl := below_of_regrown hw'
                  clear hw' k0 k1 k2 k3 k4 k5 y0 y4 z0 z1 z2 P1
                  go_wp2
                  go_roundw
                  case rel =>
                    refine ⟨k + 1, by go_num, hlt, fun j y hj hy => ?_, hg.trans hbl⟩
                    by_cases hji : j = k
                    · subst hji; rw [Hx.out] at hy; cases hy; exact Hv.out
                    · exact hb j y (by omega) hy
                  case measure => simp [intOf]; omega
              · have hfind := refFind_any m lv _ sv R B r.p r.s r.l wr ((h.keep (hBw.mono hB)).rules) h.same (Nat.le_trans hB hBw.size) (by omega)
                have hke : Hid (k = r.es.length) := by show _ = _; omega
                clear h hE hmb hrb hmw hrw
                go_wp2_with fail
                refine hfind.mono ?_
                rintro e w2 ⟨rfl, g2⟩
                go_wp2
                go_ret
                refine ⟨ret_bool ?_, hBw.trans (g2.mono hBw.size)⟩
                rw [HH.out]
                have : r.es.all (emitOk m r.p) = true := by
                  rw [List.all_eq_true]
                  intro x hx
                  obtain ⟨j, hj⟩ := List.getElem?_of_mem hx
                  exact hb j x (by have := get_lt hj; have := hke.out; omega) hj
                rw [this, Bool.true_and]
                first | rfl | (rw [Bool.eq_iff_iff]; simp)
          · rw [ruleOk_no (.inr (.inr (.inr (.inr h5)))), Bool.false_and] at H
            clear h hE hxr hx hc q1 q2 q3 q4
            go_enter Try.func56, Try.ntmps56
            go_wp2_with (go_at_call 55; refine (refBelow_any _ _ _).mono ?_; rintro e w1 ⟨rfl, rfl⟩)
            go_ret
            first | exact ⟨ret_bool H.symm, hB1⟩ | exact ⟨rfl, hB1⟩

end Go.Proofs.Ytkobkilfbbalaaa

namespace Go.Proofs.Ytkobkilfbbalaaa
open Go.RowKit Go.Sort Go.Maps

def wrongRule (m : Mdl) : Int := firstIx (fun j => !goodRule m j) (List.range m.rules.length)

theorem wrongRule_of {m : Mdl} {k : Int} (h : FirstBad m.rules.length (goodRule m) k) : k = wrongRule m := by
  refine h.unique ?_
  unfold wrongRule
  rcases firstIx_cases (fun j => !goodRule m j) (List.range m.rules.length) with ⟨e, h1⟩ | ⟨i, x, e, h1, h2, h3⟩
  · refine .inl ⟨e, fun j hj => ?_⟩
    have := h1 j j (by simp [hj])
    simpa using this
  · have hi := get_lt h1
    rw [List.length_range] at hi
    have hxi : x = i := by
      have := List.getElem?_range hi
      rw [this] at h1
      cases h1; rfl
    subst hxi
    refine .inr ⟨x, e, hi, by simpa using h2, fun j hj => ?_⟩
    have := h3 j j hj (List.getElem?_range (by omega))
    simpa using this

/-- what P3 asks, but for the events: the error and its number -/
def valid (m : Mdl) (en : Int) : Int × Int :=
  if limB m = true then
    if 0 ≤ firstIx (linkBad m) m.links then (2, firstIx (linkBad m) m.links)
    else if 0 ≤ wrongRule m then (3, wrongRule m)
    else if 0 ≤ firstIx (startBad m) m.starts then (4, firstIx (startBad m) m.starts)
    else if withinB en 0 200 = true then (0, 0) else (5, 0)
  else (1, 0)

structure Right (m : Mdl) : Prop where
  lim : Lim m
  links : ∀ (j : Nat) (y : MLink), m.links[j]? = some y → linkBad m y = false
  rules : ∀ j, j < m.rules.length → goodRule m j = true
  starts : ∀ (j : Nat) (y : MStart), m.starts[j]? = some y → startBad m y = false

theorem valid_range {m : Mdl} {en : Int} (h : limB m = false) : valid m en = (1, 0) := by simp [valid, h]
theorem valid_link {m : Mdl} {en k : Int} (h : limB m = true) (hk : firstIx (linkBad m) m.links = k) (h0 : 0 ≤ k) : valid m en = (2, k) := by subst hk; simp [valid, h, h0]
theorem valid_rule {m : Mdl} {en k : Int} (h : limB m = true) (h1 : firstIx (linkBad m) m.links = -1) (hk : wrongRule m = k) (h0 : 0 ≤ k) : valid m en = (3, k) := by subst hk; simp [valid, h, h1, h0]
theorem valid_start {m : Mdl} {en k : Int} (h : limB m = true) (h1 : firstIx (linkBad m) m.links = -1) (h2 : wrongRule m = -1) (hk : firstIx (startBad m) m.starts = k) (h0 : 0 ≤ k) : valid m en = (4, k) := by subst hk; simp [valid, h, h1, h2, h0]
theorem valid_end {m : Mdl} {en : Int} (h : limB m = true) (h1 : firstIx (linkBad m) m.links = -1) (h2 : wrongRule m = -1) (h3 : firstIx (startBad m) m.starts = -1) (h4 : withinB en 0 200 = false) : valid m en = (5, 0) := by simp [valid, h, h1, h2, h3, h4]
theorem valid_ok {m : Mdl} {en : Int} (h : limB m = true) (h1 : firstIx (linkBad m) m.links = -1) (h2 : wrongRule m = -1) (h3 : firstIx (startBad m) m.starts = -1) (h4 : withinB en 0 200 = true) : valid m en = (0, 0) := by simp [valid, h, h1, h2, h3, h4]

theorem firstIx_neg {α : Type} {p : α → Bool} {l : List α} (h : ¬ 0 ≤ firstIx p l) : firstIx p l = -1 ∧ ∀ (j : Nat) (y : α), l[j]? = some y → p y = false := by
  rcases firstIx_cases p l with h1 | ⟨i, x, e, _⟩
  · exact h1
  · exact absurd (show 0 ≤ firstIx p l by omega) h

theorem right_of_valid {m : Mdl} {en : Int} (h : valid m en = (0, 0)) : Right m ∧ 0 ≤ en ∧ en ≤ 200 := by
  unfold valid at h
  by_cases h1 : limB m = true
  · rw [if_pos h1] at h
    by_cases h2 : 0 ≤ firstIx (linkBad m) m.links
    · rw [if_pos h2] at h; simp at h
    rw [if_neg h2] at h
    by_cases h3 : 0 ≤ wrongRule m
    · rw [if_pos h3] at h; simp at h
    rw [if_neg h3] at h
    by_cases h4 : 0 ≤ firstIx (startBad m) m.starts
    · rw [if_pos h4] at h; simp at h
    rw [if_neg h4] at h
    by_cases h5 : withinB en 0 200 = true
    · refine ⟨⟨lim_of_limB h1, (firstIx_neg h2).2, fun j hj => ?_, (firstIx_neg h4).2⟩, (withinB_iff.1 h5).1, (withinB_iff.1 h5).2⟩
      have := (firstIx_neg h3).2 j j (by simp [hj])
      simpa using this
    · rw [if_neg h5] at h; simp at h
  · rw [if_neg h1] at h; simp at h

theorem limB_no {m : Mdl} (h : withinB m.procs 1 6 = false ∨ withinB m.states 1 6 = false ∨ withinB m.loads 1 6 = false ∨ ¬ m.links.length ≤ 12 ∨ ¬ m.rules.length ≤ 40 ∨ ¬ m.starts.length ≤ 12) : limB m = false := by
  rcases h with h | h | h | h | h | h
  · simp [limB, h]
  · simp [limB, h]
  · simp [limB, h]
  · have : ¬ (m.links.length : Int) ≤ 12 := by omega
    simp [limB, this]
  · have : ¬ (m.rules.length : Int) ≤ 40 := by omega
    simp [limB, this]
  · have : ¬ (m.starts.length : Int) ≤ 12 := by omega
    simp [limB, this]

theorem limB_yes {m : Mdl} (h1 : withinB m.procs 1 6 = true) (h2 : withinB m.states 1 6 = true) (h3 : withinB m.loads 1 6 = true) (h4 : m.links.length ≤ 12) (h5 : m.rules.length ≤ 40) (h6 : m.starts.length ≤ 12) : limB m = true := by
  have a : (m.links.length : Int) ≤ 12 := by omega
  have b : (m.rules.length : Int) ≤ 40 := by omega
  have c : (m.starts.length : Int) ≤ 12 := by omega
  simp [limB, h1, h2, h3, a, b, c]

theorem ret_two {a b c d : Int} {k : IntKind} (h : (a, b) = (c, d)) : Ending.returned (.tuple #[.int k a, .int k b]) = .returned (.tuple #[.int k c, .int k d]) := by
  cases h; rfl

set_option maxRecDepth 100000 in
set_option maxHeartbeats 8000000 in
theorem refValid_any (m : Mdl) (lv rv sv : Value) (R : List RuleV) (B : Nat) (en : Int) (w : World) (h : ModelAt w B lv rv sv m R) (hB : B ≤ w.heap.size) (hne : ∀ r ∈ m.rules, r.es.length ≤ 5864062014634) :
    Calls Try.prog 27 #[.agg #[.int .i64 m.procs, .int .i64 m.states, .int .i64 m.loads, lv, rv, sv], .int .i64 en] w fun e w' => e = .returned (.tuple #[.int .i64 (valid m en).1, .int .i64 (valid m en).2]) ∧ Below w.heap.size w w' := by
  obtain ⟨ao, cap, hlv, hcap⟩ := RowsAt.form h.links
  obtain ⟨ao1, cap1, hrv, hcap1⟩ := RowsAt.form h.rules.1
  obtain ⟨ao2, cap2, hsv, hcap2⟩ := RowsAt.form h.starts
  rw [h.rlen] at hrv hcap1
  subst hlv hrv hsv
  have hB0 : Below w.heap.size w (w.alloc (.cells #[.int .i64 m.procs, .int .i64 m.states, .int .i64 m.loads, (.slice ao m.links.length cap), (.slice ao1 m.rules.length cap1), (.slice ao2 m.starts.length cap2)] 26)) := (Below.refl _ _).alloc (Nat.le_refl _) _
  have hmb : Blk (w.alloc (.cells #[.int .i64 m.procs, .int .i64 m.states, .int .i64 m.loads, (.slice ao m.links.length cap), (.slice ao1 m.rules.length cap1), (.slice ao2 m.starts.length cap2)] 26)) w.heap.size #[.int .i64 m.procs, .int .i64 m.states, .int .i64 m.loads, (.slice ao m.links.length cap), (.slice ao1 m.rules.length cap1), (.slice ao2 m.starts.length cap2)] 26 := heap_alloc_new w _
  have R0 := Gr.refl (w.alloc (.cells #[.int .i64 m.procs, .int .i64 m.states, .int .i64 m.loads, (.slice ao m.links.length cap), (.slice ao1 m.rules.length cap1), (.slice ao2 m.starts.length cap2)] 26))
  have k0 := Gr.cells (v := .int .i64 m.procs) (hmb.cell 0)
  have k1 := Gr.cells (v := .int .i64 m.states) (hmb.cell 1)
  have k2 := Gr.cells (v := .int .i64 m.loads) (hmb.cell 2)
  have k3 := Gr.cells (v := (.slice ao m.links.length cap)) (hmb.cell 3)
  have k4 := Gr.cells (v := (.slice ao1 m.rules.length cap1)) (hmb.cell 4)
  have k5 := Gr.cells (v := (.slice ao2 m.starts.length cap2)) (hmb.cell 5)

  cases h1 : withinB m.procs 1 6 with
  | false =>
    have HV : Hid (valid m en = (1, 0)) := valid_range (en := en) (limB_no (.inl h1))
    clear h hne
    go_enter Try.func27, Try.ntmps27
    go_wp2_with (first | (go_at_call 55; refine (refBelow_any _ _ _).mono ?_; rintro e w1 ⟨rfl, rfl⟩) | (go_at_call 54; refine (refWithin_any _ _ _ _).mono ?_; rintro e w1 ⟨rfl, rfl⟩))
    go_ret2
    exact ⟨ret_two HV.out.symm, hB0⟩
  | true =>
    cases h2 : withinB m.states 1 6 with
    | false =>
      have HV : Hid (valid m en = (1, 0)) := valid_range (en := en) (limB_no (.inr (.inl h2)))
      clear h hne
      go_enter Try.func27, Try.ntmps27
      go_wp2_with (first | (go_at_call 55; refine (refBelow_any _ _ _).mono ?_; rintro e w1 ⟨rfl, rfl⟩) | (go_at_call 54; refine (refWithin_any _ _ _ _).mono ?_; rintro e w1 ⟨rfl, rfl⟩))
      go_ret2
      exact ⟨ret_two HV.out.symm, hB0⟩
    | true =>
      cases h3 : withinB m.loads 1 6 with
      | false =>
        have HV : Hid (valid m en = (1, 0)) := valid_range (en := en) (limB_no (.inr (.inr (.inl h3))))
        clear h hne
        go_enter Try.func27, Try.ntmps27
        go_wp2_with (first | (go_at_call 55; refine (refBelow_any _ _ _).mono ?_; rintro e w1 ⟨rfl, rfl⟩) | (go_at_call 54; refine (refWithin_any _ _ _ _).mono ?_; rintro e w1 ⟨rfl, rfl⟩))
        go_ret2
        exact ⟨ret_two HV.out.symm, hB0⟩
      | true =>
        by_cases h4 : m.links.length ≤ 12
        · by_cases h5 : m.rules.length ≤ 40
          · by_cases h6 : m.starts.length ≤ 12
            · have HL : Hid (limB m = true) := limB_yes h1 h2 h3 h4 h5 h6
              have hm := lim_of_limB HL.out
              go_enter Try.func27, Try.ntmps27
              go_wp2_with (first | (go_at_call 55; refine (refBelow_any _ _ _).mono ?_; rintro e w1 ⟨rfl, rfl⟩) | (go_at_call 54; refine (refWithin_any _ _ _ _).mono ?_; rintro e w1 ⟨rfl, rfl⟩))
              go_loopw [6] (fun si wr => ∃ i : Nat, si = .int .i64 i ∧ i ≤ m.links.length ∧ (∀ (j : Nat) (y : MLink), j < i → m.links[j]? = some y → linkBad m y = false) ∧ Gr (w.alloc (.cells #[.int .i64 m.procs, .int .i64 m.states, .int .i64 m.loads, (.slice ao m.links.length cap), (.slice ao1 m.rules.length cap1), (.slice ao2 m.starts.length cap2)] 26)) wr) (fun si _ => m.links.length - (intOf si).toNat)
              case atStart => exact ⟨0, rfl, Nat.zero_le _, fun j y hj => by omega, Gr.refl _⟩
              case round =>
                obtain ⟨i, rfl, hi, hb, hg⟩ := hrel
                have hlw : w.heap.size < wr.heap.size := by have := Below.size hg; simp at this; omega
                by_cases hlt : i < m.links.length
                · obtain ⟨x, hx⟩ := get_of_lt hlt
                  obtain ⟨b, off, hao, hbB, hc⟩ := RowsAt.at_ h.links hx
                  subst hao
                  have c0 := hg.cell (hB0.cell (p := ⟨b, off + i * 3 + 0, none⟩) (Nat.lt_of_lt_of_le hbB hB) ▸ hc 0 (.int .i64 x.f) rfl)
                  have c1 := hg.cell (hB0.cell (p := ⟨b, off + i * 3 + 1, none⟩) (Nat.lt_of_lt_of_le hbB hB) ▸ hc 1 (.int .i64 x.t) rfl)
                  have c2 := hg.cell (hB0.cell (p := ⟨b, off + i * 3 + 2, none⟩) (Nat.lt_of_lt_of_le hbB hB) ▸ hc 2 (.int .i64 x.a) rfl)
                  simp only [Nat.add_zero] at c0
                  have hgr := hg.alloc (.cells #[.int .i64 x.f, .int .i64 x.t, .int .i64 x.a] 77)
                  have Hx : Hid (m.links[i]? = some x) := hx
                  clear hx hc h
                  cases e1 : withinB x.f 0 (m.procs - 1) with
                  | false =>
                    have HF : Hid (linkBad m x = true) := by show _ = _; simp [linkBad, isP, e1]
                    go_wp2_with (first | (go_at_call 55; refine (refBelow_any _ _ _).mono ?_; rintro e w1 ⟨rfl, rfl⟩) | (go_at_call 54; refine (refWithin_any _ _ _ _).mono ?_; rintro e w1 ⟨rfl, rfl⟩))
                    go_ret2
                    exact ⟨ret_two (valid_link HL.out (firstIx_at Hx.out HF.out hb) (by omega)).symm, Gr.below hgr hB0⟩
                  | true =>
                    cases e2 : withinB x.t 0 (m.procs - 1) with
                    | false =>
                      have HF : Hid (linkBad m x = true) := by show _ = _; simp [linkBad, isP, e1, e2]
                      go_wp2_with (first | (go_at_call 55; refine (refBelow_any _ _ _).mono ?_; rintro e w1 ⟨rfl, rfl⟩) | (go_at_call 54; refine (refWithin_any _ _ _ _).mono ?_; rintro e w1 ⟨rfl, rfl⟩))
                      go_ret2
                      exact ⟨ret_two (valid_link HL.out (firstIx_at Hx.out HF.out hb) (by omega)).symm, Gr.below hgr hB0⟩
                    | true =>
                      cases e3 : withinB x.a 1 50 with
                      | false =>
                        have HF : Hid (linkBad m x = true) := by show _ = _; simp [linkBad, isP, e1, e2, e3]
                        go_wp2_with (first | (go_at_call 55; refine (refBelow_any _ _ _).mono ?_; rintro e w1 ⟨rfl, rfl⟩) | (go_at_call 54; refine (refWithin_any _ _ _ _).mono ?_; rintro e w1 ⟨rfl, rfl⟩))
                        go_ret2
                        exact ⟨ret_two (valid_link HL.out (firstIx_at Hx.out HF.out hb) (by omega)).symm, Gr.below hgr hB0⟩
                      | true =>
                        have HF : Hid (linkBad m x = false) := by show _ = _; simp [linkBad, isP, e1, e2, e3]
                        go_wp2_with (first | (go_at_call 55; refine (refBelow_any _ _ _).mono ?_; rintro e w1 ⟨rfl, rfl⟩) | (go_at_call 54; refine (refWithin_any _ _ _ _).mono ?_; rintro e w1 ⟨rfl, rfl⟩))
                        go_roundw
                        case rel =>
                          refine ⟨i + 1, by go_num, hlt, fun j y hj hy => ?_, hgr⟩
                          by_cases hji : j = i
                          · subst hji; rw [Hx.out] at hy; cases hy; exact HF.out
                          · exact hb j y (by omega) hy
                        case measure => simp [intOf]; omega
                · have H1 : Hid (firstIx (linkBad m) m.links = -1) := firstIx_none (fun j y hy => hb j y (by have := get_lt hy; omega) hy)
                  clear hb
                  go_wp2
                  go_loopw [8] (fun si wr => ∃ i : Nat, si = .int .i64 i ∧ i ≤ m.rules.length ∧ (∀ j, j < i → goodRule m j = true) ∧ Gr (w.alloc (.cells #[.int .i64 m.procs, .int .i64 m.states, .int .i64 m.loads, (.slice ao m.links.length cap), (.slice ao1 m.rules.length cap1), (.slice ao2 m.starts.length cap2)] 26)) wr) (fun si _ => m.rules.length - (intOf si).toNat)
                  case atStart => exact ⟨0, rfl, Nat.zero_le _, fun j hj => by omega, hg⟩
                  case round =>
                    clear hg hlt hi
                    obtain ⟨i, rfl, hi, hb, hg⟩ := hrel
                    have hlw : w.heap.size < wr.heap.size := by have := Below.size hg; simp at this; omega
                    by_cases hlt : i < m.rules.length
                    · have hmw : Blk wr w.heap.size #[.int .i64 m.procs, .int .i64 m.states, .int .i64 m.loads, (.slice ao m.links.length cap), (.slice ao1 m.rules.length cap1), (.slice ao2 m.starts.length cap2)] 26 := hmb.keep hg.kept (fun e => e)
                      have hBw := Gr.below hg hB0
                      have hcall := refRule_any m hm (.slice ao m.links.length cap) (.slice ao1 m.rules.length cap1) (.slice ao2 m.starts.length cap2) R B i hlt wr (h.keep (hBw.mono hB)) (Nat.le_trans hB hBw.size) hne
                      clear h hne hmw
                      cases e1 : goodRule m i with
                      | false =>
                        have HF : Hid (goodRule m i = false) := e1
                        rw [e1] at hcall
                        clear e1
                        go_wp2_with fail
                        refine hcall.mono ?_
                        rintro e w2 ⟨rfl, g2⟩
                        go_wp2
                        go_ret2
                        exact ⟨ret_two (valid_rule HL.out H1.out (wrongRule_of (.inr ⟨i, rfl, hlt, HF.out, hb⟩)).symm (by omega)).symm, hBw.trans (g2.mono hBw.size)⟩
                      | true =>
                        have HF : Hid (goodRule m i = true) := e1
                        rw [e1] at hcall
                        clear e1
                        go_wp2_with fail
                        refine hcall.mono ?_
                        rintro e w2 ⟨rfl, g2⟩
                        go_wp2
                        go_roundw
                        case rel =>
                          refine ⟨i + 1, by go_num, hlt, fun j hj => ?_, hg.trans g2⟩
                          by_cases hji : j = i
                          · subst hji; exact HF.out
                          · exact hb j (by omega)
                        case measure => simp [intOf]; omega
                    · have H2 : Hid (wrongRule m = -1) := (wrongRule_of (.inl ⟨rfl, fun j hj => hb j (by omega)⟩)).symm
                      clear hb
                      go_wp2
                      go_loopw [10] (fun si wr => ∃ i : Nat, si = .int .i64 i ∧ i ≤ m.starts.length ∧ (∀ (j : Nat) (y : MStart), j < i → m.starts[j]? = some y → startBad m y = false) ∧ Gr (w.alloc (.cells #[.int .i64 m.procs, .int .i64 m.states, .int .i64 m.loads, (.slice ao m.links.length cap), (.slice ao1 m.rules.length cap1), (.slice ao2 m.starts.length cap2)] 26)) wr) (fun si _ => m.starts.length - (intOf si).toNat)
                      case atStart => exact ⟨0, rfl, Nat.zero_le _, fun j y hj => by omega, hg⟩
                      case round =>
                        clear hg hlt hi
                        obtain ⟨i, rfl, hi, hb, hg⟩ := hrel
                        have hlw : w.heap.size < wr.heap.size := by have := Below.size hg; simp at this; omega
                        by_cases hlt : i < m.starts.length
                        · obtain ⟨x, hx⟩ := get_of_lt hlt
                          obtain ⟨b, off, hao, hbB, hc⟩ := RowsAt.at_ h.starts hx
                          subst hao
                          have c0 := hg.cell (hB0.cell (p := ⟨b, off + i * 3 + 0, none⟩) (Nat.lt_of_lt_of_le hbB hB) ▸ hc 0 (.int .i64 x.p) rfl)
                          have c1 := hg.cell (hB0.cell (p := ⟨b, off + i * 3 + 1, none⟩) (Nat.lt_of_lt_of_le hbB hB) ▸ hc 1 (.int .i64 x.t) rfl)
                          have c2 := hg.cell (hB0.cell (p := ⟨b, off + i * 3 + 2, none⟩) (Nat.lt_of_lt_of_le hbB hB) ▸ hc 2 (.int .i64 x.l) rfl)
                          simp only [Nat.add_zero] at c0
                          have hgr := hg.alloc (.cells #[.int .i64 x.p, .int .i64 x.t, .int .i64 x.l] 89)
                          have Hx : Hid (m.starts[i]? = some x) := hx
                          clear hx hc h
                          cases e1 : withinB x.p 0 (m.procs - 1) with
                          | false =>
                            have HF : Hid (startBad m x = true) := by show _ = _; simp [startBad, isP, isL, e1]
                            go_wp2_with (first | (go_at_call 55; refine (refBelow_any _ _ _).mono ?_; rintro e w1 ⟨rfl, rfl⟩) | (go_at_call 54; refine (refWithin_any _ _ _ _).mono ?_; rintro e w1 ⟨rfl, rfl⟩))
                            go_ret2
                            exact ⟨ret_two (valid_start HL.out H1.out H2.out (firstIx_at Hx.out HF.out hb) (by omega)).symm, Gr.below hgr hB0⟩
                          | true =>
                            cases e2 : withinB x.t 0 200 with
                            | false =>
                              have HF : Hid (startBad m x = true) := by show _ = _; simp [startBad, isP, isL, e1, e2]
                              go_wp2_with (first | (go_at_call 55; refine (refBelow_any _ _ _).mono ?_; rintro e w1 ⟨rfl, rfl⟩) | (go_at_call 54; refine (refWithin_any _ _ _ _).mono ?_; rintro e w1 ⟨rfl, rfl⟩))
                              go_ret2
                              exact ⟨ret_two (valid_start HL.out H1.out H2.out (firstIx_at Hx.out HF.out hb) (by omega)).symm, Gr.below hgr hB0⟩
                            | true =>
                              cases e3 : withinB x.l 0 (m.loads - 1) with
                              | false =>
                                have HF : Hid (startBad m x = true) := by show _ = _; simp [startBad, isP, isL, e1, e2, e3]
                                go_wp2_with (first | (go_at_call 55; refine (refBelow_any _ _ _).mono ?_; rintro e w1 ⟨rfl, rfl⟩) | (go_at_call 54; refine (refWithin_any _ _ _ _).mono ?_; rintro e w1 ⟨rfl, rfl⟩))
                                go_ret2
                                exact ⟨ret_two (valid_start HL.out H1.out H2.out (firstIx_at Hx.out HF.out hb) (by omega)).symm, Gr.below hgr hB0⟩
                              | true =>
                                have HF : Hid (startBad m x = false) := by show _ = _; simp [startBad, isP, isL, e1, e2, e3]
                                go_wp2_with (first | (go_at_call 55; refine (refBelow_any _ _ _).mono ?_; rintro e w1 ⟨rfl, rfl⟩) | (go_at_call 54; refine (refWithin_any _ _ _ _).mono ?_; rintro e w1 ⟨rfl, rfl⟩))
                                go_roundw
                                case rel =>
                                  refine ⟨i + 1, by go_num, hlt, fun j y hj hy => ?_, hgr⟩
                                  by_cases hji : j = i
                                  · subst hji; rw [Hx.out] at hy; cases hy; exact HF.out
                                  · exact hb j y (by omega) hy
                                case measure => simp [intOf]; omega
                        · have H3 : Hid (firstIx (startBad m) m.starts = -1) := firstIx_none (fun j y hy => hb j y (by have := get_lt hy; omega) hy)
                          have hBw := Gr.below hg hB0
                          clear h hne hb
                          cases e1 : withinB en 0 200 with
                          | false =>
                            have HV : Hid (valid m en = (5, 0)) := valid_end HL.out H1.out H2.out H3.out e1
                            go_wp2_with (go_at_call 54; refine (refWithin_any _ _ _ _).mono ?_; rintro e w1 ⟨rfl, rfl⟩)
                            go_ret2
                            exact ⟨ret_two HV.out.symm, hBw⟩
                          | true =>
                            have HV : Hid (valid m en = (0, 0)) := valid_ok HL.out H1.out H2.out H3.out e1
                            go_wp2_with (go_at_call 54; refine (refWithin_any _ _ _ _).mono ?_; rintro e w1 ⟨rfl, rfl⟩)
                            go_ret2
                            exact ⟨ret_two HV.out.symm, hBw⟩
            · have HV : Hid (valid m en = (1, 0)) := valid_range (en := en) (limB_no (.inr (.inr (.inr (.inr (.inr h6))))))
              clear h hne
              go_enter Try.func27, Try.ntmps27
              go_wp2_with (first | (go_at_call 55; refine (refBelow_any _ _ _).mono ?_; rintro e w1 ⟨rfl, rfl⟩) | (go_at_call 54; refine (refWithin_any _ _ _ _).mono ?_; rintro e w1 ⟨rfl, rfl⟩))
              go_ret2
              exact ⟨ret_two HV.out.symm, hB0⟩
          · have HV : Hid (valid m en = (1, 0)) := valid_range (en := en) (limB_no (.inr (.inr (.inr (.inr (.inl h5))))))
            clear h hne
            go_enter Try.func27, Try.ntmps27
            go_wp2_with (first | (go_at_call 55; refine (refBelow_any _ _ _).mono ?_; rintro e w1 ⟨rfl, rfl⟩) | (go_at_call 54; refine (refWithin_any _ _ _ _).mono ?_; rintro e w1 ⟨rfl, rfl⟩))
            go_ret2
            exact ⟨ret_two HV.out.symm, hB0⟩
        · have HV : Hid (valid m en = (1, 0)) := valid_range (en := en) (limB_no (.inr (.inr (.inr (.inl h4)))))
          clear h hne
          go_enter Try.func27, Try.ntmps27
          go_wp2_with (first | (go_at_call 55; refine (refBelow_any _ _ _).mono ?_; rintro e w1 ⟨rfl, rfl⟩) | (go_at_call 54; refine (refWithin_any _ _ _ _).mono ?_; rintro e w1 ⟨rfl, rfl⟩))
          go_ret2
          exact ⟨ret_two HV.out.symm, hB0⟩

end Go.Proofs.Ytkobkilfbbalaaa

namespace Go.Proofs.Ytkobkilfbbalaaa
open Go.RowKit Go.Sort Go.Maps

structure Ev where
  it : It
  p : Int
  c : Int
structure Dn where
  it : It
  st : Int
structure Cs where
  wait : List Ev
  states : List Int
  seqs : List Int
  done : List (List Dn)
  causes : List (List Int)
  all : Nat

def np (m : Mdl) : Nat := m.procs.toNat
def initEv (i : Nat) (s : MStart) : Ev := ⟨⟨s.t, -1, i, s.l⟩, s.p, -1⟩
def c0 (m : Mdl) : Cs := ⟨m.starts.mapIdx initEv, List.replicate (np m) 0, List.replicate (np m) 0, List.replicate (np m) [], List.replicate (np m) [], 0⟩
def ruleAt (m : Mdl) (p s l : Int) : Option MRule := m.rules.find? (ruleFor p s l)
def linkTo (m : Mdl) (k : Int) : Int := match m.links[k.toNat]? with
  | some x => x.t
  | none => 0
def emit1 (m : Mdl) (e : Ev) (seq cause : Int) (i : Nat) (x : MEmit) : Ev := ⟨⟨e.it.t + x.d, e.p, seq + i, x.l⟩, linkTo m x.k, cause⟩
def emitted (m : Mdl) (e : Ev) (seq cause : Int) (es : List MEmit) : List Ev := es.mapIdx (emit1 m e seq cause)

/-- the j-th event that waits, e, is done -/
def doEv (m : Mdl) (c : Cs) (j : Nat) (e : Ev) : Cs :=
  match ruleAt m e.p (c.states.getD e.p.toNat 0) e.it.l with
  | none => ⟨c.wait.eraseIdx j, c.states, c.seqs, c.done.set e.p.toNat (c.done.getD e.p.toNat [] ++ [⟨e.it, c.states.getD e.p.toNat 0⟩]), c.causes.set e.p.toNat (c.causes.getD e.p.toNat [] ++ [e.c]), c.all + 1⟩
  | some r => ⟨c.wait.eraseIdx j ++ emitted m e (c.seqs.getD e.p.toNat 0) (c.done.getD e.p.toNat []).length r.es, c.states.set e.p.toNat r.n, c.seqs.set e.p.toNat (c.seqs.getD e.p.toNat 0 + r.es.length),
      c.done.set e.p.toNat (c.done.getD e.p.toNat [] ++ [⟨e.it, r.n⟩]), c.causes.set e.p.toNat (c.causes.getD e.p.toNat [] ++ [e.c]), c.all + 1⟩

def IsNx (en : Int) (wait : List Ev) (j : Nat) : Prop := ∃ e, wait[j]? = some e ∧ e.it.t < en ∧ ∀ y ∈ wait, y.it.t < en → ¬ y.it.lt e.it

def nxB (en : Int) (wait : List Ev) (j : Nat) : Bool := match wait[j]? with
  | some e => decide (e.it.t < en) && wait.all (fun y => !(decide (y.it.t < en)) || !(y.it.aheadB e.it))
  | none => false
def nx (en : Int) (wait : List Ev) : Option Nat := (List.range wait.length).find? (nxB en wait)

theorem nxB_iff {en : Int} {wait : List Ev} {j : Nat} : nxB en wait j = true ↔ IsNx en wait j := by
  unfold nxB IsNx
  cases hj : wait[j]? with
  | none => simp
  | some e =>
    have hb : ∀ y : Ev, (!(decide (y.it.t < en)) || !(y.it.aheadB e.it)) = true ↔ (y.it.t < en → ¬ y.it.lt e.it) := by
      intro y
      rw [← It.aheadB_iff]
      by_cases h1 : y.it.t < en <;> cases h2 : y.it.aheadB e.it <;> simp [h1]
    simp only [Bool.and_eq_true, decide_eq_true_eq, List.all_eq_true, hb, Option.some.injEq]
    constructor
    · rintro ⟨h1, h2⟩; exact ⟨e, rfl, h1, h2⟩
    · rintro ⟨e', rfl, h1, h2⟩; exact ⟨h1, h2⟩

def stepF (m : Mdl) (en : Int) (c : Cs) : Cs :=
  match nx en c.wait with
  | none => c
  | some j => match c.wait[j]? with
    | none => c
    | some e => doEv m c j e

def atK (m : Mdl) (en : Int) : Nat → Cs
  | 0 => c0 m
  | k + 1 => stepF m en (atK m en k)

def evKey (e : Ev) : Int × Int := (e.it.f, e.it.s)

theorem It.lt_total {x y : It} (h1 : ¬ x.lt y) (h2 : ¬ y.lt x) : x.f = y.f ∧ x.s = y.s := by
  unfold It.lt at *; omega

theorem nodup_idx {α β : Type} {f : α → β} {l : List α} (h : (l.map f).Nodup) {i j : Nat} {x y : α} (hi : l[i]? = some x) (hj : l[j]? = some y) (e : f x = f y) : i = j := by
  have hi' := get_lt hi
  have hj' := get_lt hj
  rw [List.nodup_iff_pairwise_ne, List.pairwise_iff_getElem] at h
  rw [List.getElem?_eq_getElem hi', Option.some.injEq] at hi
  rw [List.getElem?_eq_getElem hj', Option.some.injEq] at hj
  rcases Nat.lt_trichotomy i j with k | k | k
  · exact absurd (by rw [List.getElem_map, List.getElem_map, hi, hj]; exact e) (h i j (by simpa using hi') (by simpa using hj') k)
  · exact k
  · exact absurd (by rw [List.getElem_map, List.getElem_map, hi, hj]; exact e.symm) (h j i (by simpa using hj') (by simpa using hi') k)

theorem IsNx.unique {en : Int} {wait : List Ev} (h : (wait.map evKey).Nodup) {i j : Nat} (hi : IsNx en wait i) (hj : IsNx en wait j) : i = j := by
  obtain ⟨x, hx, tx, lx⟩ := hi
  obtain ⟨y, hy, ty, ly⟩ := hj
  have h1 := lx y (List.mem_of_getElem? hy) ty
  have h2 := ly x (List.mem_of_getElem? hx) tx
  obtain ⟨e1, e2⟩ := It.lt_total h2 h1
  exact nodup_idx h hx hy (by simp [evKey, e1, e2])

theorem nx_some {en : Int} {wait : List Ev} (h : (wait.map evKey).Nodup) {j : Nat} (hj : IsNx en wait j) : nx en wait = some j := by
  unfold nx
  cases hf : (List.range wait.length).find? (nxB en wait) with
  | none =>
    have hl : j < wait.length := by
      obtain ⟨e, he, _⟩ := hj
      exact get_lt he
    exact absurd (nxB_iff.2 hj) (List.find?_eq_none.1 hf j (by simpa using hl))
  | some i =>
    have := List.find?_some hf
    rw [IsNx.unique h (nxB_iff.1 this) hj]

theorem nx_none {en : Int} {wait : List Ev} (h : ∀ e ∈ wait, en ≤ e.it.t) : nx en wait = none := by
  unfold nx
  rw [List.find?_eq_none]
  intro j _ hj
  obtain ⟨e, he, ht, _⟩ := nxB_iff.1 hj
  have := h e (List.mem_of_getElem? he)
  omega

theorem stepF_some {m : Mdl} {en : Int} {c : Cs} {j : Nat} {e : Ev} (h : nx en c.wait = some j) (he : c.wait[j]? = some e) : stepF m en c = doEv m c j e := by
  simp only [stepF, h, he]

/-- the invariant of the course -/
structure Inv (m : Mdl) (c : Cs) : Prop where
  ls : c.states.length = np m
  lq : c.seqs.length = np m
  ld : c.done.length = np m
  lc : c.causes.length = np m
  sq : ∀ (p : Nat) (q : Int), c.seqs[p]? = some q → 0 ≤ q ∧ q ≤ 4 * (c.all : Int)
  ev : ∀ e ∈ c.wait, 0 ≤ e.p ∧ e.p < m.procs ∧ 0 ≤ e.it.t ∧ e.it.t ≤ 260 ∧ ((e.it.f = -1) ∨ (0 ≤ e.it.f ∧ ∃ q, c.seqs[e.it.f.toNat]? = some q ∧ e.it.s < q))
  keys : (c.wait.map evKey).Nodup
  len : c.wait.length ≤ 12 + 4 * c.all
  dl : ∀ (p : Nat) (l : List Dn), c.done[p]? = some l → l.length ≤ c.all
  cl : ∀ (p : Nat) (l : List Int), c.causes[p]? = some l → l.length ≤ c.all

theorem Right.start {m : Mdl} (h : Right m) {j : Nat} {s : MStart} (hs : m.starts[j]? = some s) : 0 ≤ s.p ∧ s.p < m.procs ∧ 0 ≤ s.t ∧ s.t ≤ 200 ∧ 0 ≤ s.l ∧ s.l < m.loads := by
  have := h.starts j s hs
  simp only [startBad, isP, isL, withinB, Bool.or_eq_false_iff, Bool.not_eq_false', Bool.and_eq_true, decide_eq_true_eq] at this
  omega

theorem ruleAt_mem {m : Mdl} {p s l : Int} {r : MRule} (h : ruleAt m p s l = some r) : ∃ i : Nat, m.rules[i]? = some r ∧ ruleFor p s l r = true := by
  unfold ruleAt at h
  have h1 := List.mem_of_find?_eq_some h
  obtain ⟨i, hi⟩ := List.getElem?_of_mem h1
  exact ⟨i, hi, List.find?_some h⟩

theorem ruleOk_of_good {m : Mdl} {i : Nat} {r : MRule} (hr : m.rules[i]? = some r) (h : goodRule m i = true) : ruleOk m r = true := by
  rw [goodRule_at hr, Bool.and_eq_true] at h
  exact h.1

theorem Right.rule {m : Mdl} (h : Right m) {i : Nat} {r : MRule} (hr : m.rules[i]? = some r) : ruleOk m r = true := ruleOk_of_good hr (h.rules i (get_lt hr))

theorem ruleOk_iff {m : Mdl} {r : MRule} (h : ruleOk m r = true) : (0 ≤ r.p ∧ r.p < m.procs) ∧ (0 ≤ r.s ∧ r.s < m.states) ∧ (0 ≤ r.l ∧ r.l < m.loads) ∧ (0 ≤ r.n ∧ r.n < m.states) ∧ r.es.length ≤ 4 ∧ ∀ x ∈ r.es, emitOk m r.p x = true := by
  simp only [ruleOk, isP, isS, isL, withinB, Bool.and_eq_true, decide_eq_true_eq, List.all_eq_true] at h
  obtain ⟨⟨⟨⟨⟨⟨a, b⟩, c, d⟩, e, f⟩, g, i⟩, j⟩, k⟩ := h
  exact ⟨⟨a, by omega⟩, ⟨c, by omega⟩, ⟨e, by omega⟩, ⟨g, by omega⟩, j, k⟩

theorem emitOk_iff {m : Mdl} {p : Int} {x : MEmit} (h : emitOk m p x = true) : ∃ y, m.links[x.k.toNat]? = some y ∧ 0 ≤ x.k ∧ x.k < m.links.length ∧ y.f = p ∧ y.a ≤ x.d ∧ x.d ≤ 60 ∧ 0 ≤ x.l ∧ x.l < m.loads := by
  unfold emitOk at h
  by_cases hk : withinB x.k 0 ((m.links.length : Int) - 1) = true
  · rw [if_pos hk] at h
    have hk2 := withinB_iff.1 hk
    cases hy : m.links[x.k.toNat]? with
    | none => rw [hy] at h; cases h
    | some y =>
      rw [hy] at h
      simp only [isL, withinB, Bool.and_eq_true, decide_eq_true_eq] at h
      obtain ⟨⟨a, b, c⟩, d, e⟩ := h
      exact ⟨y, rfl, hk2.1, by omega, a, b, c, d, by omega⟩
  · rw [if_neg hk] at h; cases h

theorem Right.link {m : Mdl} (h : Right m) {j : Nat} {y : MLink} (hy : m.links[j]? = some y) : 0 ≤ y.f ∧ y.f < m.procs ∧ 0 ≤ y.t ∧ y.t < m.procs ∧ 1 ≤ y.a ∧ y.a ≤ 50 := by
  have := h.links j y hy
  simp only [linkBad, isP, withinB, Bool.or_eq_false_iff, Bool.not_eq_false', Bool.and_eq_true, decide_eq_true_eq] at this
  omega

theorem linkTo_at {m : Mdl} {k : Int} {y : MLink} (h : m.links[k.toNat]? = some y) : linkTo m k = y.t := by simp [linkTo, h]

theorem emitted_get {m : Mdl} {e : Ev} {seq cause : Int} {es : List MEmit} {i : Nat} {y : Ev} (h : (emitted m e seq cause es)[i]? = some y) : ∃ x, es[i]? = some x ∧ y = emit1 m e seq cause i x := by
  unfold emitted at h
  rw [List.getElem?_mapIdx] at h
  obtain ⟨x, hx, rfl⟩ := Option.map_eq_some_iff.1 h
  exact ⟨x, hx, rfl⟩

theorem inv_c0 {m : Mdl} (h : Right m) : Inv m (c0 m) := by
  have hn := h.lim.ns
  refine ⟨by simp [c0], by simp [c0], by simp [c0], by simp [c0], ?_, ?_, ?_, by simp [c0]; omega, ?_, ?_⟩
  · intro p q hq
    have := List.mem_of_getElem? hq
    simp only [c0, List.mem_replicate] at this
    have := this.2; simp [c0]; omega
  · intro e he
    obtain ⟨i, hi⟩ := List.getElem?_of_mem he
    simp only [c0, List.getElem?_mapIdx] at hi
    obtain ⟨s, hs, rfl⟩ := Option.map_eq_some_iff.1 hi
    have := h.start hs
    exact ⟨this.1, this.2.1, this.2.2.1, by simp only [initEv]; omega, .inl rfl⟩
  · rw [List.nodup_iff_pairwise_ne, List.pairwise_iff_getElem]
    intro i j hi hj hij
    simp only [c0, List.getElem_map, List.getElem_mapIdx, evKey, initEv]
    intro e
    simp only [Prod.mk.injEq] at e
    omega
  · intro p l hl
    have := List.mem_of_getElem? hl
    simp only [c0, List.mem_replicate] at this
    rw [this.2]; simp
  · intro p l hl
    have := List.mem_of_getElem? hl
    simp only [c0, List.mem_replicate] at this
    rw [this.2]; simp

theorem nodup_append' {α : Type} {a b : List α} (ha : a.Nodup) (hb : b.Nodup) (h : ∀ x ∈ a, x ∉ b) : (a ++ b).Nodup := by
  rw [List.nodup_append]
  exact ⟨ha, hb, fun x hx y hy e => h x hx (e ▸ hy)⟩

theorem set_get {α : Type} {l : List α} {i j : Nat} {v x : α} (h : (l.set i v)[j]? = some x) : (j = i ∧ x = v) ∨ (j ≠ i ∧ l[j]? = some x) := by
  by_cases e : j = i
  · subst e
    have := get_lt h
    rw [List.length_set] at this
    rw [List.getElem?_set_self this] at h
    cases h
    exact .inl ⟨rfl, rfl⟩
  · rw [List.getElem?_set_ne (by omega)] at h
    exact .inr ⟨e, h⟩

theorem inv_do {m : Mdl} {c : Cs} (hm : Right m) (h : Inv m c) {en : Int} (hen : en ≤ 200) {j : Nat} {e : Ev} (he : c.wait[j]? = some e) (ht : e.it.t < en) : Inv m (doEv m c j e) := by
  have hmem : ∀ y ∈ c.wait.eraseIdx j, y ∈ c.wait := fun y hy => (List.eraseIdx_sublist _ _).subset hy
  have hk : ((c.wait.eraseIdx j).map evKey).Nodup := (((List.eraseIdx_sublist c.wait j).map evKey).nodup h.keys)
  have hj := get_lt he
  have hlen : (c.wait.eraseIdx j).length = c.wait.length - 1 := List.length_eraseIdx_of_lt hj
  obtain ⟨ep0, ep1, et0, et1, -⟩ := h.ev e (List.mem_of_getElem? he)
  have hp2 := hm.lim.p2
  have hpn : e.p.toNat < np m := by unfold np; omega
  have hL := h.len
  unfold doEv
  split
  · refine ⟨h.ls, h.lq, by simp [h.ld], by simp [h.lc], ?_, ?_, hk, ?_, ?_, ?_⟩
    · intro p q hq
      have := h.sq p q hq
      simp only
      omega
    · intro y hy
      exact h.ev y (hmem y hy)
    · simp only; rw [hlen]; omega
    · intro p l hl
      simp only at hl ⊢
      rcases set_get hl with ⟨e1, e2⟩ | ⟨e1, e2⟩
      · rw [e2, List.length_append]
        have : (c.done.getD e.p.toNat []).length ≤ c.all := by
          obtain ⟨z, hz⟩ := get_of_lt (d := c.done) (k := e.p.toNat) (by rw [h.ld]; exact hpn)
          rw [List.getD_eq_getElem?_getD, hz]
          exact h.dl _ _ hz
        simp only [List.length_cons, List.length_nil]; omega
      · have := h.dl p l e2; omega
    · intro p l hl
      simp only at hl ⊢
      rcases set_get hl with ⟨e1, e2⟩ | ⟨e1, e2⟩
      · rw [e2, List.length_append]
        have : (c.causes.getD e.p.toNat []).length ≤ c.all := by
          obtain ⟨z, hz⟩ := get_of_lt (d := c.causes) (k := e.p.toNat) (by rw [h.lc]; exact hpn)
          rw [List.getD_eq_getElem?_getD, hz]
          exact h.cl _ _ hz
        simp only [List.length_cons, List.length_nil]; omega
      · have := h.cl p l e2; omega
  · rename_i r hr
    obtain ⟨ri, hri, hrf⟩ := ruleAt_mem hr
    have hro := ruleOk_iff (hm.rule hri)
    simp only [ruleFor, Bool.and_eq_true, decide_eq_true_eq] at hrf
    obtain ⟨sq, hsq⟩ := get_of_lt (d := c.seqs) (k := e.p.toNat) (by rw [h.lq]; exact hpn)
    have hsd : c.seqs.getD e.p.toNat 0 = sq := by rw [List.getD_eq_getElem?_getD, hsq]; rfl
    have hsb := h.sq _ _ hsq
    rw [hsd]
    have hset : (c.seqs.set e.p.toNat (sq + (r.es.length : Int)))[e.p.toNat]? = some (sq + (r.es.length : Int)) := by
      rw [List.getElem?_set_self (get_lt hsq)]
    refine ⟨by simp [h.ls], by simp [h.lq], by simp [h.ld], by simp [h.lc], ?_, ?_, ?_, ?_, ?_, ?_⟩
    · intro p q hq
      simp only at hq ⊢
      rcases set_get hq with ⟨e1, e2⟩ | ⟨e1, e2⟩
      · have := hro.2.2.2.2.1; omega
      · have := h.sq p q e2; omega
    · intro y hy
      simp only at hy ⊢
      rcases List.mem_append.1 hy with hy | hy
      · obtain ⟨a1, a2, a3, a4, a5⟩ := h.ev y (hmem y hy)
        refine ⟨a1, a2, a3, a4, ?_⟩
        rcases a5 with a5 | ⟨a5, q, a6, a7⟩
        · exact .inl a5
        · refine .inr ⟨a5, ?_⟩
          by_cases hf : y.it.f.toNat = e.p.toNat
          · rw [hf] at a6 ⊢
            rw [hsq] at a6
            cases a6
            exact ⟨_, hset, by omega⟩
          · exact ⟨q, by rw [List.getElem?_set_ne (by omega)]; exact a6, a7⟩
      · obtain ⟨i, hi⟩ := List.getElem?_of_mem hy
        obtain ⟨x, hx, rfl⟩ := emitted_get hi
        have hxl := get_lt hx
        obtain ⟨z, z1, z2, z3, z4, z5, z6, _⟩ := emitOk_iff (hro.2.2.2.2.2 x (List.mem_of_getElem? hx))
        have hz := hm.link z1
        refine ⟨by simp only [emit1, linkTo_at z1]; omega, by simp only [emit1, linkTo_at z1]; omega, by simp only [emit1]; omega, by simp only [emit1]; omega, .inr ⟨ep0, _, hset, by simp only [emit1]; omega⟩⟩
    · simp only [List.map_append]
      refine nodup_append' hk ?_ ?_
      · rw [List.nodup_iff_pairwise_ne, List.pairwise_iff_getElem]
        intro i k hi hk' hik
        simp only [emitted, List.getElem_map, List.getElem_mapIdx, evKey, emit1]
        intro e'
        simp only [Prod.mk.injEq] at e'
        omega
      · intro kx hkx hky
        obtain ⟨y, hy, rfl⟩ := List.mem_map.1 hkx
        obtain ⟨z, hz, hzy⟩ := List.mem_map.1 hky
        obtain ⟨i, hi⟩ := List.getElem?_of_mem hz
        obtain ⟨x, hx, rfl⟩ := emitted_get hi
        simp only [evKey, emit1, Prod.mk.injEq] at hzy
        obtain ⟨_, _, _, _, a5⟩ := h.ev y (hmem y hy)
        rcases a5 with a5 | ⟨a5, q, a6, a7⟩
        · omega
        · rw [← hzy.1, hsq] at a6
          cases a6
          omega
    · simp only [List.length_append]
      rw [hlen]
      have : (emitted m e sq (c.done.getD e.p.toNat []).length r.es).length = r.es.length := by simp [emitted]
      rw [this]
      have := hro.2.2.2.2.1
      omega
    · intro p l hl
      simp only at hl ⊢
      rcases set_get hl with ⟨e1, e2⟩ | ⟨e1, e2⟩
      · rw [e2, List.length_append]
        have : (c.done.getD e.p.toNat []).length ≤ c.all := by
          obtain ⟨z, hz⟩ := get_of_lt (d := c.done) (k := e.p.toNat) (by rw [h.ld]; exact hpn)
          rw [List.getD_eq_getElem?_getD, hz]
          exact h.dl _ _ hz
        simp only [List.length_cons, List.length_nil]; omega
      · have := h.dl p l e2; omega
    · intro p l hl
      simp only at hl ⊢
      rcases set_get hl with ⟨e1, e2⟩ | ⟨e1, e2⟩
      · rw [e2, List.length_append]
        have : (c.causes.getD e.p.toNat []).length ≤ c.all := by
          obtain ⟨z, hz⟩ := get_of_lt (d := c.causes) (k := e.p.toNat) (by rw [h.lc]; exact hpn)
          rw [List.getD_eq_getElem?_getD, hz]
          exact h.cl _ _ hz
        simp only [List.length_cons, List.length_nil]; omega
      · have := h.cl p l e2; omega

theorem doEv_all (m : Mdl) (c : Cs) (j : Nat) (e : Ev) : (doEv m c j e).all = c.all + 1 := by
  unfold doEv; split <;> rfl

/-- never stuck below k -/
def Live (m : Mdl) (en : Int) (k : Nat) : Prop := ∀ i, i < k → nx en (atK m en i).wait ≠ none

/-- no more than 300 events -/
def Few (m : Mdl) (en : Int) : Prop := ∃ k, k ≤ 300 ∧ nx en (atK m en k).wait = none

theorem few_not {m : Mdl} {en : Int} (h : Live m en 301) : ¬ Few m en := fun ⟨k, hk, e⟩ => h k (by omega) e

end Go.Proofs.Ytkobkilfbbalaaa

namespace Go.Proofs.Ytkobkilfbbalaaa
open Go.RowKit Go.Sort Go.Maps

structure Enc (α : Type) where
  sz : Nat
  T : TypeId
  enc : α → List Value
  len : ∀ x, (enc x).length = sz
  pos : 0 < sz
  one : ∀ x, ∀ u ∈ enc x, u.oneCell' = true

variable {α : Type}

def flat (E : Enc α) : List α → List Value
  | [] => []
  | x :: l => E.enc x ++ flat E l

theorem flat_length (E : Enc α) : ∀ l : List α, (flat E l).length = l.length * E.sz
  | [] => by simp [flat]
  | x :: l => by simp only [flat, List.length_append, flat_length E l, List.length_cons, E.len, Nat.add_mul]; omega
theorem flat_append (E : Enc α) : ∀ (l l' : List α), flat E (l ++ l') = flat E l ++ flat E l'
  | [], l' => rfl
  | x :: l, l' => by simp only [List.cons_append, flat, flat_append E l l', List.append_assoc]
theorem flat_get (E : Enc α) : ∀ (l : List α) (j : Nat) (x : α) (k : Nat), l[j]? = some x → k < E.sz → (flat E l)[j * E.sz + k]? = (E.enc x)[k]?
  | [], j, x, k, h, _ => by simp at h
  | a :: l, 0, x, k, h, hk => by
    simp only [List.getElem?_cons_zero, Option.some.injEq] at h
    subst h
    simp only [flat, Nat.zero_mul, Nat.zero_add]
    rw [List.getElem?_append_left (by rw [E.len]; exact hk)]
  | a :: l, j + 1, x, k, h, hk => by
    simp only [List.getElem?_cons_succ] at h
    simp only [flat]
    have e : (j + 1) * E.sz = E.sz + j * E.sz := by rw [Nat.add_mul]; omega
    rw [List.getElem?_append_right (by rw [E.len, e]; omega)]
    have : (j + 1) * E.sz + k - (E.enc a).length = j * E.sz + k := by rw [E.len, e]; omega
    rw [this]
    exact flat_get E l j x k h hk
theorem flat_one (E : Enc α) : ∀ (l : List α), ∀ u ∈ flat E l, u.oneCell' = true
  | [], u, h => by simp [flat] at h
  | x :: l, u, h => by
    simp only [flat, List.mem_append] at h
    rcases h with h | h
    · exact E.one x u h
    · exact flat_one E l u h
theorem flat_take (E : Enc α) (l : List α) (n : Nat) : flat E (l.take n) = (flat E l).take (n * E.sz) := by
  induction l generalizing n with
  | nil => simp [flat]
  | cons a l ih =>
    cases n with
    | zero => simp [flat]
    | succ n =>
      simp only [List.take_succ_cons, flat, ih]
      rw [List.take_append, E.len, List.take_of_length_le (l := E.enc a) (by rw [E.len, Nat.add_mul]; omega)]
      have : (n + 1) * E.sz - E.sz = n * E.sz := by rw [Nat.add_mul]; omega
      rw [this]
theorem flat_drop (E : Enc α) (l : List α) (n : Nat) : flat E (l.drop n) = (flat E l).drop (n * E.sz) := by
  induction l generalizing n with
  | nil => simp [flat]
  | cons a l ih =>
    cases n with
    | zero => simp [flat]
    | succ n =>
      simp only [List.drop_succ_cons, flat, ih]
      rw [List.drop_append, E.len, List.drop_of_length_le (l := E.enc a) (by rw [E.len, Nat.add_mul]; omega), List.nil_append]
      have : (n + 1) * E.sz - E.sz = n * E.sz := by rw [Nat.add_mul]; omega
      rw [this]

def Own (E : Enc α) (w : World) (B : Nat) (v : Value) (l : List α) : Prop := w.ownsRow B E.T E.sz v l.length (flat E l)

theorem Own.nil (E : Enc α) (w : World) (B : Nat) : Own E w B (.slice none 0 0) [] := World.ownsRow_nil w B _ _
theorem Own.keep {E : Enc α} {F : Nat → Prop} {w w' : World} {B : Nat} {v : Value} {l : List α} (h : Own E w B v l) (k : KeptF F w w') (hF : ∀ g, v.ownBlock = some g → ¬ F g) : Own E w' B v l := ownsRow_keep h k hF
theorem Own.mono {E : Enc α} {w : World} {B B' : Nat} {v : Value} {l : List α} (h : Own E w B v l) (hB : B' ≤ B) : Own E w B' v l := World.ownsRow_mono h hB
theorem Own.form {E : Enc α} {w : World} {B : Nat} {v : Value} {l : List α} (h : Own E w B v l) : (v = .slice none 0 0 ∧ l = []) ∨ ∃ g cap, v = .slice (some ⟨g, 0, none⟩) l.length cap ∧ l.length ≤ cap := by
  rcases h.2 with ⟨h1, h2⟩ | ⟨g, cap, cur, h1, _, _, h3, _⟩
  · exact .inl ⟨h1, List.eq_nil_of_length_eq_zero h2⟩
  · exact .inr ⟨g, cap, h1, h3⟩
theorem Own.form' {E : Enc α} {w : World} {B : Nat} {v : Value} {l : List α} (h : Own E w B v l) : ∃ ao cap, v = .slice ao l.length cap ∧ l.length ≤ cap := by
  rcases h.form with ⟨h1, h2⟩ | ⟨g, cap, h1, h2⟩
  · subst h2; exact ⟨none, 0, h1, Nat.le_refl _⟩
  · exact ⟨_, _, h1, h2⟩
theorem Own.cell {E : Enc α} {w : World} {B : Nat} {g : Nat} {len cap : Nat} {l : List α} (h : Own E w B (.slice (some ⟨g, 0, none⟩) len cap) l) {j : Nat} {x : α} (hx : l[j]? = some x) {k : Nat} {u : Value} (hu : (E.enc x)[k]? = some u) :
    w.cell? ⟨g, j * E.sz + k, none⟩ = some u := by
  have hj := get_lt hx
  have hk : k < E.sz := by have := get_lt hu; rw [E.len] at this; exact this
  have hlen : len = l.length := by
    rcases h.form with ⟨h1, _⟩ | ⟨g', cap', h1, _⟩
    · cases h1
    · cases h1; rfl
  subst hlen
  have hle : j * E.sz + k < l.length * E.sz := by
    have : (j + 1) * E.sz ≤ l.length * E.sz := Nat.mul_le_mul_right _ hj
    rw [Nat.add_mul] at this; omega
  rw [World.ownsRow.cellAt h (j * E.sz + k) hle, flat_get E l j x k hx hk, hu]
theorem Own.cellAt {E : Enc α} {w : World} {B g len cap : Nat} {l : List α} (h : Own E w B (.slice (some ⟨g, 0, none⟩) len cap) l) (o : Nat) (ho : o < l.length * E.sz) : w.cell? ⟨g, o, none⟩ = (flat E l)[o]? := by
  have hlen : len = l.length := by
    rcases h.form with ⟨h1, _⟩ | ⟨g', cap', h1, _⟩
    · cases h1
    · cases h1; rfl
  subst hlen
  exact World.ownsRow.cellAt h o ho
theorem Own.takeCells {E : Enc α} {w : World} {B g len cap : Nat} {l : List α} (h : Own E w B (.slice (some ⟨g, 0, none⟩) len cap) l) (j : Nat) (hj : j ≤ l.length) : ∀ o u, (flat E (l.take j))[o]? = some u → w.cell? ((⟨g, 0, none⟩ : Addr).add o) = some u := by
  intro o u hu
  have ho := get_lt hu
  rw [flat_length, List.length_take, Nat.min_eq_left hj] at ho
  rw [flat_take, List.getElem?_take_of_lt ho] at hu
  have ha : ((⟨g, 0, none⟩ : Addr).add o) = ⟨g, o, none⟩ := by simp [Addr.add]; omega
  have h2 : j * E.sz ≤ l.length * E.sz := Nat.mul_le_mul_right _ hj
  rw [ha, h.cellAt o (by omega)]
  exact hu
theorem Own.dropCells {E : Enc α} {w : World} {B g len cap : Nat} {l : List α} (h : Own E w B (.slice (some ⟨g, 0, none⟩) len cap) l) (j k : Nat) (hk : k = j * E.sz) : ∀ o u, (flat E (l.drop j))[o]? = some u → w.cell? ((⟨g, k, none⟩ : Addr).add o) = some u := by
  intro o u hu
  subst hk
  have ho := get_lt hu
  rw [flat_length, List.length_drop, Nat.sub_mul] at ho
  rw [flat_drop, List.getElem?_drop] at hu
  have ha : ((⟨g, j * E.sz, none⟩ : Addr).add o) = ⟨g, j * E.sz + o, none⟩ := by simp [Addr.add]
  rw [ha, h.cellAt _ (by omega)]
  exact hu
theorem Own.at_ {E : Enc α} {w : World} {B : Nat} {v : Value} {l : List α} (h : Own E w B v l) {j : Nat} {x : α} (hx : l[j]? = some x) : ∃ g cap, v = .slice (some ⟨g, 0, none⟩) l.length cap ∧ l.length ≤ cap := by
  rcases h.form with ⟨_, h2⟩ | h
  · rw [h2] at hx; simp at hx
  · exact h
theorem Own.lt {E : Enc α} {w : World} {B : Nat} {v : Value} {l : List α} (h : Own E w B v l) {g : Nat} (hg : v.ownBlock = some g) : B ≤ g ∧ g < w.heap.size := World.ownsRow.lt h g hg

theorem Own.snoc {E : Enc α} {w : World} {B : Nat} {v : Value} {l : List α} {x : α} (h : w.ownsRow B E.T E.sz v (l.length + 1) (flat E l ++ E.enc x)) : Own E w B v (l ++ [x]) := by
  unfold Own
  rw [flat_append, List.length_append]
  have : flat E [x] = E.enc x := by simp [flat]
  rw [this]
  exact h
theorem newCells (W : World) (l : List Value) (T : TypeId) : ∀ j u, l[j]? = some u → ((W.alloc (.cells l.toArray T)).drew).cell? ((⟨W.heap.size, 0, none⟩ : Addr).add j) = some u := by
  intro j u hu
  have hb : Blk (W.alloc (.cells l.toArray T)).drew W.heap.size l.toArray T := heap_alloc_new W _
  have ha : ((⟨W.heap.size, 0, none⟩ : Addr).add j) = ⟨W.heap.size, j, none⟩ := by simp [Addr.add]; omega
  rw [ha, hb.cell, ← hu]
  simp
theorem set_same {l : List α} {p : Nat} {v : α} (h : l[p]? = some v) : l.set p v = l := by
  apply List.ext_getElem?
  intro i
  by_cases e : i = p
  · subst e
    rw [List.getElem?_set_self (get_lt h), h]
  · rw [List.getElem?_set_ne (by omega)]
/-- worlds in which all cells of w stand as they did, but for one block's and one cell -/
def Sp (w : World) (b0 o0 : Nat) (own : Option Nat) (W : World) : Prop := w.heap.size ≤ W.heap.size ∧ ∀ b o, b < w.heap.size → own ≠ some b → ¬ (b = b0 ∧ o = o0) → W.cell? ⟨b, o, none⟩ = w.cell? ⟨b, o, none⟩
theorem Sp.cell {w : World} {b0 o0 : Nat} {own : Option Nat} {b o : Nat} {v : Value} (hc : w.cell? ⟨b, o, none⟩ = some v) (h1 : own ≠ some b) (h2 : ¬ (b = b0 ∧ o = o0)) : ∀ W, Sp w b0 o0 own W → W.cell? ⟨b, o, none⟩ = some v := by
  intro W h
  rw [h.2 b o (block_lt_of_cell hc) h1 h2]; exact hc
theorem Sp.of_kept {w W : World} {b0 o0 : Nat} {own : Option Nat} (h : KeptF (fun k => own = some k) w W) : Sp w b0 o0 own W :=
  ⟨h.size, fun b o hb h1 _ => h.cell (p := ⟨b, o, none⟩) hb (fun e => h1 e)⟩
theorem Sp.set {w W : World} {b0 o0 : Nat} {own : Option Nat} (h : Sp w b0 o0 own W) (v : Value) : Sp w b0 o0 own (W.setCell ⟨b0, o0, none⟩ v) := by
  refine ⟨by have := h.1; simp [World.setCell]; exact this, fun b o hb h1 h2 => ?_⟩
  rw [← h.2 b o hb h1 h2]
  by_cases e : b = b0
  · subst e
    have ho : o ≠ o0 := fun e => h2 ⟨rfl, e⟩
    apply World.cell?_setCell_other
    intro e; cases e; exact ho rfl
  · exact World.cell?_of_block (Below.heap_setCell W ⟨b0, o0, none⟩ v b e)
theorem Sp.drew {w W : World} {b0 o0 : Nat} {own : Option Nat} (h : Sp w b0 o0 own W) : Sp w b0 o0 own W.drew := h

def evC (e : Ev) : List Value := [.int .i64 e.it.t, .int .i64 e.it.f, .int .i64 e.it.s, .int .i64 e.it.l, .int .i64 e.p, .int .i64 e.c]
def dnC (e : Dn) : List Value := [.int .i64 e.it.t, .int .i64 e.it.f, .int .i64 e.it.s, .int .i64 e.it.l, .int .i64 e.st]
def evE : Enc Ev := ⟨6, 144, evC, fun _ => rfl, by omega, fun x u hu => by
  simp only [evC, List.mem_cons, List.not_mem_nil, or_false] at hu
  rcases hu with rfl | rfl | rfl | rfl | rfl | rfl <;> rfl⟩
def dnE : Enc Dn := ⟨5, 127, dnC, fun _ => rfl, by omega, fun x u hu => by
  simp only [dnC, List.mem_cons, List.not_mem_nil, or_false] at hu
  rcases hu with rfl | rfl | rfl | rfl | rfl <;> rfl⟩
def inE : Enc Int := ⟨1, 3, fun x => [.int .i64 x], fun _ => rfl, by omega, fun x u hu => by
  simp only [List.mem_cons, List.not_mem_nil, or_false] at hu
  subst hu; rfl⟩

/-- the places of a course in memory -/
structure Ix where
  n : Nat
  p : Nat
abbrev Ix.c : Ix := ⟨0, 0⟩
abbrev Ix.w : Ix := ⟨1, 0⟩
abbrev Ix.s : Ix := ⟨2, 0⟩
abbrev Ix.q : Ix := ⟨3, 0⟩
abbrev Ix.d : Ix := ⟨4, 0⟩
abbrev Ix.k : Ix := ⟨5, 0⟩
abbrev Ix.dn (p : Nat) : Ix := ⟨6, p⟩
abbrev Ix.ca (p : Nat) : Ix := ⟨7, p⟩

def ownOf (o : Option Value) : Option Nat := match o with
  | some v => v.ownBlock
  | none => none

def owner (cb sb qb db kb : Nat) (wv : Value) (D C : List Value) : Ix → Option Nat
  | ⟨0, 0⟩ => some cb
  | ⟨1, 0⟩ => wv.ownBlock
  | ⟨2, 0⟩ => some sb
  | ⟨3, 0⟩ => some qb
  | ⟨4, 0⟩ => some db
  | ⟨5, 0⟩ => some kb
  | ⟨6, p⟩ => ownOf D[p]?
  | ⟨7, p⟩ => ownOf C[p]?
  | _ => none

def Dist (o : Ix → Option Nat) : Prop := ∀ i j g, o i = some g → o j = some g → i = j

theorem Dist.turn {o o' : Ix → Option Nat} {N : Nat} (h : Dist o) (i : Ix) (hlt : ∀ j g, o j = some g → g < N) (hs : ∀ j, j ≠ i → o' j = o j) (hi : ∀ g, o' i = some g → o i = some g ∨ N ≤ g) : Dist o' := by
  have key : ∀ j g, o' j = some g → o j = some g ∨ (j = i ∧ N ≤ g) := by
    intro j g hj
    by_cases e : j = i
    · subst e
      rcases hi g hj with h1 | h1
      · exact .inl h1
      · exact .inr ⟨rfl, h1⟩
    · rw [hs j e] at hj; exact .inl hj
  intro a b g ha hb
  rcases key a g ha with h1 | ⟨h1, h1'⟩
  · rcases key b g hb with h2 | ⟨h2, h2'⟩
    · exact h a b g h1 h2
    · have := hlt a g h1; omega
  · rcases key b g hb with h2 | ⟨h2, h2'⟩
    · have := hlt b g h2; omega
    · rw [h1, h2]

def ints (l : List Int) : Array Value := (l.map fun x => Value.int .i64 x).toArray

theorem ints_get {l : List Int} {j : Nat} {x : Int} (h : l[j]? = some x) : (ints l)[j]? = some (.int .i64 x) := by
  simp [ints, h]
theorem ints_set (l : List Int) (j : Nat) (x : Int) : (ints l).setIfInBounds j (.int .i64 x) = ints (l.set j x) := by
  simp [ints, List.map_set]

structure CAt (w : World) (B cb : Nat) (lv rv sv : Value) (m : Mdl) (wv : Value) (sb qb db kb : Nat) (D C : List Value) (c : Cs) : Prop where
  blk : Blk w cb #[.int .i64 m.procs, .int .i64 m.states, .int .i64 m.loads, lv, rv, sv, wv, .slice (some ⟨sb, 0, none⟩) (np m) (np m), .slice (some ⟨qb, 0, none⟩) (np m) (np m), .slice (some ⟨db, 0, none⟩) (np m) (np m), .slice (some ⟨kb, 0, none⟩) (np m) (np m), .int .i64 c.all] 73
  wait : Own evE w B wv c.wait
  st : Blk w sb (ints c.states) 3
  sq : Blk w qb (ints c.seqs) 3
  dn : Blk w db D.toArray 74
  ca : Blk w kb C.toArray 55
  dl : D.length = np m
  cl : C.length = np m
  dns : ∀ (p : Nat) (v : Value) (l : List Dn), D[p]? = some v → c.done[p]? = some l → Own dnE w B v l
  cas : ∀ (p : Nat) (v : Value) (l : List Int), C[p]? = some v → c.causes[p]? = some l → Own inE w B v l
  lc : B ≤ cb
  ls : B ≤ sb
  lq : B ≤ qb
  ld : B ≤ db
  lk : B ≤ kb
  nd : c.done.length = np m
  nc : c.causes.length = np m
  dist : Dist (owner cb sb qb db kb wv D C)

section
variable {w w' : World} {B cb : Nat} {lv rv sv : Value} {m : Mdl} {wv : Value} {sb qb db kb : Nat} {D C : List Value} {c : Cs}

theorem CAt.lt (h : CAt w B cb lv rv sv m wv sb qb db kb D C c) {i : Ix} {g : Nat} (hg : owner cb sb qb db kb wv D C i = some g) : B ≤ g ∧ g < w.heap.size := by
  unfold owner at hg
  split at hg
  · cases hg; exact ⟨h.lc, h.blk.lt⟩
  · exact h.wait.lt hg
  · cases hg; exact ⟨h.ls, h.st.lt⟩
  · cases hg; exact ⟨h.lq, h.sq.lt⟩
  · cases hg; exact ⟨h.ld, h.dn.lt⟩
  · cases hg; exact ⟨h.lk, h.ca.lt⟩
  · rename_i p
    cases hv : D[p]? with
    | none => rw [hv] at hg; cases hg
    | some v =>
      rw [hv] at hg
      obtain ⟨l, hl⟩ := get_of_lt (d := c.done) (k := p) (by rw [h.nd, ← h.dl]; exact get_lt hv)
      exact (h.dns p v l hv hl).lt hg
  · rename_i p
    cases hv : C[p]? with
    | none => rw [hv] at hg; cases hg
    | some v =>
      rw [hv] at hg
      obtain ⟨l, hl⟩ := get_of_lt (d := c.causes) (k := p) (by rw [h.nc, ← h.cl]; exact get_lt hv)
      exact (h.cas p v l hv hl).lt hg
  · cases hg

/-- the blocks of some places -/
def Touch (o : Ix → Option Nat) (S : Ix → Prop) (k : Nat) : Prop := ∃ i, S i ∧ o i = some k

theorem Dist.not_touch {o : Ix → Option Nat} {S : Ix → Prop} (h : Dist o) {i : Ix} {g : Nat} (hi : ¬ S i) (hg : o i = some g) : ¬ Touch o S g := by
  rintro ⟨j, hj, hgj⟩
  exact hi (h i j g hg hgj ▸ hj)

theorem own_dn {p : Nat} {v : Value} (h : D[p]? = some v) : owner cb sb qb db kb wv D C (.dn p) = v.ownBlock := by simp [owner, ownOf, h]
theorem own_ca {p : Nat} {v : Value} (h : C[p]? = some v) : owner cb sb qb db kb wv D C (.ca p) = v.ownBlock := by simp [owner, ownOf, h]

theorem CAt.grow (h : CAt w B cb lv rv sv m wv sb qb db kb D C c) (k : KeptF (fun _ => False) w w') : CAt w' B cb lv rv sv m wv sb qb db kb D C c :=
  ⟨h.blk.keep k (fun e => e), h.wait.keep k (fun _ _ e => e), h.st.keep k (fun e => e), h.sq.keep k (fun e => e), h.dn.keep k (fun e => e), h.ca.keep k (fun e => e), h.dl, h.cl,
   fun p v l h1 h2 => (h.dns p v l h1 h2).keep k (fun _ _ e => e), fun p v l h1 h2 => (h.cas p v l h1 h2).keep k (fun _ _ e => e), h.lc, h.ls, h.lq, h.ld, h.lk, h.nd, h.nc, h.dist⟩

/-- a new row of events that wait -/
theorem CAt.newWait (h : CAt w B cb lv rv sv m wv sb qb db kb D C c) {wv' : Value} {l' : List Ev} (k : KeptF (Touch (owner cb sb qb db kb wv D C) (fun i => i = .c ∨ i = .w)) w w')
    (hb : Blk w' cb #[.int .i64 m.procs, .int .i64 m.states, .int .i64 m.loads, lv, rv, sv, wv', .slice (some ⟨sb, 0, none⟩) (np m) (np m), .slice (some ⟨qb, 0, none⟩) (np m) (np m), .slice (some ⟨db, 0, none⟩) (np m) (np m), .slice (some ⟨kb, 0, none⟩) (np m) (np m), .int .i64 c.all] 73)
    (ho : Own evE w' B wv' l') (hf : ∀ g, wv'.ownBlock = some g → wv.ownBlock = some g ∨ w.heap.size ≤ g) :
    CAt w' B cb lv rv sv m wv' sb qb db kb D C { c with wait := l' } := by
  have nt : ∀ i g, i ≠ .c → i ≠ .w → owner cb sb qb db kb wv D C i = some g → ¬ Touch (owner cb sb qb db kb wv D C) (fun i => i = .c ∨ i = .w) g :=
    fun i g h1 h2 hg => h.dist.not_touch (by rintro (e | e); exact h1 e; exact h2 e) hg
  refine ⟨hb, ho, h.st.keep k (nt .s _ (by simp) (by simp) rfl), h.sq.keep k (nt .q _ (by simp) (by simp) rfl), h.dn.keep k (nt .d _ (by simp) (by simp) rfl), h.ca.keep k (nt .k _ (by simp) (by simp) rfl), h.dl, h.cl,
   fun p v l h1 h2 => (h.dns p v l h1 h2).keep k (fun g hg => nt (.dn p) g (by simp) (by simp) ((own_dn h1).trans hg)), fun p v l h1 h2 => (h.cas p v l h1 h2).keep k (fun g hg => nt (.ca p) g (by simp) (by simp) ((own_ca h1).trans hg)), h.lc, h.ls, h.lq, h.ld, h.lk, h.nd, h.nc, ?_⟩
  exact h.dist.turn .w (fun j g hj => (h.lt hj).2) (fun j hj => by unfold owner; split <;> first | rfl | exact absurd rfl hj) hf

/-- a state is stored -/
theorem CAt.setSt (h : CAt w B cb lv rv sv m wv sb qb db kb D C c) (p : Nat) (x : Int) : CAt (w.setCell ⟨sb, p, none⟩ (.int .i64 x)) B cb lv rv sv m wv sb qb db kb D C { c with states := c.states.set p x } ∧ KeptF (Touch (owner cb sb qb db kb wv D C) (fun i => i = .s)) w (w.setCell ⟨sb, p, none⟩ (.int .i64 x)) := by
  have k : KeptF (Touch (owner cb sb qb db kb wv D C) (fun i => i = .s)) w (w.setCell ⟨sb, p, none⟩ (.int .i64 x)) := (KeptF.refl _ w).setCell (p := ⟨sb, p, none⟩) (.inl ⟨.s, rfl, rfl⟩) _
  have nt : ∀ i g, i ≠ .s → owner cb sb qb db kb wv D C i = some g → ¬ Touch (owner cb sb qb db kb wv D C) (fun i => i = .s) g :=
    fun i g h1 hg => h.dist.not_touch h1 hg
  have hs := h.st.set p (.int .i64 x)
  rw [ints_set] at hs
  exact ⟨⟨h.blk.keep k (nt .c _ (by simp) rfl), h.wait.keep k (fun g hg => nt .w g (by simp) hg), hs, h.sq.keep k (nt .q _ (by simp) rfl), h.dn.keep k (nt .d _ (by simp) rfl), h.ca.keep k (nt .k _ (by simp) rfl), h.dl, h.cl,
   fun p v l h1 h2 => (h.dns p v l h1 h2).keep k (fun g hg => nt (.dn p) g (by simp) ((own_dn h1).trans hg)), fun p v l h1 h2 => (h.cas p v l h1 h2).keep k (fun g hg => nt (.ca p) g (by simp) ((own_ca h1).trans hg)), h.lc, h.ls, h.lq, h.ld, h.lk, h.nd, h.nc, h.dist⟩, k⟩

/-- a process's next Seq is stored -/
theorem CAt.setSq (h : CAt w B cb lv rv sv m wv sb qb db kb D C c) (p : Nat) (x : Int) : CAt (w.setCell ⟨qb, p, none⟩ (.int .i64 x)) B cb lv rv sv m wv sb qb db kb D C { c with seqs := c.seqs.set p x } ∧ KeptF (Touch (owner cb sb qb db kb wv D C) (fun i => i = .q)) w (w.setCell ⟨qb, p, none⟩ (.int .i64 x)) := by
  have k : KeptF (Touch (owner cb sb qb db kb wv D C) (fun i => i = .q)) w (w.setCell ⟨qb, p, none⟩ (.int .i64 x)) := (KeptF.refl _ w).setCell (p := ⟨qb, p, none⟩) (.inl ⟨.q, rfl, rfl⟩) _
  have nt : ∀ i g, i ≠ .q → owner cb sb qb db kb wv D C i = some g → ¬ Touch (owner cb sb qb db kb wv D C) (fun i => i = .q) g :=
    fun i g h1 hg => h.dist.not_touch h1 hg
  have hs := h.sq.set p (.int .i64 x)
  rw [ints_set] at hs
  exact ⟨⟨h.blk.keep k (nt .c _ (by simp) rfl), h.wait.keep k (fun g hg => nt .w g (by simp) hg), h.st.keep k (nt .s _ (by simp) rfl), hs, h.dn.keep k (nt .d _ (by simp) rfl), h.ca.keep k (nt .k _ (by simp) rfl), h.dl, h.cl,
   fun p v l h1 h2 => (h.dns p v l h1 h2).keep k (fun g hg => nt (.dn p) g (by simp) ((own_dn h1).trans hg)), fun p v l h1 h2 => (h.cas p v l h1 h2).keep k (fun g hg => nt (.ca p) g (by simp) ((own_ca h1).trans hg)), h.lc, h.ls, h.lq, h.ld, h.lk, h.nd, h.nc, h.dist⟩, k⟩

theorem CAt.setAll (h : CAt w B cb lv rv sv m wv sb qb db kb D C c) (n : Nat) : CAt (w.setCell ⟨cb, 11, none⟩ (.int .i64 n)) B cb lv rv sv m wv sb qb db kb D C { c with all := n } ∧ KeptF (Touch (owner cb sb qb db kb wv D C) (fun i => i = .c)) w (w.setCell ⟨cb, 11, none⟩ (.int .i64 n)) := by
  have k : KeptF (Touch (owner cb sb qb db kb wv D C) (fun i => i = .c)) w (w.setCell ⟨cb, 11, none⟩ (.int .i64 n)) := (KeptF.refl _ w).setCell (p := ⟨cb, 11, none⟩) (.inl ⟨.c, rfl, rfl⟩) _
  have nt : ∀ i g, i ≠ .c → owner cb sb qb db kb wv D C i = some g → ¬ Touch (owner cb sb qb db kb wv D C) (fun i => i = .c) g :=
    fun i g h1 hg => h.dist.not_touch h1 hg
  have hs := h.blk.set 11 (.int .i64 n)
  exact ⟨⟨hs, h.wait.keep k (fun g hg => nt .w g (by simp) hg), h.st.keep k (nt .s _ (by simp) rfl), h.sq.keep k (nt .q _ (by simp) rfl), h.dn.keep k (nt .d _ (by simp) rfl), h.ca.keep k (nt .k _ (by simp) rfl), h.dl, h.cl,
   fun p v l h1 h2 => (h.dns p v l h1 h2).keep k (fun g hg => nt (.dn p) g (by simp) ((own_dn h1).trans hg)), fun p v l h1 h2 => (h.cas p v l h1 h2).keep k (fun g hg => nt (.ca p) g (by simp) ((own_ca h1).trans hg)), h.lc, h.ls, h.lq, h.ld, h.lk, h.nd, h.nc, h.dist⟩, k⟩

theorem set_toArray (D : List Value) (p : Nat) (v : Value) : D.toArray.setIfInBounds p v = (D.set p v).toArray := by simp

/-- a process's row of what was done turns -/
theorem CAt.newDone (h : CAt w B cb lv rv sv m wv sb qb db kb D C c) {p : Nat} {v v' : Value} {l' : List Dn} (hv : D[p]? = some v) (k : KeptF (Touch (owner cb sb qb db kb wv D C) (fun i => i = .d ∨ i = .dn p)) w w')
    (hb : Blk w' db (D.set p v').toArray 74) (ho : Own dnE w' B v' l') (hf : ∀ g, v'.ownBlock = some g → v.ownBlock = some g ∨ w.heap.size ≤ g) :
    CAt w' B cb lv rv sv m wv sb qb db kb (D.set p v') C { c with done := c.done.set p l' } := by
  have nt : ∀ i g, i ≠ .d → i ≠ .dn p → owner cb sb qb db kb wv D C i = some g → ¬ Touch (owner cb sb qb db kb wv D C) (fun i => i = .d ∨ i = .dn p) g :=
    fun i g h1 h2 hg => h.dist.not_touch (by rintro (e | e); exact h1 e; exact h2 e) hg
  have hp := get_lt hv
  refine ⟨h.blk.keep k (nt .c _ (by simp) (by simp) rfl), h.wait.keep k (fun g hg => nt .w g (by simp) (by simp) hg), h.st.keep k (nt .s _ (by simp) (by simp) rfl), h.sq.keep k (nt .q _ (by simp) (by simp) rfl), hb, h.ca.keep k (nt .k _ (by simp) (by simp) rfl), by simp [h.dl], h.cl,
   fun q u l h1 h2 => ?_, fun p v l h1 h2 => (h.cas p v l h1 h2).keep k (fun g hg => nt (.ca p) g (by simp) (by simp) ((own_ca h1).trans hg)), h.lc, h.ls, h.lq, h.ld, h.lk, by simp [h.nd], h.nc, ?_⟩
  · rcases set_get h1 with ⟨e1, e2⟩ | ⟨e1, e2⟩
    · rcases set_get h2 with ⟨e3, e4⟩ | ⟨e3, _⟩
      · rw [e2, e4]; exact ho
      · exact absurd e1 e3
    · rcases set_get h2 with ⟨e3, _⟩ | ⟨_, e4⟩
      · exact absurd e3 e1
      · exact (h.dns q u l e2 e4).keep k (fun g hg => nt (.dn q) g (by simp) (by simp [e1]) ((own_dn e2).trans hg))
  · refine h.dist.turn (.dn p) (fun j g hj => (h.lt hj).2) (fun j hj => ?_) (fun g hg => ?_)
    · unfold owner
      split <;> first | rfl | skip
      rename_i q
      have : q ≠ p := fun e => hj (by rw [e])
      rw [List.getElem?_set_ne (by omega)]
    · rw [own_dn (v := v') (by rw [List.getElem?_set_self hp])] at hg
      rw [own_dn hv]
      exact hf g hg

theorem CAt.newCause (h : CAt w B cb lv rv sv m wv sb qb db kb D C c) {p : Nat} {v v' : Value} {l' : List Int} (hv : C[p]? = some v) (k : KeptF (Touch (owner cb sb qb db kb wv D C) (fun i => i = .k ∨ i = .ca p)) w w')
    (hb : Blk w' kb (C.set p v').toArray 55) (ho : Own inE w' B v' l') (hf : ∀ g, v'.ownBlock = some g → v.ownBlock = some g ∨ w.heap.size ≤ g) :
    CAt w' B cb lv rv sv m wv sb qb db kb D (C.set p v') { c with causes := c.causes.set p l' } := by
  have nt : ∀ i g, i ≠ .k → i ≠ .ca p → owner cb sb qb db kb wv D C i = some g → ¬ Touch (owner cb sb qb db kb wv D C) (fun i => i = .k ∨ i = .ca p) g :=
    fun i g h1 h2 hg => h.dist.not_touch (by rintro (e | e); exact h1 e; exact h2 e) hg
  have hp := get_lt hv
  refine ⟨h.blk.keep k (nt .c _ (by simp) (by simp) rfl), h.wait.keep k (fun g hg => nt .w g (by simp) (by simp) hg), h.st.keep k (nt .s _ (by simp) (by simp) rfl), h.sq.keep k (nt .q _ (by simp) (by simp) rfl), h.dn.keep k (nt .d _ (by simp) (by simp) rfl), hb, h.dl, by simp [h.cl],
   fun p v l h1 h2 => (h.dns p v l h1 h2).keep k (fun g hg => nt (.dn p) g (by simp) (by simp) ((own_dn h1).trans hg)), fun q u l h1 h2 => ?_, h.lc, h.ls, h.lq, h.ld, h.lk, h.nd, by simp [h.nc], ?_⟩
  · rcases set_get h1 with ⟨e1, e2⟩ | ⟨e1, e2⟩
    · rcases set_get h2 with ⟨e3, e4⟩ | ⟨e3, _⟩
      · rw [e2, e4]; exact ho
      · exact absurd e1 e3
    · rcases set_get h2 with ⟨e3, _⟩ | ⟨_, e4⟩
      · exact absurd e3 e1
      · exact (h.cas q u l e2 e4).keep k (fun g hg => nt (.ca q) g (by simp) (by simp [e1]) ((own_ca e2).trans hg))
  · refine h.dist.turn (.ca p) (fun j g hj => (h.lt hj).2) (fun j hj => ?_) (fun g hg => ?_)
    · unfold owner
      split <;> first | rfl | skip
      rename_i q
      have : q ≠ p := fun e => hj (by rw [e])
      rw [List.getElem?_set_ne (by omega)]
    · rw [own_ca (v := v') (by rw [List.getElem?_set_self hp])] at hg
      rw [own_ca hv]
      exact hf g hg

end
end Go.Proofs.Ytkobkilfbbalaaa

