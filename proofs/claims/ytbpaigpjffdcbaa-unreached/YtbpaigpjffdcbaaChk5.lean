/-
  firstWrongRule.
-/
import Derived.Test.YtbpaigpjffdcbaaChk4
namespace Go.Proofs.Ytbpaigpjffdcbaa
open Go.RowKit Go.Sort Go.Maps

/-- the first place that is not good; -1 if all are -/
def FirstBad (n : Nat) (good : Nat → Bool) (k : Int) : Prop :=
  (k = -1 ∧ ∀ j, j < n → good j = true) ∨ ∃ i : Nat, k = (i : Int) ∧ i < n ∧ good i = false ∧ ∀ j, j < i → good j = true

theorem FirstBad.unique {n : Nat} {good : Nat → Bool} {a b : Int} (h : FirstBad n good a) (k : FirstBad n good b) : a = b := by
  rcases h with ⟨rfl, h⟩ | ⟨i, rfl, h1, h2, h3⟩
  · rcases k with ⟨rfl, _⟩ | ⟨j, rfl, k1, k2, _⟩
    · rfl
    · rw [h j k1] at k2; cases k2
  · rcases k with ⟨rfl, k⟩ | ⟨j, rfl, k1, k2, k3⟩
    · rw [k i h1] at h2; cases h2
    · rcases Nat.lt_trichotomy i j with e | e | e
      · rw [k3 i e] at h2; cases h2
      · rw [e]
      · rw [h3 j e] at k2; cases k2

def goodRule (m : Mdl) (j : Nat) : Bool :=
  match m.rules[j]? with
  | some r => ruleOk m r && !decide (0 ≤ firstIx (ruleFor r.p r.s r.l) (m.rules.take j))
  | none => true

theorem goodRule_at {m : Mdl} {j : Nat} {r : MRule} (h : m.rules[j]? = some r) : goodRule m j = (ruleOk m r && !decide (0 ≤ firstIx (ruleFor r.p r.s r.l) (m.rules.take j))) := by
  unfold goodRule; rw [h]

theorem firstIx_map {α β : Type} (f : α → β) (p : β → Bool) (l : List α) : firstIx p (l.map f) = firstIx (fun x => p (f x)) l := by
  have : (l.map f).findIdx? p = l.findIdx? (fun x => p (f x)) := by
    rw [List.findIdx?_map]; rfl
  unfold firstIx; rw [this]

theorem ModelAt.rule {w : World} {B : Nat} {lv rv sv : Value} {m : Mdl} {R : List RuleV} (h : ModelAt w B lv rv sv m R) {i : Nat} (hi : i < m.rules.length) : ∃ x, R[i]? = some x ∧ m.rules[i]? = some x.r ∧ EmitsAt w B x.ev x.r.es := by
  have hl : R.length = m.rules.length := by rw [← h.same]; simp
  obtain ⟨x, hx⟩ := get_of_lt (d := R) (k := i) (by omega)
  refine ⟨x, hx, ?_, h.rules.2 x (List.mem_of_getElem? hx)⟩
  rw [← h.same, List.getElem?_map, hx]; rfl

theorem ModelAt.rlen {w : World} {B : Nat} {lv rv sv : Value} {m : Mdl} {R : List RuleV} (h : ModelAt w B lv rv sv m R) : R.length = m.rules.length := by rw [← h.same]; simp

set_option maxRecDepth 100000 in
set_option maxHeartbeats 4000000 in
theorem firstWrongRule_any (m : Mdl) (hm : Lim m) (lv rv sv : Value) (R : List RuleV) (B : Nat) (w : World) (h : ModelAt w B lv rv sv m R) (hB : B ≤ w.heap.size) (hne : ∀ r ∈ m.rules, r.es.length ≤ 5864062014634) :
    Calls Try.prog 35 #[.agg #[.int .i64 m.procs, .int .i64 m.states, .int .i64 m.loads, lv, rv, sv]] w fun e w' => ∃ k : Int, e = .returned (.int .i64 k) ∧ FirstBad m.rules.length (goodRule m) k ∧ Below w.heap.size w w' := by
  obtain ⟨ao, cap, hrv, hcap⟩ := RowsAt.form h.rules.1
  rw [h.rlen] at hrv hcap
  subst hrv
  have hnr := hm.nr
  have hB0 : Below w.heap.size w (w.alloc (.cells #[.int .i64 m.procs, .int .i64 m.states, .int .i64 m.loads, lv, .slice ao m.rules.length cap, sv] 31)) := (Below.refl _ _).alloc (Nat.le_refl _) _
  have hmb : Blk (w.alloc (.cells #[.int .i64 m.procs, .int .i64 m.states, .int .i64 m.loads, lv, .slice ao m.rules.length cap, sv] 31)) w.heap.size #[.int .i64 m.procs, .int .i64 m.states, .int .i64 m.loads, lv, .slice ao m.rules.length cap, sv] 31 := heap_alloc_new w _
  go_enter Try.func35, Try.ntmps35
  go_wp2
  go_loopw [8] (fun si wr => ∃ i : Nat, si = .int .i64 i ∧ i ≤ m.rules.length ∧ (∀ j, j < i → goodRule m j = true) ∧ Gr (w.alloc (.cells #[.int .i64 m.procs, .int .i64 m.states, .int .i64 m.loads, lv, .slice ao m.rules.length cap, sv] 31)) wr) (fun si _ => m.rules.length - (intOf si).toNat)
  case atStart => exact ⟨0, rfl, Nat.zero_le _, fun j hj => by omega, Gr.refl _⟩
  case round =>
    obtain ⟨i, rfl, hi, hb, hg⟩ := hrel
    by_cases hlt : i < m.rules.length
    · obtain ⟨⟨r, ev⟩, hx, hxr, hE⟩ := h.rule hlt
      have hE : EmitsAt w B ev r.es := hE
      have hxr : m.rules[i]? = some r := hxr
      obtain ⟨aoe, cape, rfl, hcape⟩ := RowsAt.form hE
      obtain ⟨b, off, hao, hbB, hc⟩ := RowsAt.at_ h.rules.1 hx
      subst hao
      have c0 := hg.cell (hB0.cell (p := ⟨b, off + i * 5 + 0, none⟩) (Nat.lt_of_lt_of_le hbB hB) ▸ hc 0 (.int .i64 r.p) rfl)
      have c1 := hg.cell (hB0.cell (p := ⟨b, off + i * 5 + 1, none⟩) (Nat.lt_of_lt_of_le hbB hB) ▸ hc 1 (.int .i64 r.s) rfl)
      have c2 := hg.cell (hB0.cell (p := ⟨b, off + i * 5 + 2, none⟩) (Nat.lt_of_lt_of_le hbB hB) ▸ hc 2 (.int .i64 r.l) rfl)
      have c3 := hg.cell (hB0.cell (p := ⟨b, off + i * 5 + 3, none⟩) (Nat.lt_of_lt_of_le hbB hB) ▸ hc 3 (.int .i64 r.n) rfl)
      have c4 := hg.cell (hB0.cell (p := ⟨b, off + i * 5 + 4, none⟩) (Nat.lt_of_lt_of_le hbB hB) ▸ hc 4 (.slice aoe r.es.length cape) rfl)
      simp only [Nat.add_zero] at c0
      have hgr : Gr (w.alloc (.cells #[.int .i64 m.procs, .int .i64 m.states, .int .i64 m.loads, lv, .slice (some ⟨b, off, none⟩) m.rules.length cap, sv] 31)) (wr.alloc (.cells #[.int .i64 r.p, .int .i64 r.s, .int .i64 r.l, .int .i64 r.n, .slice aoe r.es.length cape] 100)) := hg.alloc _
      have hBr := Gr.below hgr hB0
      have hrb : Blk (wr.alloc (.cells #[.int .i64 r.p, .int .i64 r.s, .int .i64 r.l, .int .i64 r.n, .slice aoe r.es.length cape] 100)) wr.heap.size #[.int .i64 r.p, .int .i64 r.s, .int .i64 r.l, .int .i64 r.n, .slice aoe r.es.length cape] 100 := heap_alloc_new wr _
      have hmr : Blk (wr.alloc (.cells #[.int .i64 r.p, .int .i64 r.s, .int .i64 r.l, .int .i64 r.n, .slice aoe r.es.length cape] 100)) w.heap.size #[.int .i64 m.procs, .int .i64 m.states, .int .i64 m.loads, lv, .slice (some ⟨b, off, none⟩) m.rules.length cap, sv] 31 := hmb.keep hgr.kept (fun e => e)
      have k0 := cell_regrown (v := .int .i64 m.procs) (hmr.cell 0)
      have k1 := cell_regrown (v := .int .i64 m.states) (hmr.cell 1)
      have k2 := cell_regrown (v := .int .i64 m.loads) (hmr.cell 2)
      have k3 := cell_regrown (v := lv) (hmr.cell 3)
      have k4 := cell_regrown (v := .slice (some ⟨b, off, none⟩) m.rules.length cap) (hmr.cell 4)
      have k5 := cell_regrown (v := sv) (hmr.cell 5)
      have x0 := cell_regrown (v := .int .i64 r.p) (hrb.cell 0)
      have x1 := cell_regrown (v := .int .i64 r.s) (hrb.cell 1)
      have x2 := cell_regrown (v := .int .i64 r.l) (hrb.cell 2)
      have x3 := cell_regrown (v := .int .i64 r.n) (hrb.cell 3)
      have x4 := cell_regrown (v := .slice aoe r.es.length cape) (hrb.cell 4)
      have HG := goodRule_at hxr
      have hmap : firstIx (ruleFor r.p r.s r.l) (m.rules.take i) = firstIx (fun x => ruleFor r.p r.s r.l x.r) (R.take i) := by
        rw [← h.same, ← List.map_take, firstIx_map]
      rw [hmap] at HG
      have P1 : ∀ p : Regrown, Calls Try.prog 54 #[.agg #[.int .i64 m.procs, .int .i64 m.states, .int .i64 m.loads, lv, .slice (some ⟨b, off, none⟩) m.rules.length cap, sv], .agg #[.int .i64 r.p, .int .i64 r.s, .int .i64 r.l, .int .i64 r.n, .slice aoe r.es.length cape]] (grow (redrawn (wr.alloc (.cells #[.int .i64 r.p, .int .i64 r.s, .int .i64 r.l, .int .i64 r.n, .slice aoe r.es.length cape] 100)) p.d) p.os) fun e w'' => e = .returned (.bool (ruleOk m r)) ∧ ∃ p : Regrown, w'' = grow (redrawn (wr.alloc (.cells #[.int .i64 r.p, .int .i64 r.s, .int .i64 r.l, .int .i64 r.n, .slice aoe r.es.length cape] 100)) p.d) p.os := fun p => by
        have hb2 := hBr.trans ((below_regrown _ p.d p.os).mono hBr.size)
        exact Calls.regrown_of (rightRule_any m hm lv _ sv R B r _ _ (h.keep (hb2.mono hB)) (RowsAt.keep hE (hb2.mono hB)) (Nat.le_trans hB hb2.size) (hne r (List.mem_of_getElem? hxr)))
      have hR : RulesAt w B (.slice (some ⟨b, off, none⟩) i cap) (R.take i) :=
        ⟨RowsAt.take h.rules.1 i (by rw [h.rlen]; omega), fun y hy => h.rules.2 y (List.mem_of_mem_take hy)⟩
      have P2 : ∀ p : Regrown, Calls Try.prog 55 #[.slice (some ⟨b, off, none⟩) i cap, .int .i64 r.p, .int .i64 r.s, .int .i64 r.l] (grow (redrawn (wr.alloc (.cells #[.int .i64 r.p, .int .i64 r.s, .int .i64 r.l, .int .i64 r.n, .slice aoe r.es.length cape] 100)) p.d) p.os) fun e w'' => e = .returned (.int .i64 (firstIx (fun x => ruleFor r.p r.s r.l x.r) (R.take i))) ∧ ∃ p : Regrown, w'' = grow (redrawn (wr.alloc (.cells #[.int .i64 r.p, .int .i64 r.s, .int .i64 r.l, .int .i64 r.n, .slice aoe r.es.length cape] 100)) p.d) p.os := fun p => by
        have hb2 := hBr.trans ((below_regrown _ p.d p.os).mono hBr.size)
        exact Calls.regrown_of (findRule_any r.p r.s r.l _ (R.take i) B _ (RowsAt.keep hR.1 (hb2.mono hB)) (Nat.le_trans hB hb2.size) (by rw [List.length_take, h.rlen]; omega))
      have hic : i ≤ cap := by omega
      clear hmr hrb hxr hE hc hx hmap hR
      generalize firstIx (fun x => ruleFor r.p r.s r.l x.r) (R.take i) = fx at HG P2
      cases h1 : ruleOk m r with
      | false =>
        have HG' : Hid (goodRule m i = false) := HG.trans (by rw [h1]; rfl)
        clear HG
        go_wp2
        refine wp_region_quiet_below (by kernel_rfl) (by kernel_rfl) ?_
        repeat (go_big_quiet_step (first | exact P1 _ | exact P2 _))
        refine wpQuiet_nil ?_
        intro wq hw'
        have hbl := below_of_regrown hw'
        clear hw' k0 k1 k2 k3 k4 k5 x0 x1 x2 x3 x4 c0 c1 c2 c3 c4 P1 P2
        go_wp2
        go_ret
        exact ⟨i, rfl, .inr ⟨i, rfl, hlt, HG'.out, hb⟩, hBr.trans (hbl.mono hBr.size)⟩
      | true =>
        by_cases h2 : 0 ≤ fx
        · have HG' : Hid (goodRule m i = false) := HG.trans (by rw [h1, decide_eq_true h2]; rfl)
          clear HG
          go_wp2
          refine wp_region_quiet_below (by kernel_rfl) (by kernel_rfl) ?_
          repeat (go_big_quiet_step (first | exact P1 _ | exact P2 _))
          refine wpQuiet_nil ?_
          intro wq hw'
          have hbl := below_of_regrown hw'
          clear hw' k0 k1 k2 k3 k4 k5 x0 x1 x2 x3 x4 c0 c1 c2 c3 c4 P1 P2
          go_wp2
          go_ret
          exact ⟨i, rfl, .inr ⟨i, rfl, hlt, HG'.out, hb⟩, hBr.trans (hbl.mono hBr.size)⟩
        · have HG' : Hid (goodRule m i = true) := HG.trans (by rw [h1, decide_eq_false h2]; rfl)
          clear HG
          go_wp2
          refine wp_region_quiet_below (by kernel_rfl) (by kernel_rfl) ?_
          repeat (go_big_quiet_step (first | exact P1 _ | exact P2 _))
          refine wpQuiet_nil ?_
          intro wq hw'
          have hbl := below_of_regrown hw'
          clear hw' k0 k1 k2 k3 k4 k5 x0 x1 x2 x3 x4 c0 c1 c2 c3 c4 P1 P2
          go_wp2
          go_roundw
          case rel =>
            refine ⟨i + 1, by go_num, hlt, fun j hj => ?_, hgr.trans hbl⟩
            by_cases hji : j = i
            · subst hji; exact HG'.out
            · exact hb j (by omega)
          case measure => simp [intOf]; omega
    · have hie : i = m.rules.length := by omega
      have hie' : (i : Int) = m.rules.length := by omega
      go_wp2
      go_ret
      exact ⟨-1, rfl, .inl ⟨rfl, fun j hj => hb j (by omega)⟩, Gr.below hg hB0⟩

end Go.Proofs.Ytbpaigpjffdcbaa
