/-
  What waits, process by process: the same as what waits in all. Which process is next.
  The reference: which event is next.
  The moves of a walk through a region that draws, at a region that is written out.
-/
import Derived.Test.YtaieackeflmhgaaSafe5
import Derived.Deep.RegionHeld3
namespace Go.Proofs.Ytaieackeflmhgaa
open Go.RowKit Go.Sort Go.Maps

structure Sim (N : Nat) (wait : List Ev) (states seqs : List Int) (done : List (List Dn)) (ps : List Pr) : Prop where
  len : ps.length = N
  num : ∀ (i : Nat) (p : Pr), ps[i]? = some p → p.num = (i : Int)
  st : ∀ (i : Nat) (p : Pr), ps[i]? = some p → states[i]? = some p.st
  sent : ∀ (i : Nat) (p : Pr), ps[i]? = some p → seqs[i]? = some p.sent
  dn : ∀ (i : Nat) (p : Pr), ps[i]? = some p → done[i]? = some p.dn
  items : ∀ (i : Nat) (p : Pr), ps[i]? = some p → p.its.Perm (atP i wait)

theorem Sim.push {N : Nat} {wait : List Ev} {states seqs : List Int} {done : List (List Dn)} {ps : List Pr} (h : Sim N wait states seqs done ps) {i : Nat} {p p' : Pr} {e : Ev} (hp : ps[i]? = some p) (he : e.p = (i : Int)) (hn : p'.num = p.num) (hst : p'.st = p.st) (hse : p'.sent = p.sent) (hdn : p'.dn = p.dn)
    (hits : p'.its.Perm (e.it :: p.its)) : Sim N (wait ++ [e]) states seqs done (ps.set i p') := by
  refine ⟨by rw [List.length_set]; exact h.len, fun j q hq => ?_, fun j q hq => ?_, fun j q hq => ?_, fun j q hq => ?_, fun j q hq => ?_⟩
  · rcases set_get hq with ⟨e1, e2⟩ | ⟨_, e2⟩
    · rw [e1, e2, hn]; exact h.num i p hp
    · exact h.num j q e2
  · rcases set_get hq with ⟨e1, e2⟩ | ⟨_, e2⟩
    · rw [e1, e2, hst]; exact h.st i p hp
    · exact h.st j q e2
  · rcases set_get hq with ⟨e1, e2⟩ | ⟨_, e2⟩
    · rw [e1, e2, hse]; exact h.sent i p hp
    · exact h.sent j q e2
  · rcases set_get hq with ⟨e1, e2⟩ | ⟨_, e2⟩
    · rw [e1, e2, hdn]; exact h.dn i p hp
    · exact h.dn j q e2
  · rw [atP_snoc]
    rcases set_get hq with ⟨e1, e2⟩ | ⟨e1, e2⟩
    · rw [e1, e2, if_pos he]
      exact hits.trans (((h.items i p hp).cons e.it).trans (List.perm_append_singleton _ _).symm)
    · rw [if_neg (by omega), List.append_nil]
      exact h.items j q e2

theorem Sim.pop {N : Nat} {wait : List Ev} {states seqs : List Int} {done : List (List Dn)} {ps : List Pr} (h : Sim N wait states seqs done ps) {i j : Nat} {p p' : Pr} {e : Ev} (hp : ps[i]? = some p) (hj : wait[j]? = some e) (he : e.p = (i : Int)) (hn : p'.num = p.num) (hst : p'.st = p.st) (hse : p'.sent = p.sent) (hdn : p'.dn = p.dn)
    (hits : (e.it :: p'.its).Perm p.its) : Sim N (wait.eraseIdx j) states seqs done (ps.set i p') := by
  have hP := perm_eraseIdx wait j e hj
  refine ⟨by rw [List.length_set]; exact h.len, fun j q hq => ?_, fun j q hq => ?_, fun j q hq => ?_, fun j q hq => ?_, fun k q hq => ?_⟩
  · rcases set_get hq with ⟨e1, e2⟩ | ⟨_, e2⟩
    · rw [e1, e2, hn]; exact h.num i p hp
    · exact h.num j q e2
  · rcases set_get hq with ⟨e1, e2⟩ | ⟨_, e2⟩
    · rw [e1, e2, hst]; exact h.st i p hp
    · exact h.st j q e2
  · rcases set_get hq with ⟨e1, e2⟩ | ⟨_, e2⟩
    · rw [e1, e2, hse]; exact h.sent i p hp
    · exact h.sent j q e2
  · rcases set_get hq with ⟨e1, e2⟩ | ⟨_, e2⟩
    · rw [e1, e2, hdn]; exact h.dn i p hp
    · exact h.dn j q e2
  · have h1 := atP_perm (i := k) hP
    rw [atP_cons] at h1
    rcases set_get hq with ⟨e1, e2⟩ | ⟨e1, e2⟩
    · rw [e1, e2]
      rw [e1, if_pos he] at h1
      exact (hits.trans ((h.items i p hp).trans h1)).cons_inv
    · rw [if_neg (by omega), List.nil_append] at h1
      exact (h.items k q e2).trans h1

theorem Sim.set {N : Nat} {wait : List Ev} {states seqs : List Int} {done : List (List Dn)} {ps : List Pr} (h : Sim N wait states seqs done ps) {i : Nat} {p p' : Pr} (hp : ps[i]? = some p) (hn : p'.num = p.num) (hits : p'.its = p.its) : Sim N wait (states.set i p'.st) (seqs.set i p'.sent) (done.set i p'.dn) (ps.set i p') := by
  refine ⟨by rw [List.length_set]; exact h.len, fun j q hq => ?_, fun j q hq => ?_, fun j q hq => ?_, fun j q hq => ?_, fun j q hq => ?_⟩
  · rcases set_get hq with ⟨e1, e2⟩ | ⟨_, e2⟩
    · rw [e1, e2, hn]; exact h.num i p hp
    · exact h.num j q e2
  · rcases set_get hq with ⟨e1, e2⟩ | ⟨e1, e2⟩
    · rw [e1, e2, List.getElem?_set_self (get_lt (h.st i p hp))]
    · rw [List.getElem?_set_ne (by omega)]; exact h.st j q e2
  · rcases set_get hq with ⟨e1, e2⟩ | ⟨e1, e2⟩
    · rw [e1, e2, List.getElem?_set_self (get_lt (h.sent i p hp))]
    · rw [List.getElem?_set_ne (by omega)]; exact h.sent j q e2
  · rcases set_get hq with ⟨e1, e2⟩ | ⟨e1, e2⟩
    · rw [e1, e2, List.getElem?_set_self (get_lt (h.dn i p hp))]
    · rw [List.getElem?_set_ne (by omega)]; exact h.dn j q e2
  · rcases set_get hq with ⟨e1, e2⟩ | ⟨_, e2⟩
    · rw [e1, e2, hits]; exact h.items i p hp
    · exact h.items j q e2

/-- p's least item is the least of the first k processes' items -/
def Upto (ps : List Pr) (k : Nat) (p : Pr) : Prop := ∀ (j : Nat) (q : Pr), j < k → ps[j]? = some q → ∀ a ∈ q.its, ∃ t, p.top = some t ∧ ¬ a.lt t

theorem Upto.stay_none {ps : List Pr} {k : Nat} {p q : Pr} (h : Upto ps k p) (hq : ps[k]? = some q) (h0 : q.its = []) : Upto ps (k + 1) p := by
  intro j x hj hx a ha
  by_cases e : j = k
  · subst e; rw [hq] at hx; cases hx; rw [h0] at ha; simp at ha
  · exact h j x (by omega) hx a ha
theorem Upto.first {ps : List Pr} {k : Nat} {p q : Pr} {t : It} (h : Upto ps k p) (h0 : p.top = none) (hq : ps[k]? = some q) (ht : q.top = some t) (hm : ∀ a ∈ q.its, ¬ a.lt t) : Upto ps (k + 1) q := by
  intro j x hj hx a ha
  by_cases e : j = k
  · subst e; rw [hq] at hx; cases hx; exact ⟨t, ht, hm a ha⟩
  · obtain ⟨t', h1, _⟩ := h j x (by omega) hx a ha
    rw [h0] at h1; cases h1
theorem Upto.turn {ps : List Pr} {k : Nat} {p q : Pr} {t u : It} (h : Upto ps k p) (hu : p.top = some u) (hq : ps[k]? = some q) (ht : q.top = some t) (hm : ∀ a ∈ q.its, ¬ a.lt t) (hl : t.lt u) : Upto ps (k + 1) q := by
  intro j x hj hx a ha
  by_cases e : j = k
  · subst e; rw [hq] at hx; cases hx; exact ⟨t, ht, hm a ha⟩
  · obtain ⟨t', h1, h2⟩ := h j x (by omega) hx a ha
    rw [hu] at h1; cases h1
    exact ⟨t, ht, by unfold It.lt at *; omega⟩
theorem Upto.stay {ps : List Pr} {k : Nat} {p q : Pr} {t u : It} (h : Upto ps k p) (hu : p.top = some u) (hq : ps[k]? = some q) (hm : ∀ a ∈ q.its, ¬ a.lt t) (hl : ¬ t.lt u) : Upto ps (k + 1) p := by
  intro j x hj hx a ha
  by_cases e : j = k
  · subst e; rw [hq] at hx; cases hx
    have := hm a ha
    exact ⟨u, hu, by unfold It.lt at *; omega⟩
  · exact h j x (by omega) hx a ha
theorem Upto.one {ps : List Pr} {p : Pr} (hp : ps[0]? = some p) (h : ∀ t, p.top = some t → ∀ a ∈ p.its, ¬ a.lt t) (h0 : p.top = none → p.its = []) : Upto ps 1 p := by
  intro j x hj hx a ha
  have : j = 0 := by omega
  subst this
  rw [hp] at hx; cases hx
  cases ht : p.top with
  | none => rw [h0 ht] at ha; simp at ha
  | some t => exact ⟨t, rfl, h t ht a ha⟩

set_option maxHeartbeats 400000 in
theorem itemBefore_any (x y : It) (w : World) :
    Calls Try.prog 100 #[.agg #[.int .i64 x.t, .int .i64 x.f, .int .i64 x.s, .int .i64 x.l], .agg #[.int .i64 y.t, .int .i64 y.f, .int .i64 y.s, .int .i64 y.l]] w fun e w' => e = .returned (.bool (x.aheadB y)) ∧ Below w.heap.size w w' := by
  have hB0 : Below w.heap.size w ((w.alloc (.cells #[.int .i64 x.t, .int .i64 x.f, .int .i64 x.s, .int .i64 x.l] 120)).alloc (.cells #[.int .i64 y.t, .int .i64 y.f, .int .i64 y.s, .int .i64 y.l] 120)) := ((Below.refl _ _).alloc (Nat.le_refl _) _).alloc (by simp) _
  have hc := cmpr_any x.t x.f x.s x.l y.t y.f y.s y.l ((w.alloc (.cells #[.int .i64 x.t, .int .i64 x.f, .int .i64 x.s, .int .i64 x.l] 120)).alloc (.cells #[.int .i64 y.t, .int .i64 y.f, .int .i64 y.s, .int .i64 y.l] 120))
  have hr : decide (It.cmp ⟨x.t, x.f, x.s, x.l⟩ ⟨y.t, y.f, y.s, y.l⟩ < 0) = x.aheadB y := by
    have h1 := It.cmp_neg x y
    have h2 := It.aheadB_iff x y
    by_cases h : x.lt y
    · rw [h2.2 h]; exact decide_eq_true (h1.2 h)
    · cases h3 : x.aheadB y with
      | true => exact absurd (h2.1 h3) h
      | false => exact decide_eq_false (fun h4 => h (h1.1 h4))
  have Hr : Hid (decide (It.cmp ⟨x.t, x.f, x.s, x.l⟩ ⟨y.t, y.f, y.s, y.l⟩ < 0) = x.aheadB y) := hr
  clear hr
  generalize It.cmp ⟨x.t, x.f, x.s, x.l⟩ ⟨y.t, y.f, y.s, y.l⟩ = n at hc Hr
  go_enter Try.func100, Try.ntmps100
  go_wp2_with fail
  refine hc.mono ?_
  rintro e w1 ⟨rfl, hb⟩
  go_wp2
  go_ret
  exact ⟨ret_bool Hr.out, hB0.trans (hb.mono hB0.size)⟩

end Go.Proofs.Ytaieackeflmhgaa

namespace Go.Proofs.Ytaieackeflmhgaa
open Go.RowKit Go.Sort Go.Maps

def NextUpto (en : Int) (l : List Ev) (i : Nat) (kk : Int) : Prop :=
  (kk = -1 ∧ ∀ (j : Nat) (y : Ev), j < i → l[j]? = some y → en ≤ y.it.t) ∨
  ∃ (j : Nat) (x : Ev), kk = (j : Int) ∧ j < i ∧ l[j]? = some x ∧ x.it.t < en ∧ ∀ (n : Nat) (y : Ev), n < i → l[n]? = some y → y.it.t < en → ¬ y.it.lt x.it

theorem NextUpto.zero (en : Int) (l : List Ev) : NextUpto en l 0 (-1) := .inl ⟨rfl, fun j y hj => by omega⟩
theorem NextUpto.skip {en : Int} {l : List Ev} {i : Nat} {kk : Int} {x : Ev} (h : NextUpto en l i kk) (hx : l[i]? = some x) (ht : ¬ x.it.t < en) : NextUpto en l (i + 1) kk := by
  rcases h with ⟨h1, h2⟩ | ⟨j, y, h1, h2, h3, h4, h5⟩
  · refine .inl ⟨h1, fun j y hj hy => ?_⟩
    by_cases e : j = i
    · subst e; rw [hx] at hy; cases hy; omega
    · exact h2 j y (by omega) hy
  · refine .inr ⟨j, y, h1, by omega, h3, h4, fun n z hn hz hzt => ?_⟩
    by_cases e : n = i
    · subst e; rw [hx] at hz; cases hz; exact absurd hzt ht
    · exact h5 n z (by omega) hz hzt
theorem NextUpto.first {en : Int} {l : List Ev} {i : Nat} {x : Ev} (h : NextUpto en l i (-1)) (hx : l[i]? = some x) (ht : x.it.t < en) : NextUpto en l (i + 1) (i : Int) := by
  rcases h with ⟨_, h2⟩ | ⟨j, y, h1, _⟩
  · refine .inr ⟨i, x, rfl, by omega, hx, ht, fun n z hn hz hzt => ?_⟩
    by_cases e : n = i
    · subst e; rw [hx] at hz; cases hz; unfold It.lt; omega
    · have := h2 n z (by omega) hz; omega
  · omega
theorem NextUpto.turn {en : Int} {l : List Ev} {i j : Nat} {x y : Ev} (h : NextUpto en l i (j : Int)) (hy : l[j]? = some y) (hx : l[i]? = some x) (ht : x.it.t < en) (hl : x.it.lt y.it) : NextUpto en l (i + 1) (i : Int) := by
  rcases h with ⟨h1, _⟩ | ⟨j', y', h1, h2, h3, h4, h5⟩
  · omega
  · have : j' = j := by omega
    subst this
    rw [hy] at h3; cases h3
    refine .inr ⟨i, x, rfl, by omega, hx, ht, fun n z hn hz hzt => ?_⟩
    by_cases e : n = i
    · subst e; rw [hx] at hz; cases hz; unfold It.lt; omega
    · have := h5 n z (by omega) hz hzt
      unfold It.lt at *; omega
theorem NextUpto.stay {en : Int} {l : List Ev} {i j : Nat} {x y : Ev} (h : NextUpto en l i (j : Int)) (hy : l[j]? = some y) (hx : l[i]? = some x) (hl : ¬ x.it.lt y.it) : NextUpto en l (i + 1) (j : Int) := by
  rcases h with ⟨h1, _⟩ | ⟨j', y', h1, h2, h3, h4, h5⟩
  · omega
  · have : j' = j := by omega
    subst this
    rw [hy] at h3; cases h3
    refine .inr ⟨j', y, rfl, by omega, hy, h4, fun n z hn hz hzt => ?_⟩
    by_cases e : n = i
    · subst e; rw [hx] at hz; cases hz; exact hl
    · exact h5 n z (by omega) hz hzt

theorem NextUpto.nx {en : Int} {l : List Ev} {kk : Int} (hk : (l.map evKey).Nodup) (h : NextUpto en l l.length kk) : (kk = -1 ∧ nx en l = none) ∨ ∃ (j : Nat) (e : Ev), kk = (j : Int) ∧ nx en l = some j ∧ l[j]? = some e ∧ e.it.t < en := by
  rcases h with ⟨h1, h2⟩ | ⟨j, x, h1, h2, h3, h4, h5⟩
  · refine .inl ⟨h1, nx_none (fun e he => ?_)⟩
    obtain ⟨j, hj⟩ := List.getElem?_of_mem he
    exact h2 j e (get_lt hj) hj
  · refine .inr ⟨j, x, h1, nx_some hk ⟨x, h3, h4, fun y hy hyt => ?_⟩, h3, h4⟩
    obtain ⟨n, hn⟩ := List.getElem?_of_mem hy
    exact h5 n y (get_lt hn) hn hyt

theorem Own.evcells {w : World} {B g len cap : Nat} {l : List Ev} (h : Own evE w B (.slice (some ⟨g, 0, none⟩) len cap) l) {j : Nat} {x : Ev} (hx : l[j]? = some x) :
    w.cell? ⟨g, j * 6, none⟩ = some (.int .i64 x.it.t) ∧ w.cell? ⟨g, j * 6 + 1, none⟩ = some (.int .i64 x.it.f) ∧ w.cell? ⟨g, j * 6 + 2, none⟩ = some (.int .i64 x.it.s) ∧ w.cell? ⟨g, j * 6 + 3, none⟩ = some (.int .i64 x.it.l) ∧ w.cell? ⟨g, j * 6 + 4, none⟩ = some (.int .i64 x.p) ∧ w.cell? ⟨g, j * 6 + 5, none⟩ = some (.int .i64 x.c) :=
  ⟨h.cell hx (k := 0) rfl, h.cell hx (k := 1) rfl, h.cell hx (k := 2) rfl, h.cell hx (k := 3) rfl, h.cell hx (k := 4) rfl, h.cell hx (k := 5) rfl⟩

set_option maxRecDepth 100000 in
set_option maxHeartbeats 4000000 in
theorem next_any (w : World) (B cb : Nat) (lv rv sv : Value) (m : Mdl) (wv : Value) (sb qb db kb : Nat) (D C : List Value) (c : Cs) (en : Int)
    (h : CAt w B cb lv rv sv m wv sb qb db kb D C c) (hlen : c.wait.length ≤ 2000) :
    Calls Try.prog 77 #[.pointer (some ⟨cb, 0, none⟩), .int .i64 en] w fun e w' => ∃ kk : Int, e = .returned (.int .i64 kk) ∧ NextUpto en c.wait c.wait.length kk ∧ Below w.heap.size w w' := by
  obtain ⟨ao, cap, hwv, hcap⟩ := h.wait.form'
  obtain ⟨n, hln⟩ : ∃ n, n = c.wait.length := ⟨_, rfl⟩
  have Hn : Hid (n = c.wait.length) := hln
  rw [← hln] at hwv hcap hlen ⊢
  subst hwv
  have c6 : w.cell? ⟨cb, 6, none⟩ = some (.slice ao n cap) := h.blk.cell 6
  have hW : Hid (Own evE w B (.slice ao n cap) c.wait) := h.wait
  clear h hln
  go_enter Try.func77, Try.ntmps77
  go_wp2
  go_loopw [5, 6] (fun sk si wr => ∃ (i : Nat) (kk : Int), si = .int .i64 i ∧ sk = .int .i64 kk ∧ i ≤ n ∧ NextUpto en c.wait i kk ∧ Below w.heap.size w wr) (fun _ si _ => n - (intOf si).toNat)
  case atStart => exact ⟨0, -1, rfl, rfl, by omega, NextUpto.zero _ _, Below.refl _ _⟩
  case round =>
    obtain ⟨i, kk, rfl, rfl, hin, hL, hB⟩ := hrel
    have d6 : wr.cell? ⟨cb, 6, none⟩ = some (.slice ao n cap) := Gr.cell (W0 := w) hB c6
    by_cases hlt : i < n
    · obtain ⟨x, hx⟩ := get_of_lt (d := c.wait) (k := i) (by have := Hn.out; omega)
      have Hx : Hid (c.wait[i]? = some x) := hx
      obtain ⟨g, cap', hg, _⟩ := Own.at_ hW.out hx
      simp only [Value.slice.injEq] at hg
      obtain ⟨rfl, -, -⟩ := hg
      have hI : Hid (Own evE wr B (.slice (some ⟨g, 0, none⟩) n cap) c.wait) := Own.keep (w' := wr) hW.out (KeptF.of_below (F := fun _ => False) hB) (fun _ _ e => e)
      obtain ⟨a0, a1, a2, a3, -, -⟩ := Own.evcells hI.out hx
      have k6 := cell_regrown d6
      have k0 := cell_regrown a0
      have k1 := cell_regrown a1
      have k2 := cell_regrown a2
      have k3 := cell_regrown a3
      clear hx
      by_cases ht : x.it.t < en
      · rcases hL with ⟨rfl, hall⟩ | ⟨j, y, rfl, hji, hy, hyt, h5⟩
        · have hL : NextUpto en c.wait i (-1) := .inl ⟨rfl, hall⟩
          go_wp2
          refine wp_region_quiet_below (by kernel_rfl) (by kernel_rfl) ?_
          repeat (go_big_quiet_step (fail))
          refine wpQuiet_nil ?_
          intro wq hw'
          have hbl := below_of_regrown hw'
          clear hw' k6 k0 k1 k2 k3 a0 a1 a2 a3 d6
          go_wp2
          go_roundw
          case rel => exact ⟨i + 1, i, by go_num, rfl, by omega, hL.first Hx.out ht, hB.trans (hbl.mono hB.size)⟩
          case measure => simp [intOf]; omega
        · have hL : NextUpto en c.wait i (j : Int) := .inr ⟨j, y, rfl, hji, hy, hyt, h5⟩
          have Hy : Hid (c.wait[j]? = some y) := hy
          obtain ⟨b0, b1, b2, b3, -, -⟩ := Own.evcells hI.out hy
          have l0 := cell_regrown b0
          have l1 := cell_regrown b1
          have l2 := cell_regrown b2
          have l3 := cell_regrown b3
          have hjn : j < n := by omega
          have hj0 : decide ((j : Int) < 0) = false := decide_eq_false (by omega)
          clear hy h5 hyt
          cases hv : x.it.aheadB y.it with
          | false =>
            have Hv : Hid (¬ x.it.lt y.it) := fun h => by rw [(It.aheadB_iff x.it y.it).2 h] at hv; cases hv
            have hcall := ahead_grown x.it y.it wr false hv
            clear hv
            go_wp2
            refine wp_region_quiet_below (by kernel_rfl) (by kernel_rfl) ?_
            repeat (go_big_quiet_step (exact hcall _))
            refine wpQuiet_nil ?_
            intro wq hw'
            have hbl := below_of_regrown hw'
            clear hw' k6 k0 k1 k2 k3 a0 a1 a2 a3 d6 b0 b1 b2 b3 l0 l1 l2 l3 hcall
            go_wp2
            go_roundw
            case rel => exact ⟨i + 1, j, by go_num, rfl, by omega, hL.stay Hy.out Hx.out Hv.out, hB.trans (hbl.mono hB.size)⟩
            case measure => simp [intOf]; omega
          | true =>
            have Hv : Hid (x.it.lt y.it) := (It.aheadB_iff x.it y.it).1 hv
            have hcall := ahead_grown x.it y.it wr true hv
            clear hv
            go_wp2
            refine wp_region_quiet_below (by kernel_rfl) (by kernel_rfl) ?_
            repeat (go_big_quiet_step (exact hcall _))
            refine wpQuiet_nil ?_
            intro wq hw'
            have hbl := below_of_regrown hw'
            clear hw' k6 k0 k1 k2 k3 a0 a1 a2 a3 d6 b0 b1 b2 b3 l0 l1 l2 l3 hcall
            go_wp2
            go_roundw
            case rel => exact ⟨i + 1, i, by go_num, rfl, by omega, hL.turn Hy.out Hx.out ht Hv.out, hB.trans (hbl.mono hB.size)⟩
            case measure => simp [intOf]; omega
      · have htf : decide (x.it.t < en) = false := decide_eq_false ht
        go_wp2
        refine wp_region_quiet_below (by kernel_rfl) (by kernel_rfl) ?_
        repeat (go_big_quiet_step (fail))
        refine wpQuiet_nil ?_
        intro wq hw'
        have hbl := below_of_regrown hw'
        clear hw' k6 k0 k1 k2 k3 a0 a1 a2 a3 d6 htf
        go_wp2
        go_roundw
        case rel => exact ⟨i + 1, kk, by go_num, rfl, by omega, hL.skip Hx.out (by omega), hB.trans (hbl.mono hB.size)⟩
        case measure => simp [intOf]; omega
    · have hie : i = n := by omega
      subst hie
      go_wp2
      go_ret
      exact ⟨kk, rfl, hL, hB⟩

end Go.Proofs.Ytaieackeflmhgaa

namespace Go.Proofs.Ytaieackeflmhgaa
open Go.RowKit Go.Sort Go.Maps

theorem takeL {P : Program} {md : Region.Mode} {l : List Oper} {Q : Exit → Act → World → Prop} {S : World → Prop} (i : Nat) {oi : Oper} {v : Value} {fuel : Nat} {listed : Array Bool} {a : Act} {w : World} (hi : l[i]? = some oi)
    (hs : Region.noSelect l.toArray = true) (hf : Region.free md l.toArray listed i = true) (hr : (Region.ready md l.toArray listed).contains i = true)
    (hQ : ∀ c a w, Q (.panic c) (a.put oi.dst v) w → Q (.panic c) a w) (hw : Region.wanted oi (yielded l.toArray a.tmps) = true) (hy : ∀ w, S w → (execOp a.eval oi).run P w = .ok (.value v) w) (hS : S w)
    (h : wpAnyH P md l.toArray Q S fuel (listed.setIfInBounds i true) (a.put oi.dst v) w) : wpAnyH P md l.toArray Q S (fuel + 1) listed a w :=
  wpAnyH_take (by rw [List.getElem?_toArray]; exact hi) hs hf hr hQ (.inl ⟨hw, hy⟩) hS h

theorem consL {P : Program} {md : Region.Mode} {l : List Oper} {Q : Exit → Act → World → Prop} {S : World → Prop} {fuel : Nat} {listed : Array Bool} {a : Act} {w : World} {i : Nat} {o : Oper} {rs : List Nat} (ho : l[i]? = some o)
    (h : ∀ K' : Act → World → Prop, Shut (∀ a w, S w → (S w → wpAnyH P md l.toArray Q S fuel (listed.setIfInBounds i true) a w) → K' a w) → if Region.wanted o (yielded l.toArray a.tmps) = true then Oper.wp P o a w K' Q else K' (a.put o.dst undef) w)
    (hs : AllReadyH P md l.toArray Q S fuel listed a w rs) : AllReadyH P md l.toArray Q S fuel listed a w (i :: rs) :=
  AllReadyH.cons (by rw [List.getElem?_toArray]; exact ho) h hs

end Go.Proofs.Ytaieackeflmhgaa

