/-
  The program: leastProcess.
  The reference: which event is next.
  The moves of a walk through a region that draws, at a region that is written out.
-/
import Derived.Test.YtaieackeflmhgaaJ08
import Derived.Test.YtaieackeflmhgaaJ07
import Derived.Deep.RegionHeld3
namespace Go.Proofs.Ytaieackeflmhgaa
open Go.RowKit Go.Sort Go.Maps

theorem PAt.least {w : World} {B : Nat} {p : Pr} (h : PAt w B p) : (∀ t, p.top = some t → ∀ a ∈ p.its, ¬ a.lt t) ∧ (p.top = none → p.its = []) :=
  ⟨fun _ ht => (h.top_least ht).2, fun ht => h.its_nil ht⟩

set_option maxRecDepth 100000 in
set_option maxHeartbeats 4000000 in
theorem leastProc_any (w : World) (B pb n : Nat) (ps : List Pr) (h : Procs w B pb n ps) (hn : ps.length = n) (h1 : 1 ≤ n) (h6 : n ≤ 6) :
    Calls Try.prog 72 #[.slice (some ⟨pb, 0, none⟩) n n] w fun e w' => ∃ (i : Nat) (p : Pr), e = .returned (.pointer (some ⟨p.qb, 0, none⟩)) ∧ ps[i]? = some p ∧ Upto ps n p ∧ Below w.heap.size w w' := by
  obtain ⟨p0, hp0⟩ := get_of_lt (d := ps) (k := 0) (by omega)
  have c0 := h.cell hp0
  have hP0 := h.each p0 (List.mem_of_getElem? hp0)
  have hU0 : Upto ps 1 p0 := Upto.one hp0 hP0.least.1 hP0.least.2
  have Hp0 : Hid (ps[0]? = some p0) := hp0
  have Hn : Hid (ps.length = n) := hn
  have hlp : pb < w.heap.size := h.arr.lt
  clear hn hp0
  by_cases hne : n = 1
  · subst hne
    go_enter Try.func72, Try.ntmps72
    go_wp2
    go_loopw [3, 16] (fun s3 s16 wr => s3 = .pointer (some ⟨p0.qb, 0, none⟩) ∧ s16 = .int .i64 0 ∧ Below w.heap.size w wr) (fun _ _ _ => 0)
    case atStart => exact ⟨rfl, rfl, Below.refl _ _⟩
    case round =>
      obtain ⟨rfl, rfl, hB⟩ := hrel
      go_wp2
      go_ret
      exact ⟨0, p0, rfl, Hp0.out, hU0, hB⟩
  · obtain ⟨m, rfl⟩ : ∃ m, n = m + 2 := ⟨n - 2, by omega⟩
    go_enter Try.func72, Try.ntmps72
    go_wp2
    go_loopw [3, 16] (fun s3 s16 wr => ∃ (i b : Nat) (p : Pr), s16 = .int .i64 i ∧ s3 = .pointer (some ⟨p.qb, 0, none⟩) ∧ i ≤ m + 1 ∧ ps[b]? = some p ∧ Upto ps (i + 1) p ∧ Below w.heap.size w wr) (fun _ s16 _ => m + 1 - (intOf s16).toNat)
    case atStart => exact ⟨0, 0, p0, rfl, rfl, by omega, Hp0.out, hU0, Below.refl _ _⟩
    case round =>
      clear c0 hP0 hU0
      obtain ⟨i, b, p, rfl, rfl, hi, hp, hU, hB⟩ := hrel
      have hPr : Procs wr B pb (m + 2) ps := h.grow (kept_of_below' hB)
      by_cases hlt : i < m + 1
      · obtain ⟨q, hq⟩ := get_of_lt (d := ps) (k := i + 1) (by rw [Hn.out]; omega)
        have cq := hPr.cell hq
        rw [Nat.add_comm] at cq
        have hPq := hPr.each q (List.mem_of_getElem? hq)
        have hPp := hPr.each p (List.mem_of_getElem? hp)
        have hlq := hPq.core.blk.lt
        have hlp2 := hPp.core.blk.lt
        have Hq : Hid (ps[i + 1]? = some q) := hq
        have Hp : Hid (ps[b]? = some p) := hp
        clear hq hp
        have hq1 := hPq.least.1
        have hq0 := hPq.least.2
        cases hq : q.top with
        | none =>
          cases hp : p.top with
          | none =>
            have hcq := pLeast_none wr B q hPq hq
            go_wp2_with fail
            refine hcq.mono ?_
            rintro e1 w1 ⟨rfl, g1⟩
            clear hcq cq
            have gA : Below w.heap.size w (w1.alloc (.cells #[.int .i64 0, .int .i64 0, .int .i64 0, .int .i64 0] 120)) := (hB.trans (g1.mono hB.size)).alloc (Nat.le_trans hB.size g1.size) _
            have hPpA := hPp.keep (kept_of_below' (g1.alloc g1.size (.cells #[.int .i64 0, .int .i64 0, .int .i64 0, .int .i64 0] 120))) (fun _ _ e => e)
            have hlpA := hPpA.core.blk.lt
            have hcp := pLeast_none _ B p hPpA hp
            go_wp2_with fail
            refine hcp.mono ?_
            rintro e2 w2 ⟨rfl, g2⟩
            clear hcp
            have gB : Below w.heap.size w (w2.alloc (.cells #[.int .i64 0, .int .i64 0, .int .i64 0, .int .i64 0] 120)) := (gA.trans (g2.mono gA.size)).alloc (Nat.le_trans gA.size g2.size) _
            go_wp2
            go_roundw
            case rel => exact ⟨i + 1, b, p, by go_num, rfl, by omega, Hp.out, hU.stay_none Hq.out (hq0 hq), gB⟩
            case measure => simp [intOf]; omega
          | some u =>
            have hcq := pLeast_none wr B q hPq hq
            go_wp2_with fail
            refine hcq.mono ?_
            rintro e1 w1 ⟨rfl, g1⟩
            clear hcq cq
            have gA : Below w.heap.size w (w1.alloc (.cells #[.int .i64 0, .int .i64 0, .int .i64 0, .int .i64 0] 120)) := (hB.trans (g1.mono hB.size)).alloc (Nat.le_trans hB.size g1.size) _
            have hPpA := hPp.keep (kept_of_below' (g1.alloc g1.size (.cells #[.int .i64 0, .int .i64 0, .int .i64 0, .int .i64 0] 120))) (fun _ _ e => e)
            have hlpA := hPpA.core.blk.lt
            have hcp := pLeast_some _ B p u hPpA hp
            go_wp2_with fail
            refine hcp.mono ?_
            rintro e2 w2 ⟨rfl, g2⟩
            clear hcp
            have gB : Below w.heap.size w (w2.alloc (.cells #[.int .i64 u.t, .int .i64 u.f, .int .i64 u.s, .int .i64 u.l] 120)) := (gA.trans (g2.mono gA.size)).alloc (Nat.le_trans gA.size g2.size) _
            go_wp2
            go_roundw
            case rel => exact ⟨i + 1, b, p, by go_num, rfl, by omega, Hp.out, hU.stay_none Hq.out (hq0 hq), gB⟩
            case measure => simp [intOf]; omega
        | some t =>
          cases hp : p.top with
          | none =>
            have hcq := pLeast_some wr B q t hPq hq
            go_wp2_with fail
            refine hcq.mono ?_
            rintro e1 w1 ⟨rfl, g1⟩
            clear hcq cq
            have gA : Below w.heap.size w (w1.alloc (.cells #[.int .i64 t.t, .int .i64 t.f, .int .i64 t.s, .int .i64 t.l] 120)) := (hB.trans (g1.mono hB.size)).alloc (Nat.le_trans hB.size g1.size) _
            have hPpA := hPp.keep (kept_of_below' (g1.alloc g1.size (.cells #[.int .i64 t.t, .int .i64 t.f, .int .i64 t.s, .int .i64 t.l] 120))) (fun _ _ e => e)
            have hlpA := hPpA.core.blk.lt
            have hcp := pLeast_none _ B p hPpA hp
            go_wp2_with fail
            refine hcp.mono ?_
            rintro e2 w2 ⟨rfl, g2⟩
            clear hcp
            have gB : Below w.heap.size w (w2.alloc (.cells #[.int .i64 0, .int .i64 0, .int .i64 0, .int .i64 0] 120)) := (gA.trans (g2.mono gA.size)).alloc (Nat.le_trans gA.size g2.size) _
            go_wp2
            go_roundw
            case rel => exact ⟨i + 1, i + 1, q, by go_num, rfl, by omega, Hq.out, hU.first hp Hq.out hq (hq1 t hq), gB⟩
            case measure => simp [intOf]; omega
          | some u =>
            have hcq := pLeast_some wr B q t hPq hq
            go_wp2_with fail
            refine hcq.mono ?_
            rintro e1 w1 ⟨rfl, g1⟩
            clear hcq cq
            have gA : Below w.heap.size w (w1.alloc (.cells #[.int .i64 t.t, .int .i64 t.f, .int .i64 t.s, .int .i64 t.l] 120)) := (hB.trans (g1.mono hB.size)).alloc (Nat.le_trans hB.size g1.size) _
            have hPpA := hPp.keep (kept_of_below' (g1.alloc g1.size (.cells #[.int .i64 t.t, .int .i64 t.f, .int .i64 t.s, .int .i64 t.l] 120))) (fun _ _ e => e)
            have hlpA := hPpA.core.blk.lt
            have hcp := pLeast_some _ B p u hPpA hp
            go_wp2_with fail
            refine hcp.mono ?_
            rintro e2 w2 ⟨rfl, g2⟩
            clear hcp
            have gB : Below w.heap.size w (w2.alloc (.cells #[.int .i64 u.t, .int .i64 u.f, .int .i64 u.s, .int .i64 u.l] 120)) := (gA.trans (g2.mono gA.size)).alloc (Nat.le_trans gA.size g2.size) _
            have hx : Blk (w2.alloc (.cells #[.int .i64 u.t, .int .i64 u.f, .int .i64 u.s, .int .i64 u.l] 120)) w1.heap.size #[.int .i64 t.t, .int .i64 t.f, .int .i64 t.s, .int .i64 t.l] 120 := Blk.alloc (Blk.keep (show Blk (w1.alloc (.cells #[.int .i64 t.t, .int .i64 t.f, .int .i64 t.s, .int .i64 t.l] 120)) w1.heap.size #[.int .i64 t.t, .int .i64 t.f, .int .i64 t.s, .int .i64 t.l] 120 from heap_alloc_new w1 _) (kept_of_below' g2) (fun e => e)) _
            have x0 : (w2.alloc (.cells #[.int .i64 u.t, .int .i64 u.f, .int .i64 u.s, .int .i64 u.l] 120)).cell? ⟨w1.heap.size, 0, none⟩ = some (.int .i64 t.t) := hx.cell 0
            have x1 : (w2.alloc (.cells #[.int .i64 u.t, .int .i64 u.f, .int .i64 u.s, .int .i64 u.l] 120)).cell? ⟨w1.heap.size, 1, none⟩ = some (.int .i64 t.f) := hx.cell 1
            have x2 : (w2.alloc (.cells #[.int .i64 u.t, .int .i64 u.f, .int .i64 u.s, .int .i64 u.l] 120)).cell? ⟨w1.heap.size, 2, none⟩ = some (.int .i64 t.s) := hx.cell 2
            have x3 : (w2.alloc (.cells #[.int .i64 u.t, .int .i64 u.f, .int .i64 u.s, .int .i64 u.l] 120)).cell? ⟨w1.heap.size, 3, none⟩ = some (.int .i64 t.l) := hx.cell 3
            have hlx : w1.heap.size < w2.heap.size := by have := g2.size; simp at this; omega
            have hcb := itemBefore_any t u (w2.alloc (.cells #[.int .i64 u.t, .int .i64 u.f, .int .i64 u.s, .int .i64 u.l] 120))
            cases hv : t.aheadB u with
            | true =>
              have Hv : Hid (t.lt u) := (It.aheadB_iff t u).1 hv
              rw [hv] at hcb
              clear hv
              go_wp2_with fail
              refine hcb.mono ?_
              rintro e3 w3 ⟨rfl, g3⟩
              clear hcb x0 x1 x2 x3 hx
              have gC : Below w.heap.size w w3 := gB.trans (g3.mono gB.size)
              go_wp2
              go_roundw
              case rel => exact ⟨i + 1, i + 1, q, by go_num, rfl, by omega, Hq.out, hU.turn hp Hq.out hq (hq1 t hq) Hv.out, gC⟩
              case measure => simp [intOf]; omega
            | false =>
              have Hv : Hid (¬ t.lt u) := fun h => by rw [(It.aheadB_iff t u).2 h] at hv; cases hv
              rw [hv] at hcb
              clear hv
              go_wp2_with fail
              refine hcb.mono ?_
              rintro e3 w3 ⟨rfl, g3⟩
              clear hcb x0 x1 x2 x3 hx
              have gC : Below w.heap.size w w3 := gB.trans (g3.mono gB.size)
              go_wp2
              go_roundw
              case rel => exact ⟨i + 1, b, p, by go_num, rfl, by omega, Hp.out, hU.stay hp Hq.out (hq1 t hq) Hv.out, gC⟩
              case measure => simp [intOf]; omega
      · have hie : i = m + 1 := by omega
        subst hie
        go_wp2
        go_ret
        exact ⟨b, p, rfl, hp, hU, hB⟩

end Go.Proofs.Ytaieackeflmhgaa

namespace Go.Proofs.Ytaieackeflmhgaa
open Go.RowKit Go.Sort Go.Maps

def NextUpto (en : Int) (l : List Ev) (i : Nat) (kk : Int) : Prop :=
  (kk = -1 ∧ ∀ (j : Nat) (y : Ev), j < i → l[j]? = some y → en ≤ y.it.t) ∨
  ∃ (j : Nat) (x : Ev), kk = (j : Int) ∧ j < i ∧ l[j]? = some x ∧ x.it.t < en ∧ ∀ (n : Nat) (y : Ev), n < i → l[n]? = some y → y.it.t < en → ¬ y.it.lt x.it

theorem NextUpto.zero (en : Int) (l : List Ev) : NextUpto en l 0 (-1) := .inl ⟨rfl, fun j y hj => by omega⟩
theorem NextUpto.skip {en : Int} {l : List Ev} {i : Nat} {kk : Int} {x : Ev} (h : NextUpto en l i kk) (hx : l[i]? = some x) (ht : ¬ x.it.t < en) : NextUpto en l (i + 1) kk := by
  rcases h with ⟨h1, h2⟩ | ⟨j, y, h1, h2, h3, h4, h5⟩
  · refine .inl ⟨h1, fun j y hj hy => ?_⟩
    by_cases e : j = i
    · subst e; rw [hx] at hy; cases hy; omega
    · exact h2 j y (by omega) hy
  · refine .inr ⟨j, y, h1, by omega, h3, h4, fun n z hn hz hzt => ?_⟩
    by_cases e : n = i
    · subst e; rw [hx] at hz; cases hz; exact absurd hzt ht
    · exact h5 n z (by omega) hz hzt
theorem NextUpto.first {en : Int} {l : List Ev} {i : Nat} {x : Ev} (h : NextUpto en l i (-1)) (hx : l[i]? = some x) (ht : x.it.t < en) : NextUpto en l (i + 1) (i : Int) := by
  rcases h with ⟨_, h2⟩ | ⟨j, y, h1, _⟩
  · refine .inr ⟨i, x, rfl, by omega, hx, ht, fun n z hn hz hzt => ?_⟩
    by_cases e : n = i
    · subst e; rw [hx] at hz; cases hz; unfold It.lt; omega
    · have := h2 n z (by omega) hz; omega
  · omega
theorem NextUpto.turn {en : Int} {l : List Ev} {i j : Nat} {x y : Ev} (h : NextUpto en l i (j : Int)) (hy : l[j]? = some y) (hx : l[i]? = some x) (ht : x.it.t < en) (hl : x.it.lt y.it) : NextUpto en l (i + 1) (i : Int) := by
  rcases h with ⟨h1, _⟩ | ⟨j', y', h1, h2, h3, h4, h5⟩
  · omega
  · have : j' = j := by omega
    subst this
    rw [hy] at h3; cases h3
    refine .inr ⟨i, x, rfl, by omega, hx, ht, fun n z hn hz hzt => ?_⟩
    by_cases e : n = i
    · subst e; rw [hx] at hz; cases hz; unfold It.lt; omega
    · have := h5 n z (by omega) hz hzt
      unfold It.lt at *; omega
theorem NextUpto.stay {en : Int} {l : List Ev} {i j : Nat} {x y : Ev} (h : NextUpto en l i (j : Int)) (hy : l[j]? = some y) (hx : l[i]? = some x) (hl : ¬ x.it.lt y.it) : NextUpto en l (i + 1) (j : Int) := by
  rcases h with ⟨h1, _⟩ | ⟨j', y', h1, h2, h3, h4, h5⟩
  · omega
  · have : j' = j := by omega
    subst this
    rw [hy] at h3; cases h3
    refine .inr ⟨j', y, rfl, by omega, hy, h4, fun n z hn hz hzt => ?_⟩
    by_cases e : n = i
    · subst e; rw [hx] at hz; cases hz; exact hl
    · exact h5 n z (by omega) hz hzt

theorem NextUpto.nx {en : Int} {l : List Ev} {kk : Int} (hk : (l.map evKey).Nodup) (h : NextUpto en l l.length kk) : (kk = -1 ∧ nx en l = none) ∨ ∃ (j : Nat) (e : Ev), kk = (j : Int) ∧ nx en l = some j ∧ l[j]? = some e ∧ e.it.t < en := by
  rcases h with ⟨h1, h2⟩ | ⟨j, x, h1, h2, h3, h4, h5⟩
  · refine .inl ⟨h1, nx_none (fun e he => ?_)⟩
    obtain ⟨j, hj⟩ := List.getElem?_of_mem he
    exact h2 j e (get_lt hj) hj
  · refine .inr ⟨j, x, h1, nx_some hk ⟨x, h3, h4, fun y hy hyt => ?_⟩, h3, h4⟩
    obtain ⟨n, hn⟩ := List.getElem?_of_mem hy
    exact h5 n y (get_lt hn) hn hyt

theorem Own.evcells {w : World} {B g len cap : Nat} {l : List Ev} (h : Own evE w B (.slice (some ⟨g, 0, none⟩) len cap) l) {j : Nat} {x : Ev} (hx : l[j]? = some x) :
    w.cell? ⟨g, j * 6, none⟩ = some (.int .i64 x.it.t) ∧ w.cell? ⟨g, j * 6 + 1, none⟩ = some (.int .i64 x.it.f) ∧ w.cell? ⟨g, j * 6 + 2, none⟩ = some (.int .i64 x.it.s) ∧ w.cell? ⟨g, j * 6 + 3, none⟩ = some (.int .i64 x.it.l) ∧ w.cell? ⟨g, j * 6 + 4, none⟩ = some (.int .i64 x.p) ∧ w.cell? ⟨g, j * 6 + 5, none⟩ = some (.int .i64 x.c) :=
  ⟨h.cell hx (k := 0) rfl, h.cell hx (k := 1) rfl, h.cell hx (k := 2) rfl, h.cell hx (k := 3) rfl, h.cell hx (k := 4) rfl, h.cell hx (k := 5) rfl⟩

set_option maxRecDepth 100000 in
set_option maxHeartbeats 4000000 in
theorem next_any (w : World) (B cb : Nat) (lv rv sv : Value) (m : Mdl) (wv : Value) (sb qb db kb : Nat) (D C : List Value) (c : Cs) (en : Int)
    (h : CAt w B cb lv rv sv m wv sb qb db kb D C c) (hlen : c.wait.length ≤ 2000) :
    Calls Try.prog 77 #[.pointer (some ⟨cb, 0, none⟩), .int .i64 en] w fun e w' => ∃ kk : Int, e = .returned (.int .i64 kk) ∧ NextUpto en c.wait c.wait.length kk ∧ Below w.heap.size w w' := by
  obtain ⟨ao, cap, hwv, hcap⟩ := h.wait.form'
  obtain ⟨n, hln⟩ : ∃ n, n = c.wait.length := ⟨_, rfl⟩
  have Hn : Hid (n = c.wait.length) := hln
  rw [← hln] at hwv hcap hlen ⊢
  subst hwv
  have c6 : w.cell? ⟨cb, 6, none⟩ = some (.slice ao n cap) := h.blk.cell 6
  have hW : Hid (Own evE w B (.slice ao n cap) c.wait) := h.wait
  clear h hln
  go_enter Try.func77, Try.ntmps77
  go_wp2
  go_loopw [5, 6] (fun sk si wr => ∃ (i : Nat) (kk : Int), si = .int .i64 i ∧ sk = .int .i64 kk ∧ i ≤ n ∧ NextUpto en c.wait i kk ∧ Below w.heap.size w wr) (fun _ si _ => n - (intOf si).toNat)
  case atStart => exact ⟨0, -1, rfl, rfl, by omega, NextUpto.zero _ _, Below.refl _ _⟩
  case round =>
    obtain ⟨i, kk, rfl, rfl, hin, hL, hB⟩ := hrel
    have d6 : wr.cell? ⟨cb, 6, none⟩ = some (.slice ao n cap) := Gr.cell (W0 := w) hB c6
    by_cases hlt : i < n
    · obtain ⟨x, hx⟩ := get_of_lt (d := c.wait) (k := i) (by have := Hn.out; omega)
      have Hx : Hid (c.wait[i]? = some x) := hx
      obtain ⟨g, cap', hg, _⟩ := Own.at_ hW.out hx
      simp only [Value.slice.injEq] at hg
      obtain ⟨rfl, -, -⟩ := hg
      have hI : Hid (Own evE wr B (.slice (some ⟨g, 0, none⟩) n cap) c.wait) := Own.keep (w' := wr) hW.out (KeptF.of_below (F := fun _ => False) hB) (fun _ _ e => e)
      obtain ⟨a0, a1, a2, a3, -, -⟩ := Own.evcells hI.out hx
      have k6 := cell_regrown d6
      have k0 := cell_regrown a0
      have k1 := cell_regrown a1
      have k2 := cell_regrown a2
      have k3 := cell_regrown a3
      clear hx
      by_cases ht : x.it.t < en
      · rcases hL with ⟨rfl, hall⟩ | ⟨j, y, rfl, hji, hy, hyt, h5⟩
        · have hL : NextUpto en c.wait i (-1) := .inl ⟨rfl, hall⟩
          go_wp2
          refine wp_region_quiet_below (by kernel_rfl) (by kernel_rfl) ?_
          repeat (go_big_quiet_step (fail))
          refine wpQuiet_nil ?_
          intro wq hw'
          have hbl := below_of_regrown hw'
          clear hw' k6 k0 k1 k2 k3 a0 a1 a2 a3 d6
          go_wp2
          go_roundw
          case rel => exact ⟨i + 1, i, by go_num, rfl, by omega, hL.first Hx.out ht, hB.trans (hbl.mono hB.size)⟩
          case measure => simp [intOf]; omega
        · have hL : NextUpto en c.wait i (j : Int) := .inr ⟨j, y, rfl, hji, hy, hyt, h5⟩
          have Hy : Hid (c.wait[j]? = some y) := hy
          obtain ⟨b0, b1, b2, b3, -, -⟩ := Own.evcells hI.out hy
          have l0 := cell_regrown b0
          have l1 := cell_regrown b1
          have l2 := cell_regrown b2
          have l3 := cell_regrown b3
          have hjn : j < n := by omega
          have hj0 : decide ((j : Int) < 0) = false := decide_eq_false (by omega)
          clear hy h5 hyt
          cases hv : x.it.aheadB y.it with
          | false =>
            have Hv : Hid (¬ x.it.lt y.it) := fun h => by rw [(It.aheadB_iff x.it y.it).2 h] at hv; cases hv
            have hcall := ahead_grown x.it y.it wr false hv
            clear hv
            go_wp2
            refine wp_region_quiet_below (by kernel_rfl) (by kernel_rfl) ?_
            repeat (go_big_quiet_step (exact hcall _))
            refine wpQuiet_nil ?_
            intro wq hw'
            have hbl := below_of_regrown hw'
            clear hw' k6 k0 k1 k2 k3 a0 a1 a2 a3 d6 b0 b1 b2 b3 l0 l1 l2 l3 hcall
            go_wp2
            go_roundw
            case rel => exact ⟨i + 1, j, by go_num, rfl, by omega, hL.stay Hy.out Hx.out Hv.out, hB.trans (hbl.mono hB.size)⟩
            case measure => simp [intOf]; omega
          | true =>
            have Hv : Hid (x.it.lt y.it) := (It.aheadB_iff x.it y.it).1 hv
            have hcall := ahead_grown x.it y.it wr true hv
            clear hv
            go_wp2
            refine wp_region_quiet_below (by kernel_rfl) (by kernel_rfl) ?_
            repeat (go_big_quiet_step (exact hcall _))
            refine wpQuiet_nil ?_
            intro wq hw'
            have hbl := below_of_regrown hw'
            clear hw' k6 k0 k1 k2 k3 a0 a1 a2 a3 d6 b0 b1 b2 b3 l0 l1 l2 l3 hcall
            go_wp2
            go_roundw
            case rel => exact ⟨i + 1, i, by go_num, rfl, by omega, hL.turn Hy.out Hx.out ht Hv.out, hB.trans (hbl.mono hB.size)⟩
            case measure => simp [intOf]; omega
      · have htf : decide (x.it.t < en) = false := decide_eq_false ht
        go_wp2
        refine wp_region_quiet_below (by kernel_rfl) (by kernel_rfl) ?_
        repeat (go_big_quiet_step (fail))
        refine wpQuiet_nil ?_
        intro wq hw'
        have hbl := below_of_regrown hw'
        clear hw' k6 k0 k1 k2 k3 a0 a1 a2 a3 d6 htf
        go_wp2
        go_roundw
        case rel => exact ⟨i + 1, kk, by go_num, rfl, by omega, hL.skip Hx.out (by omega), hB.trans (hbl.mono hB.size)⟩
        case measure => simp [intOf]; omega
    · have hie : i = n := by omega
      subst hie
      go_wp2
      go_ret
      exact ⟨kk, rfl, hL, hB⟩

end Go.Proofs.Ytaieackeflmhgaa

namespace Go.Proofs.Ytaieackeflmhgaa
open Go.RowKit Go.Sort Go.Maps

theorem takeL {P : Program} {md : Region.Mode} {l : List Oper} {Q : Exit → Act → World → Prop} {S : World → Prop} (i : Nat) {oi : Oper} {v : Value} {fuel : Nat} {listed : Array Bool} {a : Act} {w : World} (hi : l[i]? = some oi)
    (hs : Region.noSelect l.toArray = true) (hf : Region.free md l.toArray listed i = true) (hr : (Region.ready md l.toArray listed).contains i = true)
    (hQ : ∀ c a w, Q (.panic c) (a.put oi.dst v) w → Q (.panic c) a w) (hw : Region.wanted oi (yielded l.toArray a.tmps) = true) (hy : ∀ w, S w → (execOp a.eval oi).run P w = .ok (.value v) w) (hS : S w)
    (h : wpAnyH P md l.toArray Q S fuel (listed.setIfInBounds i true) (a.put oi.dst v) w) : wpAnyH P md l.toArray Q S (fuel + 1) listed a w :=
  wpAnyH_take (by rw [List.getElem?_toArray]; exact hi) hs hf hr hQ (.inl ⟨hw, hy⟩) hS h

theorem consL {P : Program} {md : Region.Mode} {l : List Oper} {Q : Exit → Act → World → Prop} {S : World → Prop} {fuel : Nat} {listed : Array Bool} {a : Act} {w : World} {i : Nat} {o : Oper} {rs : List Nat} (ho : l[i]? = some o)
    (h : ∀ K' : Act → World → Prop, Shut (∀ a w, S w → (S w → wpAnyH P md l.toArray Q S fuel (listed.setIfInBounds i true) a w) → K' a w) → if Region.wanted o (yielded l.toArray a.tmps) = true then Oper.wp P o a w K' Q else K' (a.put o.dst undef) w)
    (hs : AllReadyH P md l.toArray Q S fuel listed a w rs) : AllReadyH P md l.toArray Q S fuel listed a w (i :: rs) :=
  AllReadyH.cons (by rw [List.getElem?_toArray]; exact ho) h hs

end Go.Proofs.Ytaieackeflmhgaa

