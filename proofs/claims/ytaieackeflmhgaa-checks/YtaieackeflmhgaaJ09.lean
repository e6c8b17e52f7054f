/-
  The reference: which event is next.
  The moves of a walk through a region that draws, at a region that is written out.
-/
import Derived.Test.YtaieackeflmhgaaJ07
import Derived.Deep.RegionHeld3
namespace Go.Proofs.Ytaieackeflmhgaa
open Go.RowKit Go.Sort Go.Maps

def NextUpto (en : Int) (l : List Ev) (i : Nat) (kk : Int) : Prop :=
  (kk = -1 ∧ ∀ (j : Nat) (y : Ev), j < i → l[j]? = some y → en ≤ y.it.t) ∨
  ∃ (j : Nat) (x : Ev), kk = (j : Int) ∧ j < i ∧ l[j]? = some x ∧ x.it.t < en ∧ ∀ (n : Nat) (y : Ev), n < i → l[n]? = some y → y.it.t < en → ¬ y.it.lt x.it

theorem NextUpto.zero (en : Int) (l : List Ev) : NextUpto en l 0 (-1) := .inl ⟨rfl, fun j y hj => by omega⟩
theorem NextUpto.skip {en : Int} {l : List Ev} {i : Nat} {kk : Int} {x : Ev} (h : NextUpto en l i kk) (hx : l[i]? = some x) (ht : ¬ x.it.t < en) : NextUpto en l (i + 1) kk := by
  rcases h with ⟨h1, h2⟩ | ⟨j, y, h1, h2, h3, h4, h5⟩
  · refine .inl ⟨h1, fun j y hj hy => ?_⟩
    by_cases e : j = i
    · subst e; rw [hx] at hy; cases hy; omega
    · exact h2 j y (by omega) hy
  · refine .inr ⟨j, y, h1, by omega, h3, h4, fun n z hn hz hzt => ?_⟩
    by_cases e : n = i
    · subst e; rw [hx] at hz; cases hz; exact absurd hzt ht
    · exact h5 n z (by omega) hz hzt
theorem NextUpto.first {en : Int} {l : List Ev} {i : Nat} {x : Ev} (h : NextUpto en l i (-1)) (hx : l[i]? = some x) (ht : x.it.t < en) : NextUpto en l (i + 1) (i : Int) := by
  rcases h with ⟨_, h2⟩ | ⟨j, y, h1, _⟩
  · refine .inr ⟨i, x, rfl, by omega, hx, ht, fun n z hn hz hzt => ?_⟩
    by_cases e : n = i
    · subst e; rw [hx] at hz; cases hz; unfold It.lt; omega
    · have := h2 n z (by omega) hz; omega
  · omega
theorem NextUpto.turn {en : Int} {l : List Ev} {i j : Nat} {x y : Ev} (h : NextUpto en l i (j : Int)) (hy : l[j]? = some y) (hx : l[i]? = some x) (ht : x.it.t < en) (hl : x.it.lt y.it) : NextUpto en l (i + 1) (i : Int) := by
  rcases h with ⟨h1, _⟩ | ⟨j', y', h1, h2, h3, h4, h5⟩
  · omega
  · have : j' = j := by omega
    subst this
    rw [hy] at h3; cases h3
    refine .inr ⟨i, x, rfl, by omega, hx, ht, fun n z hn hz hzt => ?_⟩
    by_cases e : n = i
    · subst e; rw [hx] at hz; cases hz; unfold It.lt; omega
    · have := h5 n z (by omega) hz hzt
      unfold It.lt at *; omega
theorem NextUpto.stay {en : Int} {l : List Ev} {i j : Nat} {x y : Ev} (h : NextUpto en l i (j : Int)) (hy : l[j]? = some y) (hx : l[i]? = some x) (hl : ¬ x.it.lt y.it) : NextUpto en l (i + 1) (j : Int) := by
  rcases h with ⟨h1, _⟩ | ⟨j', y', h1, h2, h3, h4, h5⟩
  · omega
  · have : j' = j := by omega
    subst this
    rw [hy] at h3; cases h3
    refine .inr ⟨j', y, rfl, by omega, hy, h4, fun n z hn hz hzt => ?_⟩
    by_cases e : n = i
    · subst e; rw [hx] at hz; cases hz; exact hl
    · exact h5 n z (by omega) hz hzt

theorem NextUpto.nx {en : Int} {l : List Ev} {kk : Int} (hk : (l.map evKey).Nodup) (h : NextUpto en l l.length kk) : (kk = -1 ∧ nx en l = none) ∨ ∃ (j : Nat) (e : Ev), kk = (j : Int) ∧ nx en l = some j ∧ l[j]? = some e ∧ e.it.t < en := by
  rcases h with ⟨h1, h2⟩ | ⟨j, x, h1, h2, h3, h4, h5⟩
  · refine .inl ⟨h1, nx_none (fun e he => ?_)⟩
    obtain ⟨j, hj⟩ := List.getElem?_of_mem he
    exact h2 j e (get_lt hj) hj
  · refine .inr ⟨j, x, h1, nx_some hk ⟨x, h3, h4, fun y hy hyt => ?_⟩, h3, h4⟩
    obtain ⟨n, hn⟩ := List.getElem?_of_mem hy
    exact h5 n y (get_lt hn) hn hyt

theorem Own.evcells {w : World} {B g len cap : Nat} {l : List Ev} (h : Own evE w B (.slice (some ⟨g, 0, none⟩) len cap) l) {j : Nat} {x : Ev} (hx : l[j]? = some x) :
    w.cell? ⟨g, j * 6, none⟩ = some (.int .i64 x.it.t) ∧ w.cell? ⟨g, j * 6 + 1, none⟩ = some (.int .i64 x.it.f) ∧ w.cell? ⟨g, j * 6 + 2, none⟩ = some (.int .i64 x.it.s) ∧ w.cell? ⟨g, j * 6 + 3, none⟩ = some (.int .i64 x.it.l) ∧ w.cell? ⟨g, j * 6 + 4, none⟩ = some (.int .i64 x.p) ∧ w.cell? ⟨g, j * 6 + 5, none⟩ = some (.int .i64 x.c) :=
  ⟨h.cell hx (k := 0) rfl, h.cell hx (k := 1) rfl, h.cell hx (k := 2) rfl, h.cell hx (k := 3) rfl, h.cell hx (k := 4) rfl, h.cell hx (k := 5) rfl⟩

set_option maxRecDepth 100000 in
set_option maxHeartbeats 4000000 in
theorem next_any (w : World) (B cb : Nat) (lv rv sv : Value) (m : Mdl) (wv : Value) (sb qb db kb : Nat) (D C : List Value) (c : Cs) (en : Int)
    (h : CAt w B cb lv rv sv m wv sb qb db kb D C c) (hlen : c.wait.length ≤ 2000) :
    Calls Try.prog 77 #[.pointer (some ⟨cb, 0, none⟩), .int .i64 en] w fun e w' => ∃ kk : Int, e = .returned (.int .i64 kk) ∧ NextUpto en c.wait c.wait.length kk ∧ Below w.heap.size w w' := by
  obtain ⟨ao, cap, hwv, hcap⟩ := h.wait.form'
  obtain ⟨n, hln⟩ : ∃ n, n = c.wait.length := ⟨_, rfl⟩
  have Hn : Hid (n = c.wait.length) := hln
  rw [← hln] at hwv hcap hlen ⊢
  subst hwv
  have c6 : w.cell? ⟨cb, 6, none⟩ = some (.slice ao n cap) := h.blk.cell 6
  have hW : Hid (Own evE w B (.slice ao n cap) c.wait) := h.wait
  clear h hln
  go_enter Try.func77, Try.ntmps77
  go_wp2
  go_loopw [5, 6] (fun sk si wr => ∃ (i : Nat) (kk : Int), si = .int .i64 i ∧ sk = .int .i64 kk ∧ i ≤ n ∧ NextUpto en c.wait i kk ∧ Below w.heap.size w wr) (fun _ si _ => n - (intOf si).toNat)
  case atStart => exact ⟨0, -1, rfl, rfl, by omega, NextUpto.zero _ _, Below.refl _ _⟩
  case round =>
    obtain ⟨i, kk, rfl, rfl, hin, hL, hB⟩ := hrel
    have d6 : wr.cell? ⟨cb, 6, none⟩ = some (.slice ao n cap) := Gr.cell (W0 := w) hB c6
    by_cases hlt : i < n
    · obtain ⟨x, hx⟩ := get_of_lt (d := c.wait) (k := i) (by have := Hn.out; omega)
      have Hx : Hid (c.wait[i]? = some x) := hx
      obtain ⟨g, cap', hg, _⟩ := Own.at_ hW.out hx
      simp only [Value.slice.injEq] at hg
      obtain ⟨rfl, -, -⟩ := hg
      have hI : Hid (Own evE wr B (.slice (some ⟨g, 0, none⟩) n cap) c.wait) := Own.keep (w' := wr) hW.out (KeptF.of_below (F := fun _ => False) hB) (fun _ _ e => e)
      obtain ⟨a0, a1, a2, a3, -, -⟩ := Own.evcells hI.out hx
      have k6 := cell_regrown d6
      have k0 := cell_regrown a0
      have k1 := cell_regrown a1
      have k2 := cell_regrown a2
      have k3 := cell_regrown a3
      clear hx
      by_cases ht : x.it.t < en
      · rcases hL with ⟨rfl, hall⟩ | ⟨j, y, rfl, hji, hy, hyt, h5⟩
        · have hL : NextUpto en c.wait i (-1) := .inl ⟨rfl, hall⟩
          go_wp2
          refine wp_region_quiet_below (by kernel_rfl) (by kernel_rfl) ?_
          repeat (go_big_quiet_step (fail))
          refine wpQuiet_nil ?_
          intro wq hw'
          have hbl := below_of_regrown hw'
          clear hw' k6 k0 k1 k2 k3 a0 a1 a2 a3 d6
          go_wp2
          go_roundw
          case rel => exact ⟨i + 1, i, by go_num, rfl, by omega, hL.first Hx.out ht, hB.trans (hbl.mono hB.size)⟩
          case measure => simp [intOf]; omega
        · have hL : NextUpto en c.wait i (j : Int) := .inr ⟨j, y, rfl, hji, hy, hyt, h5⟩
          have Hy : Hid (c.wait[j]? = some y) := hy
          obtain ⟨b0, b1, b2, b3, -, -⟩ := Own.evcells hI.out hy
          have l0 := cell_regrown b0
          have l1 := cell_regrown b1
          have l2 := cell_regrown b2
          have l3 := cell_regrown b3
          have hjn : j < n := by omega
          have hj0 : decide ((j : Int) < 0) = false := decide_eq_false (by omega)
          clear hy h5 hyt
          cases hv : x.it.aheadB y.it with
          | false =>
            have Hv : Hid (¬ x.it.lt y.it) := fun h => by rw [(It.aheadB_iff x.it y.it).2 h] at hv; cases hv
            have hcall := ahead_grown x.it y.it wr false hv
            clear hv
            go_wp2
            refine wp_region_quiet_below (by kernel_rfl) (by kernel_rfl) ?_
            repeat (go_big_quiet_step (exact hcall _))
            refine wpQuiet_nil ?_
            intro wq hw'
            have hbl := below_of_regrown hw'
            clear hw' k6 k0 k1 k2 k3 a0 a1 a2 a3 d6 b0 b1 b2 b3 l0 l1 l2 l3 hcall
            go_wp2
            go_roundw
            case rel => exact ⟨i + 1, j, by go_num, rfl, by omega, hL.stay Hy.out Hx.out Hv.out, hB.trans (hbl.mono hB.size)⟩
            case measure => simp [intOf]; omega
          | true =>
            have Hv : Hid (x.it.lt y.it) := (It.aheadB_iff x.it y.it).1 hv
            have hcall := ahead_grown x.it y.it wr true hv
            clear hv
            go_wp2
            refine wp_region_quiet_below (by kernel_rfl) (by kernel_rfl) ?_
            repeat (go_big_quiet_step (exact hcall _))
            refine wpQuiet_nil ?_
            intro wq hw'
            have hbl := below_of_regrown hw'
            clear hw' k6 k0 k1 k2 k3 a0 a1 a2 a3 d6 b0 b1 b2 b3 l0 l1 l2 l3 hcall
            go_wp2
            go_roundw
            case rel => exact ⟨i + 1, i, by go_num, rfl, by omega, hL.turn Hy.out Hx.out ht Hv.out, hB.trans (hbl.mono hB.size)⟩
            case measure => simp [intOf]; omega
      · have htf : decide (x.it.t < en) = false := decide_eq_false ht
        go_wp2
        refine wp_region_quiet_below (by kernel_rfl) (by kernel_rfl) ?_
        repeat (go_big_quiet_step (fail))
        refine wpQuiet_nil ?_
        intro wq hw'
        have hbl := below_of_regrown hw'
        clear hw' k6 k0 k1 k2 k3 a0 a1 a2 a3 d6 htf
        go_wp2
        go_roundw
        case rel => exact ⟨i + 1, kk, by go_num, rfl, by omega, hL.skip Hx.out (by omega), hB.trans (hbl.mono hB.size)⟩
        case measure => simp [intOf]; omega
    · have hie : i = n := by omega
      subst hie
      go_wp2
      go_ret
      exact ⟨kk, rfl, hL, hB⟩

end Go.Proofs.Ytaieackeflmhgaa

namespace Go.Proofs.Ytaieackeflmhgaa
open Go.RowKit Go.Sort Go.Maps

theorem takeL {P : Program} {md : Region.Mode} {l : List Oper} {Q : Exit → Act → World → Prop} {S : World → Prop} (i : Nat) {oi : Oper} {v : Value} {fuel : Nat} {listed : Array Bool} {a : Act} {w : World} (hi : l[i]? = some oi)
    (hs : Region.noSelect l.toArray = true) (hf : Region.free md l.toArray listed i = true) (hr : (Region.ready md l.toArray listed).contains i = true)
    (hQ : ∀ c a w, Q (.panic c) (a.put oi.dst v) w → Q (.panic c) a w) (hw : Region.wanted oi (yielded l.toArray a.tmps) = true) (hy : ∀ w, S w → (execOp a.eval oi).run P w = .ok (.value v) w) (hS : S w)
    (h : wpAnyH P md l.toArray Q S fuel (listed.setIfInBounds i true) (a.put oi.dst v) w) : wpAnyH P md l.toArray Q S (fuel + 1) listed a w :=
  wpAnyH_take (by rw [List.getElem?_toArray]; exact hi) hs hf hr hQ (.inl ⟨hw, hy⟩) hS h

theorem consL {P : Program} {md : Region.Mode} {l : List Oper} {Q : Exit → Act → World → Prop} {S : World → Prop} {fuel : Nat} {listed : Array Bool} {a : Act} {w : World} {i : Nat} {o : Oper} {rs : List Nat} (ho : l[i]? = some o)
    (h : ∀ K' : Act → World → Prop, Shut (∀ a w, S w → (S w → wpAnyH P md l.toArray Q S fuel (listed.setIfInBounds i true) a w) → K' a w) → if Region.wanted o (yielded l.toArray a.tmps) = true then Oper.wp P o a w K' Q else K' (a.put o.dst undef) w)
    (hs : AllReadyH P md l.toArray Q S fuel listed a w rs) : AllReadyH P md l.toArray Q S fuel listed a w (i :: rs) :=
  AllReadyH.cons (by rw [List.getElem?_toArray]; exact ho) h hs

end Go.Proofs.Ytaieackeflmhgaa

