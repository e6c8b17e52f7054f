/-
  One step of a queue beside its list: Pop.
-/
import Derived.Test.YtbpaigpjffdcbaaPlay2
namespace Go.Proofs.Ytbpaigpjffdcbaa
open Go.RowKit Go.Sort Go.Maps

set_option maxRecDepth 100000 in
set_option maxHeartbeats 4000000 in
theorem played_pop (w : World) (B qb mb : Nat) (dv : Value) (n : Nat) (ds : List Day) (rest : Array Value) (Tq : TypeId) (width : Int) (pushed : Nat) (lv : Value) (l : List It) (L : List Ent) (W : Int) (x : It)
    (h : Pair w B qb mb dv n ds rest Tq width pushed lv l L) (hBw : B ≤ w.heap.size) (hp : pushed ≤ 2932031007317) :
    Calls Try.prog 18 #[.pointer (some ⟨qb, 0, none⟩), lv, .agg #[.int .i64 2, .int .i64 W, .int .i64 x.t, .int .i64 x.f, .int .i64 x.s, .int .i64 x.l]] w
      (StepPost w B qb mb dv ds rest Tq width lv (fun p' l' => p' = pushed ∧ l'.length = l.length - 1)) := by
  obtain ⟨hl1, hl2, hl3⟩ := h.lens
  have hll := h.lenle
  have Hl3 : Hid (l.length = L.length) := hl3
  have hlN : l.length ≤ 2932031007317 := by omega
  have hk0 : KeptF (fun _ => False) w (w.alloc (.cells #[.int .i64 2, .int .i64 W, .int .i64 x.t, .int .i64 x.f, .int .i64 x.s, .int .i64 x.l] 49)) := (KeptF.refl _ w).alloc _
  have hle := refLeast_any _ B lv l (h.list.keep hk0 (fun _ _ e => e)) (by omega)
  go_enter Try.func18, Try.ntmps18
  go_wp2_with fail
  refine hle.mono ?_
  rintro e w1 ⟨kk, rfl, hL, hb1⟩
  have hs1 : w.heap.size < w1.heap.size := by have := hb1.size; simp at this; omega
  have hk1 : KeptF (fun _ => False) w w1 := hk0.trans (kept_of_below hb1)
  have hop1 : Blk w1 w.heap.size #[.int .i64 2, .int .i64 W, .int .i64 x.t, .int .i64 x.f, .int .i64 x.s, .int .i64 x.l] 49 := by
    have hb : Blk (w.alloc (.cells #[.int .i64 2, .int .i64 W, .int .i64 x.t, .int .i64 x.f, .int .i64 x.s, .int .i64 x.l] 49)) w.heap.size #[.int .i64 2, .int .i64 W, .int .i64 x.t, .int .i64 x.f, .int .i64 x.s, .int .i64 x.l] 49 := heap_alloc_new w _
    exact hb.keep (kept_of_below hb1) (fun e => e)
  have o0 := hop1.cell 0
  simp only [List.getElem?_toArray, List.getElem?_cons_zero] at o0
  have hI1 := h.list.keep hk1 (fun _ _ e => e)
  clear hle hb1 hk0 hl3
  rcases least_cases hL with ⟨rfl, hnil⟩ | ⟨j, y, rfl, hy, hm1, hm2⟩
  · have HL0 : Hid (L.length = 0) := by have := Hl3.out; rw [hnil] at this; exact this.symm
    have Hnil : Hid (l = []) := hnil
    obtain ⟨ao, cap, hlv⟩ : ∃ ao cap, lv = .slice ao l.length cap := by
      rcases h.list.form with ⟨h1, h2⟩ | ⟨g, cap, h1, _⟩
      · rw [h2]; exact ⟨none, 0, h1⟩
      · exact ⟨_, _, h1⟩
    subst hlv
    clear hL hI1 hnil
    have hq0 : QCore w1 B qb mb dv n ds rest Tq width ((0 : Nat) : Int) pushed := by
      have := h.core.keep hk1 (fun _ _ e => e)
      rw [HL0.out] at this
      exact this
    go_wp2_with fail
    refine (pop_none _ B qb mb dv n ds rest Tq width pushed (hq0.keep (G := fun _ => False) ((KeptF.refl _ w1).alloc _) (fun _ _ e => e))).mono ?_
    rintro e w2 ⟨rfl, hb2⟩
    have hk2 : KeptF (fun _ => False) w w2 := (hk1.alloc _).trans (kept_of_below hb2)
    have hwant := (Blk.keep (heap_alloc_new w1 _) (kept_of_below hb2) (fun e => e) : Blk w2 w1.heap.size #[.int .i64 0, .int .i64 0, .int .i64 0, .int .i64 0] 47)
    have a0 := hwant.cell 0
    have a1 := hwant.cell 1
    have a2 := hwant.cell 2
    have a3 := hwant.cell 3
    simp only [List.getElem?_toArray, List.getElem?_cons_zero, List.getElem?_cons_succ] at a0 a1 a2 a3
    have hs2 : w1.heap.size < w2.heap.size := by have := hb2.size; simp at this; omega
    clear hb2 o0
    go_wp2_with fail
    refine (same_any ⟨0, 0, 0, 0⟩ _).mono ?_
    rintro e w3 ⟨rfl, hb3⟩
    have hk3 : KeptF (fun _ => False) w w3 := (hk2.alloc _).trans (kept_of_below hb3)
    go_wp2
    go_ret2
    exact ⟨dv, ds, n, pushed, _, l, L, rfl, h.idle hk3, rfl, by rw [Hnil.out]; rfl⟩
  · obtain ⟨x0, r0, e0, es0, c, hds, hes, hLj, hit, hLc⟩ := h.front hy hm1 hm2
    obtain ⟨g, cap, hlv, hcapl⟩ : ∃ g cap, lv = .slice (some ⟨g, 0, none⟩) l.length cap ∧ l.length ≤ cap := by
      rcases hI1.form with ⟨_, h2⟩ | h2
      · rw [h2] at hy; simp at hy
      · exact h2
    subst hlv
    obtain ⟨d0, d1, d2, d3⟩ := hI1.cells hy
    have hgl : g < w1.heap.size := block_lt_of_cell d0
    have hj : j < l.length := get_lt hy
    have HLc : Hid (L.length = c + 1) := hLc
    have HLj : Hid (L[j]? = some e0) := hLj
    clear hL hy hm1 hm2 hLc hLj hI1
    subst hit
    subst hds
    have hq0 : QCore w1 B qb mb dv n (x0 :: r0) rest Tq width ((c + 1 : Nat) : Int) pushed := by
      have := h.core.keep hk1 (fun _ _ e => e)
      rw [HLc.out] at this
      exact this
    have hx0 := hl2 x0 (by simp)
    have hr0 : r0.length + 1 ≤ L.length := by simpa using hl1
    have hin : ∀ e ∈ x0.es, InInt e.it.t := fun e he => h.inint e (h.perm.mem_iff.2 (by simp only [allEs, List.flatMap_cons, List.mem_append]; exact .inl he))
    have hwid := h.wid1
    go_wp2_with fail
    refine (pop_some _ B qb mb dv n r0 x0 rest Tq width c pushed e0 es0 (hq0.keep (G := fun _ => False) ((KeptF.refl _ w1).alloc _) (fun _ _ e => e)) h.filled hes hwid hin (by have := HLc.out; omega) (by omega) (by omega)).mono ?_
    rintro e w2 ⟨rfl, dv', ds', hQ2, hA2, hF2, hK2, hft2, hlen2⟩
    have hKw : KeptF (Foot qb mb dv (x0 :: r0)) w w2 := ((hk1.alloc _).weaken (fun _ _ e => e.elim)).trans hK2
    have hnw : ¬ Foot qb mb dv (x0 :: r0) w1.heap.size := fun hk => by have := (h.core.foot_lt hk).2; omega
    have hwant := (Blk.keep (heap_alloc_new w1 _) hK2 hnw : Blk w2 w1.heap.size #[.int .i64 e0.it.t, .int .i64 e0.it.f, .int .i64 e0.it.s, .int .i64 e0.it.l] 47)
    have a0 := hwant.cell 0
    have a1 := hwant.cell 1
    have a2 := hwant.cell 2
    have a3 := hwant.cell 3
    simp only [List.getElem?_toArray, List.getElem?_cons_zero, List.getElem?_cons_succ] at a0 a1 a2 a3
    have hs2 : w1.heap.size < w2.heap.size := hwant.lt
    have hI2 := h.list.keep hKw h.apartL
    have hj0 : decide ((0 : Int) ≤ (j : Int)) = true := decide_eq_true (by omega)
    have hBs : B ≤ w2.heap.size := Nat.le_trans hBw hKw.size
    clear o0 d0 d1 d2 d3
    go_wp2_with fail
    refine (same_any e0.it _).mono ?_
    rintro e w3 ⟨rfl, hb3⟩
    have hk3 : KeptF (fun _ => False) w2 w3 := ((KeptF.refl _ w2).alloc _).trans (kept_of_below hb3)
    have hI3 := hI2.keep hk3 (fun _ _ e => e)
    go_wp2_with fail
    refine (without_any _ B g cap l j hI3 hcapl hlN hj).mono ?_
    rintro e w4 ⟨lv', rfl, hI4, hb4⟩
    have hk4 : KeptF (fun _ => False) w2 w4 := hk3.trans (kept_of_below hb4)
    go_wp2
    go_ret2
    refine ⟨dv', ds', n, pushed, lv', l.eraseIdx j, L.eraseIdx j, rfl, h.popped HLj.out HLc.out hQ2 hA2 hF2 hKw (fun k hk => (hft2 k hk).imp id (fun h' => ?_)) hI4 (.inr hk3.size) (Nat.le_trans hBs hk3.size) hk4, rfl, ?_⟩
    · have := (hk1.alloc (.cells #[.int .i64 e0.it.t, .int .i64 e0.it.f, .int .i64 e0.it.s, .int .i64 e0.it.l] 47)).size
      omega
    · rw [List.length_eraseIdx, if_pos hj]

end Go.Proofs.Ytbpaigpjffdcbaa
