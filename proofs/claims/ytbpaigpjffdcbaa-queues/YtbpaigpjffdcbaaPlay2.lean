/-
  One step of a queue beside its list: Pop, Least, Len, and what does nothing.
-/
import Derived.Test.YtbpaigpjffdcbaaPlay1
namespace Go.Proofs.Ytbpaigpjffdcbaa
open Go.RowKit Go.Sort Go.Maps

section
variable {w w' : World} {B qb mb : Nat} {dv : Value} {n : Nat} {ds : List Day} {rest : Array Value} {Tq : TypeId} {width : Int} {pushed : Nat} {lv : Value} {l : List It} {L : List Ent}

/-- nothing has turned but new blocks -/
theorem Pair.idle (h : Pair w B qb mb dv n ds rest Tq width pushed lv l L) (k : KeptF (fun _ => False) w w') : Step w w' B qb mb dv dv ds ds n rest Tq width pushed lv lv l L :=
  ⟨h.keep k (fun _ _ e => e), k.weaken (fun _ _ e => e.elim), fun _ hk => .inl hk⟩

/-- a list that is not empty: the queue's first day has an entry -/
theorem Pair.front (h : Pair w B qb mb dv n ds rest Tq width pushed lv l L) {j : Nat} {y : It} (hy : l[j]? = some y) (h1 : ∀ (m : Nat) (z : It), m < l.length → l[m]? = some z → ¬ z.lt y) (h2 : ∀ (m : Nat) (z : It), m < j → l[m]? = some z → y.lt z) :
    ∃ x r e es c, ds = x :: r ∧ x.es = e :: es ∧ L[j]? = some e ∧ e.it = y ∧ L.length = c + 1 := by
  have hjl : j < l.length := get_lt hy
  have hlen := h.lens.2.2
  cases hds : ds with
  | nil =>
    have hL0 : L.length = 0 := by rw [h.perm.length_eq, hds]; rfl
    omega
  | cons x r =>
    have hF := h.filled
    rw [hds] at hF
    cases hes : x.es with
    | nil => exact absurd hes (hF x (by simp)).1
    | cons e es =>
      have hmin := QCore.top_least (hds ▸ h.core) h.wid1 hF hes
      have hmin' : ∀ a ∈ L, a.ltB e = false := fun a ha => hmin a (by rw [← hds]; exact h.perm.mem_iff.1 ha)
      have heL : e ∈ L := h.perm.mem_iff.2 (by rw [hds]; simp [allEs, hes])
      have hit := h.items
      subst hit
      have hp := pick_same h.sorted heL hmin' hy h1 h2
      refine ⟨x, r, e, es, L.length - 1, rfl, hes, hp, ?_, by omega⟩
      rw [List.getElem?_map, hp] at hy
      simpa using hy

/-- the pair behind a pop and the list without its first least item -/
theorem Pair.popped {w2 w4 : World} {dv' lv' : Value} {ds' : List Day} {e : Ent} {j c : Nat} (h : Pair w B qb mb dv n ds rest Tq width pushed lv l L) (he : L[j]? = some e) (hc : L.length = c + 1)
    (hQ : QCore w2 B qb mb dv' n ds' rest Tq width (c : Int) (pushed : Int)) (hA : (e :: allEs ds').Perm (allEs ds)) (hF : Filled width ds') (hK : KeptF (Foot qb mb dv ds) w w2) (hft : ∀ k, Foot qb mb dv' ds' k → Foot qb mb dv ds k ∨ w.heap.size ≤ k)
    {s : Nat} (hI : ISl w4 s lv' (l.eraseIdx j)) (hs : s = w2.heap.size ∨ w2.heap.size ≤ s) (hBs : B ≤ s) (k4 : KeptF (fun _ => False) w2 w4) :
    Step w w4 B qb mb dv dv' ds ds' n rest Tq width pushed lv lv' (l.eraseIdx j) (L.eraseIdx j) := by
  have hs' : w2.heap.size ≤ s := by omega
  have hlen : (L.eraseIdx j).length = c := by
    rw [List.length_eraseIdx, if_pos (get_lt he)]; omega
  have hsub := List.eraseIdx_sublist L j
  have hge : ∀ g, lv'.ownBlock = some g → w2.heap.size ≤ g := fun g hg => Nat.le_trans hs' (World.ownsRow_ge hI g hg)
  refine ⟨⟨?_, hF, ?_, h.sorted.sublist hsub, fun a ha => h.rank a (hsub.subset ha), ?_, fun a ha => h.inint a (hsub.subset ha), World.ownsRow_mono hI hBs, fun g hg hf => ?_, h.wid1, h.wid2, h.nle, by rw [hlen]; have := h.lenle; omega⟩, ?_, ?_⟩
  · rw [hlen]
    exact hQ.keep k4 (fun _ _ e => e)
  · have h1 := (perm_eraseIdx L j e he).symm.trans (h.perm.trans hA.symm)
    exact h1.cons_inv
  · rw [map_eraseIdx', h.items]
  · have := (hQ.foot_lt hf).2
    have := hge g hg
    omega
  · exact (hK.weaken (fun _ _ e => .inl e)).trans' k4 (fun _ _ e => e.elim)
  · intro k hk
    rcases hk with hk | hk
    · exact (hft k hk).imp (fun h => .inl h) id
    · exact .inr (Nat.le_trans hK.size (hge k hk))

end

set_option maxRecDepth 100000 in
set_option maxHeartbeats 4000000 in
theorem played_other (w : World) (B qb mb : Nat) (dv : Value) (n : Nat) (ds : List Day) (rest : Array Value) (Tq : TypeId) (width : Int) (pushed : Nat) (lv : Value) (l : List It) (L : List Ent) (W : Int) (x : It) (kind : Int) (hk1' : kind ≠ 1) (hk2' : kind ≠ 2) (hk3' : kind ≠ 3) (hk4' : kind ≠ 4)
    (h : Pair w B qb mb dv n ds rest Tq width pushed lv l L) (_hBw : B ≤ w.heap.size) (hp : pushed ≤ 2932031007317) :
    Calls Try.prog 18 #[.pointer (some ⟨qb, 0, none⟩), lv, .agg #[.int .i64 kind, .int .i64 W, .int .i64 x.t, .int .i64 x.f, .int .i64 x.s, .int .i64 x.l]] w
      (StepPost w B qb mb dv ds rest Tq width lv (fun p' l' => p' = pushed ∧ l' = l)) := by
  obtain ⟨hl1, hl2, hl3⟩ := h.lens
  have hll := h.lenle
  have Hl3 : Hid (l.length = L.length) := hl3
  have hlN : l.length ≤ 2932031007317 := by omega
  have hk0 : KeptF (fun _ => False) w (w.alloc (.cells #[.int .i64 kind, .int .i64 W, .int .i64 x.t, .int .i64 x.f, .int .i64 x.s, .int .i64 x.l] 49)) := (KeptF.refl _ w).alloc _
  have hle := refLeast_any _ B lv l (h.list.keep hk0 (fun _ _ e => e)) (by omega)
  have n1 : (kind == 1) = false := beq_eq_false_iff_ne.2 hk1'
  have n2 : (kind == 2) = false := beq_eq_false_iff_ne.2 hk2'
  have n3 : (kind == 3) = false := beq_eq_false_iff_ne.2 hk3'
  have n4 : (kind == 4) = false := beq_eq_false_iff_ne.2 hk4'
  go_enter Try.func18, Try.ntmps18
  go_wp2_with fail
  refine hle.mono ?_
  rintro e w1 ⟨kk, rfl, hL, hb1⟩
  have hs1 : w.heap.size < w1.heap.size := by have := hb1.size; simp at this; omega
  have hk1 : KeptF (fun _ => False) w w1 := hk0.trans (kept_of_below hb1)
  have hop1 : Blk w1 w.heap.size #[.int .i64 kind, .int .i64 W, .int .i64 x.t, .int .i64 x.f, .int .i64 x.s, .int .i64 x.l] 49 := by
    have hb : Blk (w.alloc (.cells #[.int .i64 kind, .int .i64 W, .int .i64 x.t, .int .i64 x.f, .int .i64 x.s, .int .i64 x.l] 49)) w.heap.size #[.int .i64 kind, .int .i64 W, .int .i64 x.t, .int .i64 x.f, .int .i64 x.s, .int .i64 x.l] 49 := heap_alloc_new w _
    exact hb.keep (kept_of_below hb1) (fun e => e)
  have o0 := hop1.cell 0
  simp only [List.getElem?_toArray, List.getElem?_cons_zero] at o0
  have hI1 := h.list.keep hk1 (fun _ _ e => e)
  clear hle hb1 hk0 hl3
  rcases least_cases hL with ⟨rfl, hnil⟩ | ⟨j, y, rfl, hy, hm1, hm2⟩
  · have HL0 : Hid (L.length = 0) := by have := Hl3.out; rw [hnil] at this; exact this.symm
    have Hnil : Hid (l = []) := hnil
    obtain ⟨ao, cap, hlv⟩ : ∃ ao cap, lv = .slice ao l.length cap := by
      rcases h.list.form with ⟨h1, h2⟩ | ⟨g, cap, h1, _⟩
      · rw [h2]; exact ⟨none, 0, h1⟩
      · exact ⟨_, _, h1⟩
    subst hlv
    clear hL hI1 hnil
    go_wp2
    go_ret2
    exact ⟨dv, ds, n, pushed, _, l, L, rfl, h.idle (hk1.alloc _), rfl, rfl⟩
  · obtain ⟨x0, r0, e0, es0, c, hds, hes, hLj, hit, hLc⟩ := h.front hy hm1 hm2
    obtain ⟨g, cap, hlv, hcapl⟩ : ∃ g cap, lv = .slice (some ⟨g, 0, none⟩) l.length cap ∧ l.length ≤ cap := by
      rcases hI1.form with ⟨_, h2⟩ | h2
      · rw [h2] at hy; simp at hy
      · exact h2
    subst hlv
    obtain ⟨d0, d1, d2, d3⟩ := hI1.cells hy
    have hgl : g < w1.heap.size := block_lt_of_cell d0
    have hj : j < l.length := get_lt hy
    have HLc : Hid (L.length = c + 1) := hLc
    have HLj : Hid (L[j]? = some e0) := hLj
    clear hL hy hm1 hm2 hLc hLj hI1
    subst hit
    go_wp2
    go_ret2
    exact ⟨dv, ds, n, pushed, _, l, L, rfl, h.idle (hk1.alloc _), rfl, rfl⟩

set_option maxRecDepth 100000 in
set_option maxHeartbeats 4000000 in
theorem played_len (w : World) (B qb mb : Nat) (dv : Value) (n : Nat) (ds : List Day) (rest : Array Value) (Tq : TypeId) (width : Int) (pushed : Nat) (lv : Value) (l : List It) (L : List Ent) (W : Int) (x : It)
    (h : Pair w B qb mb dv n ds rest Tq width pushed lv l L) (_hBw : B ≤ w.heap.size) (hp : pushed ≤ 2932031007317) :
    Calls Try.prog 18 #[.pointer (some ⟨qb, 0, none⟩), lv, .agg #[.int .i64 4, .int .i64 W, .int .i64 x.t, .int .i64 x.f, .int .i64 x.s, .int .i64 x.l]] w
      (StepPost w B qb mb dv ds rest Tq width lv (fun p' l' => p' = pushed ∧ l' = l)) := by
  obtain ⟨hl1, hl2, hl3⟩ := h.lens
  have hll := h.lenle
  have Hl3 : Hid (l.length = L.length) := hl3
  have hlN : l.length ≤ 2932031007317 := by omega
  have hk0 : KeptF (fun _ => False) w (w.alloc (.cells #[.int .i64 4, .int .i64 W, .int .i64 x.t, .int .i64 x.f, .int .i64 x.s, .int .i64 x.l] 49)) := (KeptF.refl _ w).alloc _
  have hle := refLeast_any _ B lv l (h.list.keep hk0 (fun _ _ e => e)) (by omega)
  go_enter Try.func18, Try.ntmps18
  go_wp2_with fail
  refine hle.mono ?_
  rintro e w1 ⟨kk, rfl, hL, hb1⟩
  have hs1 : w.heap.size < w1.heap.size := by have := hb1.size; simp at this; omega
  have hk1 : KeptF (fun _ => False) w w1 := hk0.trans (kept_of_below hb1)
  have hop1 : Blk w1 w.heap.size #[.int .i64 4, .int .i64 W, .int .i64 x.t, .int .i64 x.f, .int .i64 x.s, .int .i64 x.l] 49 := by
    have hb : Blk (w.alloc (.cells #[.int .i64 4, .int .i64 W, .int .i64 x.t, .int .i64 x.f, .int .i64 x.s, .int .i64 x.l] 49)) w.heap.size #[.int .i64 4, .int .i64 W, .int .i64 x.t, .int .i64 x.f, .int .i64 x.s, .int .i64 x.l] 49 := heap_alloc_new w _
    exact hb.keep (kept_of_below hb1) (fun e => e)
  have o0 := hop1.cell 0
  simp only [List.getElem?_toArray, List.getElem?_cons_zero] at o0
  have hI1 := h.list.keep hk1 (fun _ _ e => e)
  clear hle hb1 hk0 hl3
  rcases least_cases hL with ⟨rfl, hnil⟩ | ⟨j, y, rfl, hy, hm1, hm2⟩
  · have HL0 : Hid (L.length = 0) := by have := Hl3.out; rw [hnil] at this; exact this.symm
    have Hnil : Hid (l = []) := hnil
    obtain ⟨ao, cap, hlv⟩ : ∃ ao cap, lv = .slice ao l.length cap := by
      rcases h.list.form with ⟨h1, h2⟩ | ⟨g, cap, h1, _⟩
      · rw [h2]; exact ⟨none, 0, h1⟩
      · exact ⟨_, _, h1⟩
    subst hlv
    clear hL hI1 hnil
    go_wp2_with fail
    refine (len_any _ B qb mb dv n ds rest Tq width L.length pushed (h.core.keep (G := fun _ => False) (hk1.alloc _) (fun _ _ e => e))).mono ?_
    rintro e w2 ⟨rfl, rfl⟩
    go_wp2
    go_ret2
    exact ⟨dv, ds, n, pushed, _, l, L, by simp [Hl3.out], h.idle (hk1.alloc _), rfl, rfl⟩
  · obtain ⟨x0, r0, e0, es0, c, hds, hes, hLj, hit, hLc⟩ := h.front hy hm1 hm2
    obtain ⟨g, cap, hlv, hcapl⟩ : ∃ g cap, lv = .slice (some ⟨g, 0, none⟩) l.length cap ∧ l.length ≤ cap := by
      rcases hI1.form with ⟨_, h2⟩ | h2
      · rw [h2] at hy; simp at hy
      · exact h2
    subst hlv
    obtain ⟨d0, d1, d2, d3⟩ := hI1.cells hy
    have hgl : g < w1.heap.size := block_lt_of_cell d0
    have hj : j < l.length := get_lt hy
    have HLc : Hid (L.length = c + 1) := hLc
    have HLj : Hid (L[j]? = some e0) := hLj
    clear hL hy hm1 hm2 hLc hLj hI1
    subst hit
    go_wp2_with fail
    refine (len_any _ B qb mb dv n ds rest Tq width L.length pushed (h.core.keep (G := fun _ => False) (hk1.alloc _) (fun _ _ e => e))).mono ?_
    rintro e w2 ⟨rfl, rfl⟩
    go_wp2
    go_ret2
    exact ⟨dv, ds, n, pushed, _, l, L, by simp [Hl3.out], h.idle (hk1.alloc _), rfl, rfl⟩

set_option maxRecDepth 100000 in
set_option maxHeartbeats 4000000 in
theorem played_least (w : World) (B qb mb : Nat) (dv : Value) (n : Nat) (ds : List Day) (rest : Array Value) (Tq : TypeId) (width : Int) (pushed : Nat) (lv : Value) (l : List It) (L : List Ent) (W : Int) (x : It)
    (h : Pair w B qb mb dv n ds rest Tq width pushed lv l L) (_hBw : B ≤ w.heap.size) (hp : pushed ≤ 2932031007317) :
    Calls Try.prog 18 #[.pointer (some ⟨qb, 0, none⟩), lv, .agg #[.int .i64 3, .int .i64 W, .int .i64 x.t, .int .i64 x.f, .int .i64 x.s, .int .i64 x.l]] w
      (StepPost w B qb mb dv ds rest Tq width lv (fun p' l' => p' = pushed ∧ l' = l)) := by
  obtain ⟨hl1, hl2, hl3⟩ := h.lens
  have hll := h.lenle
  have Hl3 : Hid (l.length = L.length) := hl3
  have hlN : l.length ≤ 2932031007317 := by omega
  have hk0 : KeptF (fun _ => False) w (w.alloc (.cells #[.int .i64 3, .int .i64 W, .int .i64 x.t, .int .i64 x.f, .int .i64 x.s, .int .i64 x.l] 49)) := (KeptF.refl _ w).alloc _
  have hle := refLeast_any _ B lv l (h.list.keep hk0 (fun _ _ e => e)) (by omega)
  go_enter Try.func18, Try.ntmps18
  go_wp2_with fail
  refine hle.mono ?_
  rintro e w1 ⟨kk, rfl, hL, hb1⟩
  have hs1 : w.heap.size < w1.heap.size := by have := hb1.size; simp at this; omega
  have hk1 : KeptF (fun _ => False) w w1 := hk0.trans (kept_of_below hb1)
  have hop1 : Blk w1 w.heap.size #[.int .i64 3, .int .i64 W, .int .i64 x.t, .int .i64 x.f, .int .i64 x.s, .int .i64 x.l] 49 := by
    have hb : Blk (w.alloc (.cells #[.int .i64 3, .int .i64 W, .int .i64 x.t, .int .i64 x.f, .int .i64 x.s, .int .i64 x.l] 49)) w.heap.size #[.int .i64 3, .int .i64 W, .int .i64 x.t, .int .i64 x.f, .int .i64 x.s, .int .i64 x.l] 49 := heap_alloc_new w _
    exact hb.keep (kept_of_below hb1) (fun e => e)
  have o0 := hop1.cell 0
  simp only [List.getElem?_toArray, List.getElem?_cons_zero] at o0
  have hI1 := h.list.keep hk1 (fun _ _ e => e)
  clear hle hb1 hk0 hl3
  rcases least_cases hL with ⟨rfl, hnil⟩ | ⟨j, y, rfl, hy, hm1, hm2⟩
  · have HL0 : Hid (L.length = 0) := by have := Hl3.out; rw [hnil] at this; exact this.symm
    have Hnil : Hid (l = []) := hnil
    obtain ⟨ao, cap, hlv⟩ : ∃ ao cap, lv = .slice ao l.length cap := by
      rcases h.list.form with ⟨h1, h2⟩ | ⟨g, cap, h1, _⟩
      · rw [h2]; exact ⟨none, 0, h1⟩
      · exact ⟨_, _, h1⟩
    subst hlv
    clear hL hI1 hnil
    have hq0 : QCore w1 B qb mb dv n ds rest Tq width ((0 : Nat) : Int) pushed := by
      have := h.core.keep hk1 (fun _ _ e => e)
      rw [HL0.out] at this
      exact this
    go_wp2_with fail
    refine (least_none _ B qb mb dv n ds rest Tq width pushed (hq0.keep (G := fun _ => False) ((KeptF.refl _ w1).alloc _) (fun _ _ e => e))).mono ?_
    rintro e w2 ⟨rfl, hb2⟩
    have hk2 : KeptF (fun _ => False) w w2 := (hk1.alloc _).trans (kept_of_below hb2)
    have hwant := (Blk.keep (heap_alloc_new w1 _) (kept_of_below hb2) (fun e => e) : Blk w2 w1.heap.size #[.int .i64 0, .int .i64 0, .int .i64 0, .int .i64 0] 47)
    have a0 := hwant.cell 0
    have a1 := hwant.cell 1
    have a2 := hwant.cell 2
    have a3 := hwant.cell 3
    simp only [List.getElem?_toArray, List.getElem?_cons_zero, List.getElem?_cons_succ] at a0 a1 a2 a3
    have hs2 : w1.heap.size < w2.heap.size := by have := hb2.size; simp at this; omega
    clear hb2 o0
    go_wp2_with fail
    refine (same_any ⟨0, 0, 0, 0⟩ _).mono ?_
    rintro e w3 ⟨rfl, hb3⟩
    have hk3 : KeptF (fun _ => False) w w3 := (hk2.alloc _).trans (kept_of_below hb3)
    go_wp2
    go_ret2
    exact ⟨dv, ds, n, pushed, _, l, L, rfl, h.idle hk3, rfl, rfl⟩
  · obtain ⟨x0, r0, e0, es0, c, hds, hes, hLj, hit, hLc⟩ := h.front hy hm1 hm2
    obtain ⟨g, cap, hlv, hcapl⟩ : ∃ g cap, lv = .slice (some ⟨g, 0, none⟩) l.length cap ∧ l.length ≤ cap := by
      rcases hI1.form with ⟨_, h2⟩ | h2
      · rw [h2] at hy; simp at hy
      · exact h2
    subst hlv
    obtain ⟨d0, d1, d2, d3⟩ := hI1.cells hy
    have hgl : g < w1.heap.size := block_lt_of_cell d0
    have hj : j < l.length := get_lt hy
    have HLc : Hid (L.length = c + 1) := hLc
    have HLj : Hid (L[j]? = some e0) := hLj
    clear hL hy hm1 hm2 hLc hLj hI1
    subst hit
    subst hds
    have hq0 : QCore w1 B qb mb dv n (x0 :: r0) rest Tq width ((c + 1 : Nat) : Int) pushed := by
      have := h.core.keep hk1 (fun _ _ e => e)
      rw [HLc.out] at this
      exact this
    go_wp2_with fail
    refine (least_some _ B qb mb dv n r0 x0 rest Tq width (c + 1) pushed e0 es0 (hq0.keep (G := fun _ => False) ((KeptF.refl _ w1).alloc _) (fun _ _ e => e)) (by omega) hes).mono ?_
    rintro e w2 ⟨rfl, hb2⟩
    have hk2 : KeptF (fun _ => False) w w2 := (hk1.alloc _).trans (kept_of_below hb2)
    have hwant := (Blk.keep (heap_alloc_new w1 _) (kept_of_below hb2) (fun e => e) : Blk w2 w1.heap.size #[.int .i64 e0.it.t, .int .i64 e0.it.f, .int .i64 e0.it.s, .int .i64 e0.it.l] 47)
    have a0 := hwant.cell 0
    have a1 := hwant.cell 1
    have a2 := hwant.cell 2
    have a3 := hwant.cell 3
    simp only [List.getElem?_toArray, List.getElem?_cons_zero, List.getElem?_cons_succ] at a0 a1 a2 a3
    have hs2 : w1.heap.size < w2.heap.size := by have := hb2.size; simp at this; omega
    have hj0 : decide ((0 : Int) ≤ (j : Int)) = true := decide_eq_true (by omega)
    clear hb2 o0 d0 d1 d2 d3
    go_wp2_with fail
    refine (same_any e0.it _).mono ?_
    rintro e w3 ⟨rfl, hb3⟩
    have hk3 : KeptF (fun _ => False) w w3 := (hk2.alloc _).trans (kept_of_below hb3)
    go_wp2
    go_ret2
    exact ⟨dv, _, n, pushed, _, l, L, rfl, h.idle hk3, rfl, rfl⟩

end Go.Proofs.Ytbpaigpjffdcbaa
