/-
  The walks of heap.pop: at entries, at days.
-/
import Derived.Test.YtbpaigpjffdcbaaPush
import Derived.Laws.IdiomCopy
namespace Go.Proofs.Ytbpaigpjffdcbaa
open Go.RowKit Go.Sort

def noEnt : Ent := ⟨⟨0, 0, 0, 0⟩, 0⟩

theorem zero_ent (w : World) : (zeroValue 160).run Try.prog w = .ok (.agg #[.int .i64 0, .int .i64 0, .int .i64 0, .int .i64 0, .int .i64 0]) w := by kernel_rfl
theorem zero_dayp (w : World) : (zeroValue 156).run Try.prog w = .ok (.pointer none) w := by kernel_rfl

theorem run_clear_ent (w : World) (g m c ty : Nat) (hc : ∀ j, j < 5 → (w.cell? ⟨g, m * 5 + j, none⟩).isSome = true) (hf : ∀ j, j < 5 → w.frozen? ⟨g, m * 5 + j, none⟩ = false) :
    (Builtin.clear_ #[153] ty #[.slice (some ⟨g, m * 5, none⟩) 1 c]).run Try.prog w = .ok (.tuple #[]) (setEnt w g m noEnt) := by
  have hst := run_storeCells_cells (P := Try.prog) g (m * 5) [.int .i64 0, .int .i64 0, .int .i64 0, .int .i64 0, .int .i64 0] 0 w (by simpa using hc) (by simpa using hf) (by
    intro v hv
    simp only [List.mem_cons, List.not_mem_nil, or_false, or_self] at hv
    rw [hv]; rfl)
  simp only [Nat.add_zero] at hst
  have hzc : (Builtin.zeroCells (Value.agg #[.int .i64 0, .int .i64 0, .int .i64 0, .int .i64 0, .int .i64 0]).cells 1).toList = [.int .i64 0, .int .i64 0, .int .i64 0, .int .i64 0, .int .i64 0] := by kernel_rfl
  simp [Builtin.clear_, run_underlying Try.underlying153, hzc, hst]
  rfl

theorem EArr.cut {w : World} {b : Nat} {T : TypeId} {cap : Nat} {d : List Ent} (h : EArr w b T cap d) (n : Nat) : EArr w b T cap (d.take n) := by
  obtain ⟨c, h1, h2, h3⟩ := h.ex
  refine ⟨⟨c, h1, h2, fun j e he => h3 j e ?_⟩, by have := h.fits; simp; omega⟩
  have := get_lt he
  rw [List.length_take] at this
  rw [List.getElem?_take_of_lt (by omega)] at he
  exact he

theorem EArr.some {w : World} {b : Nat} {T : TypeId} {cap : Nat} {d : List Ent} (h : EArr w b T cap d) (o : Nat) (ho : o < cap * 5) : (w.cell? ⟨b, o, none⟩).isSome = true := by
  obtain ⟨c, h1, h2, h3⟩ := h.ex
  rw [h1.cell, Array.getElem?_eq_getElem (by omega)]
  rfl

theorem EArr.alloc {w : World} {b : Nat} {T : TypeId} {cap : Nat} {d : List Ent} (h : EArr w b T cap d) (o : Obj) : EArr (w.alloc o) b T cap d :=
  h.keep (F := fun _ => False) ((KeptF.refl _ _).alloc o) (fun h => h)

/-- clear(s[last:]) behind s[0] = s[last], with the two blocks that pop has laid -/
theorem popE_clear {w : World} {g cap m kb Tk : Nat} {c0 : Array Value} {d : List Ent} (z : Ent) (A X : Array Value) (hA : EArr w g 160 cap d) (hd : d.length = m + 1) (hk : Blk w kb c0 Tk) (hne : g ≠ kb) (c : Nat) :
    ∃ W2, (Builtin.clear_ #[153] 0 #[.slice (some ⟨g, m * 5, none⟩) 1 c]).run Try.prog
        (((((((w.setCell ⟨g, 0, none⟩ (.int .i64 z.it.t)).setCell ⟨g, 1, none⟩ (.int .i64 z.it.f)).setCell ⟨g, 2, none⟩ (.int .i64 z.it.s)).setCell ⟨g, 3, none⟩ (.int .i64 z.it.l)).setCell ⟨g, 4, none⟩ (.int .i64 z.r)).alloc (.cells A 160)).alloc (.cells X 160)) = .ok (.tuple #[]) W2 ∧
      EArr W2 g 160 cap (popL d z) ∧ Blk W2 kb c0 Tk ∧ KeptF (fun k => k = g) w W2 ∧ W2.heap.size = w.heap.size + 2 ∧ Blk W2 w.heap.size A 160 ∧ Blk W2 (w.heap.size + 1) X 160 := by
  have hfit := hA.fits
  have h1 : EArr (((setEnt w g 0 z).alloc (.cells A 160)).alloc (.cells X 160)) g 160 cap (d.set 0 z) := ((hA.set z (by omega)).alloc _).alloc _
  have hgl := hA.lt
  have hs1 : (setEnt w g 0 z).heap.size = w.heap.size := by simp [setEnt, World.setCell]
  refine ⟨_, run_clear_ent _ g m c 0 (fun j hj => h1.some _ (by omega)) (fun j _ => h1.frozen _), ?_, ?_, ?_, ?_, ?_, ?_⟩
  · have h2 := (h1.set noEnt (j := m) (by omega)).cut m
    have e : (List.set (List.set d 0 z) m noEnt).take m = popL d z := by
      unfold popL
      rw [hd, Nat.add_sub_cancel, List.take_set_of_le (Nat.le_refl _)]
    rw [e] at h2
    exact h2
  · have hK : KeptF (fun k => k = g) w (setEnt (((setEnt w g 0 z).alloc (.cells A 160)).alloc (.cells X 160)) g m noEnt) :=
      ((((KeptF.refl (fun k => k = g) w).setEnt (.inl rfl) 0 z).alloc _).alloc _).setEnt (.inl rfl) m noEnt
    exact hk.keep hK (fun e => hne e.symm)
  · exact ((((KeptF.refl (fun k => k = g) w).setEnt (.inl rfl) 0 z).alloc _).alloc _).setEnt (.inl rfl) m noEnt
  · simp [setEnt, World.setCell]
  · have hb : Blk ((setEnt w g 0 z).alloc (.cells A 160)) w.heap.size A 160 := by
      have := heap_alloc_new (setEnt w g 0 z) (.cells A 160)
      rw [hs1] at this
      exact this
    exact (hb.alloc _).keep ((KeptF.refl (fun k => k = g) _).setEnt (.inl rfl) m noEnt) (by omega)
  · have hb : Blk (((setEnt w g 0 z).alloc (.cells A 160)).alloc (.cells X 160)) (w.heap.size + 1) X 160 := by
      have := heap_alloc_new ((setEnt w g 0 z).alloc (.cells A 160)) (.cells X 160)
      rw [World.size_alloc, hs1] at this
      exact this
    exact hb.keep ((KeptF.refl (fun k => k = g) _).setEnt (.inl rfl) m noEnt) (by omega)

set_option maxRecDepth 100000 in
set_option maxHeartbeats 4000000 in
theorem popE_any (kb o Tk g cap m : Nat) (c0 : Array Value) (d : List Ent) (x z : Ent) (w : World)
    (hk : Blk w kb c0 Tk) (ho : c0[o]? = some (.slice (some ⟨g, 0, none⟩) (m + 1) cap)) (hA : EArr w g 160 cap d) (hd : d.length = m + 1) (hne : g ≠ kb) (hn : m + 1 ≤ 2932031007317) (hH : HeapL Ent.ltB d)
    (hx : d[0]? = some x) (hz : d[m]? = some z) :
    Calls Try.prog 70 #[.pointer (some ⟨kb, o, none⟩)] w fun e w' => e = .returned (.agg #[.int .i64 x.it.t, .int .i64 x.it.f, .int .i64 x.it.s, .int .i64 x.it.l, .int .i64 x.r]) ∧
      ∃ d', Blk w' kb (c0.setIfInBounds o (.slice (some ⟨g, 0, none⟩) m cap)) Tk ∧ EArr w' g 160 cap d' ∧ (x :: d').Perm d ∧ HeapL Ent.ltB d' ∧ KeptF (fun k => k = kb ∨ k = g) w w' := by
  have hc : w.cell? ⟨kb, o, none⟩ = some (.slice (some ⟨g, 0, none⟩) (m + 1) cap) := (hk.cell o).trans ho
  have hkl := hk.lt
  have hgl := hA.lt
  have hmc : m + 1 ≤ cap := by have := hA.fits; omega
  obtain ⟨c0', c1, c2, c3, c4⟩ := hA.cells hx
  obtain ⟨d0, d1, d2, d3, d4⟩ := hA.cells hz
  have hfg := hA.frozen
  simp only [Nat.zero_mul, Nat.zero_add] at c0' c1 c2 c3 c4
  obtain ⟨W2, hrun, hA2, hk2, hK2, hs2, hb0, hb1⟩ := popE_clear z #[.int .i64 0, .int .i64 0, .int .i64 0, .int .i64 0, .int .i64 0] #[.int .i64 x.it.t, .int .i64 x.it.f, .int .i64 x.it.s, .int .i64 x.it.l, .int .i64 x.r] hA hd hk hne (cap - m)
  have hc2 : W2.cell? ⟨kb, o, none⟩ = some (.slice (some ⟨g, 0, none⟩) (m + 1) cap) := (hk2.cell o).trans ho
  have hfz2 : W2.frozen? ⟨kb, o, none⟩ = false := hk2.frozen o
  have HP : Hid ((x :: popL d z).Perm d) := popL_perm hx (by rw [hd]; exact hz)
  have HS : Hid (SinkInv Ent.ltB (popL d z) 0) := SinkInv.pop hH z
  have HL : Hid ((popL d z).length = m) := (popL_length d z).trans (by rw [hd]; rfl)
  have Hs2 : Hid (W2.heap.size = w.heap.size + 2) := hs2
  clear hx hz hd hs2
  go_enter Try.func70, Try.ntmps70
  go_wp2_with fail
  clear hrun c0' c1 c2 c3 c4 d0 d1 d2 d3 d4 hfg hc
  have hb2 := hk2.set o (.slice (some ⟨g, 0, none⟩) m cap)
  have hne0 : w.heap.size ≠ kb := by omega
  have hne1 : w.heap.size + 1 ≠ kb := by omega
  have hKs := (KeptF.refl (fun k => k = kb) W2).setCell (p := ⟨kb, o, none⟩) (.inl rfl) (.slice (some ⟨g, 0, none⟩) m cap)
  have hA3 := hA2.keep hKs hne
  have hb03 := hb0.keep hKs hne0
  have hb13 := hb1.keep hKs hne1
  have hK3 : KeptF (fun k => k = kb ∨ k = g) w (W2.setCell ⟨kb, o, none⟩ (.slice (some ⟨g, 0, none⟩) m cap)) := (hK2.weaken (fun _ _ h => .inr h)).setCell (p := ⟨kb, o, none⟩) (.inl (.inl rfl)) _
  have Hs3 : Hid ((W2.setCell ⟨kb, o, none⟩ (.slice (some ⟨g, 0, none⟩) m cap)).heap.size = w.heap.size + 2) := by
    have := Hs2.out
    show _ = _
    simp only [World.setCell, Array.size_modify]
    exact this
  clear hKs hA2 hb0 hb1 hK2 hk2 hc2 hfz2 Hs2
  generalize W2.setCell ⟨kb, o, none⟩ (.slice (some ⟨g, 0, none⟩) m cap) = W3 at *
  refine (sinkE_any g m cap 160 (popL d z) _ hA3 HL.out (by omega) HS.out).mono ?_
  rintro e w4 ⟨rfl, d', hA4, hP4, hH4, hK4⟩
  have hg0 : w.heap.size ≠ g := by omega
  have hg1 : w.heap.size + 1 ≠ g := by omega
  have b0 := hb03.keep hK4 hg0
  have b1 := hb13.keep hK4 hg1
  have e0 := fun o => b1.cell o
  have c0' := e0 0
  have c1 := e0 1
  have c2 := e0 2
  have c3 := e0 3
  have c4 := e0 4
  simp only [List.getElem?_toArray, List.getElem?_cons_zero, List.getElem?_cons_succ] at c0' c1 c2 c3 c4
  have f0 := fun o => b0.cell o
  have r0 := f0 0
  have r1 := f0 1
  have r2 := f0 2
  have r3 := f0 3
  have r4 := f0 4
  simp only [List.getElem?_toArray, List.getElem?_cons_zero, List.getElem?_cons_succ] at r0 r1 r2 r3 r4
  have hz := b0.frozen
  have hfin : Blk w4 kb (c0.setIfInBounds o (.slice (some ⟨g, 0, none⟩) m cap)) Tk := hb2.keep hK4 (fun e => hne e.symm)
  have hKfin : KeptF (fun k => k = kb ∨ k = g) w w4 := hK3.trans' hK4 (fun i _ h => .inr h)
  clear e0 f0
  have hK5 := fun u0 u1 u2 u3 u4 => (((((KeptF.refl (fun k => k = w.heap.size) w4).setCell (p := ⟨w.heap.size, 0, none⟩) (.inl rfl) u0).setCell (p := ⟨w.heap.size, 1, none⟩) (.inl rfl) u1).setCell (p := ⟨w.heap.size, 2, none⟩) (.inl rfl) u2).setCell (p := ⟨w.heap.size, 3, none⟩) (.inl rfl) u3).setCell (p := ⟨w.heap.size, 4, none⟩) (.inl rfl) u4
  go_wp2
  refine bodyPost_ret (v := .agg #[.int .i64 x.it.t, .int .i64 x.it.f, .int .i64 x.it.s, .int .i64 x.it.l, .int .i64 x.r]) (by simp [results, Try.results70, go_sem, r0, r1, r2, r3, r4]) rfl ⟨rfl, d', ?_, ?_, (hP4.cons x).trans HP.out, hH4, ?_⟩
  · exact hfin.keep (hK5 _ _ _ _ _) (fun e => hne0 e.symm)
  · exact hA4.keep (hK5 _ _ _ _ _) (fun e => hg0 e.symm)
  · exact hKfin.trans' (hK5 _ _ _ _ _) (fun i hi h => by omega)

theorem run_clear_dayp (w : World) (g m c ty : Nat) (hc : (w.cell? ⟨g, m, none⟩).isSome = true) (hf : w.frozen? ⟨g, m, none⟩ = false) :
    (Builtin.clear_ #[113] ty #[.slice (some ⟨g, m, none⟩) 1 c]).run Try.prog w = .ok (.tuple #[]) (w.setCell ⟨g, m, none⟩ (.pointer none)) := by
  have hst := run_storeCells_cells (P := Try.prog) g m [.pointer none] 0 w (by intro j hj; have h0 : j = 0 := (by simpa using hj); subst h0; simpa using hc) (by intro j hj; have h0 : j = 0 := (by simpa using hj); subst h0; simpa using hf) (by
    intro v hv
    simp only [List.mem_cons, List.not_mem_nil, or_false] at hv
    rw [hv]; rfl)
  simp only [Nat.add_zero] at hst
  have hzc : (Builtin.zeroCells (Value.pointer none).cells 1).toList = [.pointer none] := by kernel_rfl
  simp [Builtin.clear_, run_underlying Try.underlying113, hzc, hst]
  rfl

theorem DArr.cut {w : World} {b : Nat} {T : TypeId} {cap : Nat} {d : List Dy} (h : DArr w b T cap d) (n : Nat) : DArr w b T cap (d.take n) := by
  obtain ⟨c, h1, h2, h3⟩ := h.ex
  refine ⟨⟨c, h1, h2, fun j e he => h3 j e ?_⟩, by have := h.fits; simp; omega⟩
  have := get_lt he
  rw [List.length_take] at this
  rw [List.getElem?_take_of_lt (by omega)] at he
  exact he
theorem DArr.some {w : World} {b : Nat} {T : TypeId} {cap : Nat} {d : List Dy} (h : DArr w b T cap d) (o : Nat) (ho : o < cap) : (w.cell? ⟨b, o, none⟩).isSome = true := by
  obtain ⟨c, h1, h2, h3⟩ := h.ex
  rw [h1.cell, Array.getElem?_eq_getElem (by omega)]
  rfl

theorem DArr.setBehind {w : World} {b : Nat} {T : TypeId} {cap : Nat} {d : List Dy} (h : DArr w b T cap d) (m : Nat) (hm : d.length ≤ m) (u : Value) : DArr (w.setCell ⟨b, m, none⟩ u) b T cap d := by
  obtain ⟨c, h1, h2, h3⟩ := h.ex
  refine ⟨⟨_, h1.set m u, by simpa using h2, fun j e he => ?_⟩, h.fits⟩
  have := get_lt he
  rw [Array.getElem?_setIfInBounds_ne (by omega)]
  exact h3 j e he

theorem popD_clear {w : World} {g cap m kb Tk : Nat} {c0 : Array Value} {d : List Dy} (z : Dy) (hA : DArr w g 156 cap d) (hd : d.length = m + 1) (hk : Blk w kb c0 Tk) (hne : g ≠ kb) (c : Nat) :
    ∃ W2, (Builtin.clear_ #[113] 0 #[.slice (some ⟨g, m, none⟩) 1 c]).run Try.prog
        (w.setCell ⟨g, 0, none⟩ (.pointer (some ⟨z.kb, 0, none⟩))) = .ok (.tuple #[]) W2 ∧
      DArr W2 g 156 cap (popL d z) ∧ Blk W2 kb c0 Tk ∧ KeptF (fun k => k = g) w W2 := by
  have hfit := hA.fits
  have h1 := hA.set z (j := 0) (by omega)
  have hK : KeptF (fun k => k = g) w ((w.setCell ⟨g, 0, none⟩ (.pointer (some ⟨z.kb, 0, none⟩))).setCell ⟨g, m, none⟩ (.pointer none)) := ((KeptF.refl (fun k => k = g) w).setCell (p := ⟨g, 0, none⟩) (.inl rfl) _).setCell (p := ⟨g, m, none⟩) (.inl rfl) _
  refine ⟨_, run_clear_dayp _ g m c 0 (h1.some _ (by omega)) (h1.frozen _), ?_, hk.keep hK (fun e => hne e.symm), hK⟩
  have h2 := (h1.cut m).setBehind m (by simp; omega) (.pointer none)
  have e : (List.set d 0 z).take m = popL d z := by
    unfold popL
    rw [hd, Nat.add_sub_cancel]
  rw [e] at h2
  exact h2

set_option maxRecDepth 100000 in
set_option maxHeartbeats 4000000 in
theorem popD_any (kb o Tk g cap m : Nat) (c0 : Array Value) (d : List Dy) (x z : Dy) (w : World)
    (hk : Blk w kb c0 Tk) (ho : c0[o]? = some (.slice (some ⟨g, 0, none⟩) (m + 1) cap)) (hA : DArr w g 156 cap d) (hd : d.length = m + 1) (hne : g ≠ kb) (hn : m + 1 ≤ 2932031007317) (hH : HeapL Dy.ltB d)
    (hx : d[0]? = some x) (hz : d[m]? = some z) (hD : Dated w d) (hB : ∀ e ∈ d, e.kb ≠ kb ∧ e.kb ≠ g) :
    Calls Try.prog 71 #[.pointer (some ⟨kb, o, none⟩)] w fun e w' => e = .returned (.pointer (some ⟨x.kb, 0, none⟩)) ∧
      ∃ d', Blk w' kb (c0.setIfInBounds o (.slice (some ⟨g, 0, none⟩) m cap)) Tk ∧ DArr w' g 156 cap d' ∧ (x :: d').Perm d ∧ HeapL Dy.ltB d' ∧ KeptF (fun k => k = kb ∨ k = g) w w' := by
  have hc : w.cell? ⟨kb, o, none⟩ = some (.slice (some ⟨g, 0, none⟩) (m + 1) cap) := (hk.cell o).trans ho
  have hkl := hk.lt
  have hgl := hA.lt
  have hmc : m + 1 ≤ cap := by have := hA.fits; omega
  have c0' := hA.cells hx
  have d0 := hA.cells hz
  have hfg := hA.frozen
  obtain ⟨W2, hrun, hA2, hk2, hK2⟩ := popD_clear z hA hd hk hne (cap - m)
  have hc2 : W2.cell? ⟨kb, o, none⟩ = some (.slice (some ⟨g, 0, none⟩) (m + 1) cap) := (hk2.cell o).trans ho
  have hfz2 : W2.frozen? ⟨kb, o, none⟩ = false := hk2.frozen o
  have HP : Hid ((x :: popL d z).Perm d) := popL_perm hx (by rw [hd]; exact hz)
  have HS : Hid (SinkInv Dy.ltB (popL d z) 0) := SinkInv.pop hH z
  have HL : Hid ((popL d z).length = m) := (popL_length d z).trans (by rw [hd]; rfl)
  have hsub : ∀ e ∈ popL d z, e ∈ d := fun e he => HP.out.mem_iff.1 (List.mem_cons_of_mem _ he)
  have hD2 : Dated W2 (popL d z) := by
    intro e he
    rw [hK2.cell (block_lt_of_cell (hD e (hsub e he))) (hB e (hsub e he)).2]
    exact hD e (hsub e he)
  clear hx hz hd
  go_enter Try.func71, Try.ntmps71
  go_wp2_with fail
  clear hrun c0' d0 hfg hc
  have hb2 := hk2.set o (.slice (some ⟨g, 0, none⟩) m cap)
  have hKs := (KeptF.refl (fun k => k = kb) W2).setCell (p := ⟨kb, o, none⟩) (.inl rfl) (.slice (some ⟨g, 0, none⟩) m cap)
  have hA3 := hA2.keep hKs hne
  have hD3 := hD2.keepF hKs (fun e he => (hB e (hsub e he)).1)
  have hK3 : KeptF (fun k => k = kb ∨ k = g) w (W2.setCell ⟨kb, o, none⟩ (.slice (some ⟨g, 0, none⟩) m cap)) := (hK2.weaken (fun _ _ h => .inr h)).setCell (p := ⟨kb, o, none⟩) (.inl (.inl rfl)) _
  clear hKs hA2 hK2 hk2 hc2 hfz2 hD2
  generalize W2.setCell ⟨kb, o, none⟩ (.slice (some ⟨g, 0, none⟩) m cap) = W3 at *
  refine (sinkD_any g m cap 156 (popL d z) _ hA3 hD3 (fun e he => (hB e (hsub e he)).2) HL.out (by omega) HS.out).mono ?_
  rintro e w4 ⟨rfl, d', hA4, hP4, hH4, hK4⟩
  have hfin : Blk w4 kb (c0.setIfInBounds o (.slice (some ⟨g, 0, none⟩) m cap)) Tk := hb2.keep hK4 (fun e => hne e.symm)
  have hKfin : KeptF (fun k => k = kb ∨ k = g) w w4 := hK3.trans' hK4 (fun i _ h => .inr h)
  go_wp2
  go_ret
  exact ⟨rfl, d', hfin, hA4, (hP4.cons x).trans HP.out, hH4, hKfin⟩

end Go.Proofs.Ytbpaigpjffdcbaa
