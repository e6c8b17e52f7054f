/-
  The walks of heap.push: at entries, at days.
  The walks of heap.pop: at entries, at days.
  A queue in memory: its block, its map of days, its heap of days, each day's heap of entries; all apart.
  The walk of Queue.dayOf.
  The walk of Queue.Push.
  The walks of NewQueue, Len, Least.
-/
import Derived.Test.YtkobkilfbbalaaaK01
import Derived.Deep.RegionLaw
import Derived.Laws.IdiomCopy
import Derived.Maps.OwnSet
namespace Go.Proofs.Ytkobkilfbbalaaa
open Go.RowKit Go.Sort

theorem info_ent : (Try.prog.info? 156).map (fun i => (i.zero, i.size, i.bytes)) = some (some (.agg #[.int .i64 0, .int .i64 0, .int .i64 0, .int .i64 0, .int .i64 0]), 5, 40) := by kernel_rfl
theorem info_dayp : (Try.prog.info? 152).map (fun i => (i.zero, i.size, i.bytes)) = some (some (.pointer none), 1, 8) := by kernel_rfl

theorem ESl.form {w : World} {B : Nat} {v : Value} {d : List Ent} (h : ESl w B v d) : ∃ ao cap, v = .slice ao d.length cap := by
  rcases h.cases with ⟨h1, h2⟩ | ⟨g, cap, h1, _⟩
  · subst h2; exact ⟨none, 0, h1⟩
  · exact ⟨_, _, h1⟩

theorem grownE {w W w' : World} {B kb o Tk : Nat} {c0 : Array Value} {v v' : Value} {d : List Ent} {x : Ent} (hk : Blk w kb c0 Tk) (hown' : w'.ownsRow B 156 5 v' (d.length + 1) (entsC d ++ entC x)) (hgr : W.grownBy w' v.ownBlock)
    (hfr : ∀ g, v'.ownBlock = some g → v.ownBlock = some g ∨ W.heap.size ≤ g) (hne : v.ownBlock ≠ some kb) (ho : c0[o]? = some v) (hW : KeptF (fun _ => False) w W) :
    ∃ g cap', v' = .slice (some ⟨g, 0, none⟩) (d.length + 1) cap' ∧ B ≤ g ∧ cap' ≤ maxLen ∧ g ≠ kb ∧ (v.ownBlock = some g ∨ w.heap.size ≤ g) ∧ EArr w' g 156 cap' (d ++ [x]) ∧ Blk w' kb c0 Tk ∧ KeptF (fun k => v.ownBlock = some k) w w' ∧ w'.cell? ⟨kb, o, none⟩ = some v ∧ w'.frozen? ⟨kb, o, none⟩ = false := by
  have e1 : entsC d ++ entC x = entsC (d ++ [x]) := by rw [entsC_append]; simp [entsC]
  have e2 : (d ++ [x]).length = d.length + 1 := by simp
  have hE : ESl w' B v' (d ++ [x]) := by unfold ESl; rw [e2, ← e1]; exact hown'
  have hK : KeptF (fun k => v.ownBlock = some k) w w' := (hW.weaken (fun _ _ h => h.elim)).trans (KeptF.of_grown hgr (fun k h _ => h))
  have hb := hk.keep hK hne
  rcases hE.cases with ⟨_, h2⟩ | ⟨g, cap, h1, h2, h3, h4⟩
  · simp at h2
  · have hg : v'.ownBlock = some g := by rw [h1]; rfl
    have hgo : v.ownBlock = some g ∨ w.heap.size ≤ g := by
      rcases hfr g hg with h | h
      · exact .inl h
      · exact .inr (Nat.le_trans hW.size h)
    refine ⟨g, cap, by rw [h1, e2], h2, h3, fun e => ?_, hgo, h4, hb, hK, (hb.cell o).trans ho, hb.frozen o⟩
    subst e
    rcases hgo with h | h
    · exact hne h
    · have := hk.lt; omega

set_option maxRecDepth 100000 in
set_option maxHeartbeats 4000000 in
theorem pushE_any (kb o B Tk : Nat) (c0 : Array Value) (v : Value) (d : List Ent) (x : Ent) (w : World)
    (hk : Blk w kb c0 Tk) (ho : c0[o]? = some v) (hE : ESl w B v d) (hB : B ≤ w.heap.size) (hne : v.ownBlock ≠ some kb) (hn : d.length + 1 ≤ 2932031007317) (hH : HeapL Ent.ltB d) :
    Calls Try.prog 61 #[.pointer (some ⟨kb, o, none⟩), .agg #[.int .i64 x.it.t, .int .i64 x.it.f, .int .i64 x.it.s, .int .i64 x.it.l, .int .i64 x.r]] w fun e w' => e = .returned (.tuple #[]) ∧
      ∃ v' d', Blk w' kb (c0.setIfInBounds o v') Tk ∧ ESl w' B v' d' ∧ d'.Perm (d ++ [x]) ∧ HeapL Ent.ltB d' ∧ KeptF (fun k => k = kb ∨ v.ownBlock = some k) w w' ∧ (∃ g, v'.ownBlock = some g ∧ (v.ownBlock = some g ∨ w.heap.size ≤ g)) := by
  obtain ⟨i0, hi, hz0, hz1, hz2⟩ := info_parts info_ent
  obtain ⟨ao, cap, rfl⟩ := hE.form
  have hc : w.cell? ⟨kb, o, none⟩ = some (.slice ao d.length cap) := (hk.cell o).trans ho
  have hfz : w.frozen? ⟨kb, o, none⟩ = false := hk.frozen o
  have hkl := hk.lt
  have hcells : ∀ o1 : Obj, ∀ j u, (entC x)[j]? = some u → (((w.alloc o1).alloc (.cells #[.int .i64 x.it.t, .int .i64 x.it.f, .int .i64 x.it.s, .int .i64 x.it.l, .int .i64 x.r] 156)).drew).cell? ((⟨w.heap.size + 1, 0, none⟩ : Addr).add j) = some u := by
    intro o1 j u hu
    have hb : Blk ((w.alloc o1).alloc (.cells #[.int .i64 x.it.t, .int .i64 x.it.f, .int .i64 x.it.s, .int .i64 x.it.l, .int .i64 x.r] 156)).drew (w.heap.size + 1) #[.int .i64 x.it.t, .int .i64 x.it.f, .int .i64 x.it.s, .int .i64 x.it.l, .int .i64 x.r] 156 := by
      have := heap_alloc_new (w.alloc o1) (.cells #[.int .i64 x.it.t, .int .i64 x.it.f, .int .i64 x.it.s, .int .i64 x.it.l, .int .i64 x.r] 156)
      rw [World.size_alloc] at this
      exact this
    have ha : ((⟨w.heap.size + 1, 0, none⟩ : Addr).add j) = ⟨w.heap.size + 1, j, none⟩ := by simp [Addr.add]; omega
    rw [ha, hb.cell, ← hu]
    simp [entC]
  have hone : ∀ k : Nat, ∀ u ∈ entC x, u.oneCell' = true := by
    intro _ u hu
    simp only [entC, List.mem_cons, List.not_mem_nil, or_false] at hu
    rcases hu with rfl | rfl | rfl | rfl | rfl <;> rfl
  go_enter Try.func61, Try.ntmps61
  go_wp2
  go_region_law ((
    refine step_append_own rfl (.tmp 7) (.tmp 9) 149 rfl B 156 i0 _ 5 40 Try.underlying149 hi hz0 hz1 hz2 rfl (by decide) (.slice ao d.length cap) d.length (entsC d) (by simp [Act.eval]) ?_ ⟨w.heap.size + 1, 0, none⟩ 1 1 (entC x) (by simp [Act.eval]) rfl ?_ ?_ ?_ ?_ ?_ ?_
    · exact ownsRow_keep hE (F := fun _ => False) (((KeptF.refl _ _).alloc _).alloc _).drew (fun _ _ h => h)
    · exact hcells _
    · exact hone 0
    · unfold maxLen; omega
    · omega
    · exact Nat.le_trans hB (KeptF.size (F := fun _ => False) (((KeptF.refl _ _).alloc _).alloc _).drew)
    intro v' w' hown' hgr hfr
    obtain ⟨g, cap', hv', hBg, hcm, hgk, hgo, hA, hkb', hK', hc', hf'⟩ := grownE hk hown' hgr hfr hne ho (KeptF.drew (KeptF.alloc (KeptF.alloc (KeptF.refl (fun _ => False) w) _) _))
    subst hv'))
  all_goals
    have hb2 := hkb'.set o (.slice (some ⟨g, 0, none⟩) (d.length + 1) cap')
    have hA2 : EArr (w'.setCell ⟨kb, o, none⟩ (.slice (some ⟨g, 0, none⟩) (d.length + 1) cap')) g 156 cap' (d ++ [x]) := hA.keep ((KeptF.refl (fun k => k = kb) _).setCell (p := ⟨kb, o, none⟩) (.inl rfl) _) hgk
    have hc2 : (w'.setCell ⟨kb, o, none⟩ (.slice (some ⟨g, 0, none⟩) (d.length + 1) cap')).cell? ⟨kb, o, none⟩ = some (.slice (some ⟨g, 0, none⟩) (d.length + 1) cap') := World.cell?_setCell_same _ _ _ hc'
    have hK2 : KeptF (fun k => k = kb ∨ (Value.slice ao d.length cap).ownBlock = some k) w (w'.setCell ⟨kb, o, none⟩ (.slice (some ⟨g, 0, none⟩) (d.length + 1) cap')) := (hK'.weaken (fun _ _ h => .inr h)).setCell (p := ⟨kb, o, none⟩) (.inl (.inl rfl)) _
    generalize w'.setCell ⟨kb, o, none⟩ (.slice (some ⟨g, 0, none⟩) (d.length + 1) cap') = w2 at *
    clear hc' hf' hown' hgr hfr hA hkb' hK' hc hfz hcells hone hE hk
    go_wp2
    refine still_tail' 8 (by kernel_rfl) (by kernel_rfl) ?_
    simp only [List.take_succ_cons, List.take_zero, List.drop_succ_cons, List.drop_zero]
    repeat still_step
    refine wpStill_nil ?_
    go_wp2_with fail
    refine (riseE_any g (d.length + 1) cap' 156 d.length (d ++ [x]) _ hA2.drew (by simp) (by omega) hn (RiseInv.push hH x)).mono ?_
    rintro e w3 ⟨rfl, d', hA3, hP, hH', hK3⟩
    go_wp2
    go_end0
    have hl : d'.length = d.length + 1 := by rw [hP.length_eq]; simp
    refine ⟨rfl, .slice (some ⟨g, 0, none⟩) (d.length + 1) cap', d', hb2.drew.keep hK3 (fun e => hgk e.symm), by rw [← hl]; exact ESl.mk hBg hcm hA3, hP, hH', hK2.drew.trans' hK3 (fun i hi e => ?_), g, rfl, hgo⟩
    subst e
    rcases hgo with h | h
    · exact .inr h
    · omega

theorem DSl.form {w : World} {B : Nat} {v : Value} {d : List Dy} (h : DSl w B v d) : ∃ ao cap, v = .slice ao d.length cap := by
  rcases h.cases with ⟨h1, h2⟩ | ⟨g, cap, h1, _⟩
  · subst h2; exact ⟨none, 0, h1⟩
  · exact ⟨_, _, h1⟩

theorem grownD {w W w' : World} {B kb o Tk : Nat} {c0 : Array Value} {v v' : Value} {d : List Dy} {x : Dy} (hk : Blk w kb c0 Tk) (hown' : w'.ownsRow B 152 1 v' (d.length + 1) (dayC d ++ dayC [x])) (hgr : W.grownBy w' v.ownBlock)
    (hfr : ∀ g, v'.ownBlock = some g → v.ownBlock = some g ∨ W.heap.size ≤ g) (hne : v.ownBlock ≠ some kb) (ho : c0[o]? = some v) (hW : KeptF (fun _ => False) w W) :
    ∃ g cap', v' = .slice (some ⟨g, 0, none⟩) (d.length + 1) cap' ∧ B ≤ g ∧ cap' ≤ maxLen ∧ g ≠ kb ∧ (v.ownBlock = some g ∨ w.heap.size ≤ g) ∧ DArr w' g 152 cap' (d ++ [x]) ∧ Blk w' kb c0 Tk ∧ KeptF (fun k => v.ownBlock = some k) w w' ∧ w'.cell? ⟨kb, o, none⟩ = some v ∧ w'.frozen? ⟨kb, o, none⟩ = false := by
  have e1 : dayC d ++ dayC [x] = dayC (d ++ [x]) := by simp [dayC]
  have e2 : (d ++ [x]).length = d.length + 1 := by simp
  have hE : DSl w' B v' (d ++ [x]) := by unfold DSl; rw [e2, ← e1]; exact hown'
  have hK : KeptF (fun k => v.ownBlock = some k) w w' := (hW.weaken (fun _ _ h => h.elim)).trans (KeptF.of_grown hgr (fun k h _ => h))
  have hb := hk.keep hK hne
  rcases hE.cases with ⟨_, h2⟩ | ⟨g, cap, h1, h2, h3, h4⟩
  · simp at h2
  · have hg : v'.ownBlock = some g := by rw [h1]; rfl
    have hgo : v.ownBlock = some g ∨ w.heap.size ≤ g := by
      rcases hfr g hg with h | h
      · exact .inl h
      · exact .inr (Nat.le_trans hW.size h)
    refine ⟨g, cap, by rw [h1, e2], h2, h3, fun e => ?_, hgo, h4, hb, hK, (hb.cell o).trans ho, hb.frozen o⟩
    subst e
    rcases hgo with h | h
    · exact hne h
    · have := hk.lt; omega

theorem Dated.keepF {F : Nat → Prop} {w w' : World} {d : List Dy} (h : Dated w d) (hK : KeptF F w w') (hF : ∀ e ∈ d, ¬ F e.kb) : Dated w' d := by
  intro e he
  rw [hK.cell (block_lt_of_cell (h e he)) (hF e he)]
  exact h e he

set_option maxRecDepth 100000 in
set_option maxHeartbeats 4000000 in
theorem pushD_any (kb o B Tk : Nat) (c0 : Array Value) (v : Value) (d : List Dy) (x : Dy) (w : World)
    (hk : Blk w kb c0 Tk) (ho : c0[o]? = some v) (hE : DSl w B v d) (hB : B ≤ w.heap.size) (hne : v.ownBlock ≠ some kb) (hn : d.length + 1 ≤ 2932031007317) (hH : HeapL Dy.ltB d)
    (hD : Dated w (d ++ [x])) (hx : ∀ e ∈ d ++ [x], e.kb ≠ kb ∧ v.ownBlock ≠ some e.kb) :
    Calls Try.prog 85 #[.pointer (some ⟨kb, o, none⟩), .pointer (some ⟨x.kb, 0, none⟩)] w fun e w' => e = .returned (.tuple #[]) ∧
      ∃ v' d', Blk w' kb (c0.setIfInBounds o v') Tk ∧ DSl w' B v' d' ∧ d'.Perm (d ++ [x]) ∧ HeapL Dy.ltB d' ∧ KeptF (fun k => k = kb ∨ v.ownBlock = some k) w w' ∧ (∃ g, v'.ownBlock = some g ∧ (v.ownBlock = some g ∨ w.heap.size ≤ g)) := by
  obtain ⟨i0, hi, hz0, hz1, hz2⟩ := info_parts info_dayp
  obtain ⟨ao, cap, rfl⟩ := hE.form
  have hc : w.cell? ⟨kb, o, none⟩ = some (.slice ao d.length cap) := (hk.cell o).trans ho
  have hfz : w.frozen? ⟨kb, o, none⟩ = false := hk.frozen o
  have hkl := hk.lt
  have hcells : ∀ j u, (dayC [x])[j]? = some u → (w.alloc (.cells #[.pointer (some ⟨x.kb, 0, none⟩)] 152)).cell? ((⟨w.heap.size, 0, none⟩ : Addr).add j) = some u := by
    intro j u hu
    have hb : Blk (w.alloc (.cells #[.pointer (some ⟨x.kb, 0, none⟩)] 152)) w.heap.size #[.pointer (some ⟨x.kb, 0, none⟩)] 152 := heap_alloc_new w _
    have ha : ((⟨w.heap.size, 0, none⟩ : Addr).add j) = ⟨w.heap.size, j, none⟩ := by simp [Addr.add]; omega
    rw [ha, hb.cell, ← hu]
    simp [dayC]
  have hone : ∀ u ∈ dayC [x], u.oneCell' = true := by
    intro u hu
    simp only [dayC, List.map_cons, List.map_nil, List.mem_cons, List.not_mem_nil, or_false] at hu
    rw [hu]; rfl
  go_enter Try.func85, Try.ntmps85
  go_wp2_with (at_builtin; refine wpList_append_ownX rfl (.tmp 7) (.tmp 9) 98 rfl B 152 i0 _ 1 8 Try.underlying98 hi hz0 hz1 hz2 rfl (by decide) (.slice ao d.length cap) d.length (dayC d) rfl ?own ⟨w.heap.size, 0, none⟩ 1 1 (dayC [x]) rfl rfl ?cells ?one ?b1 ?b2 ?hb ?k)
  case own => exact ownsRow_keep hE (F := fun _ => False) ((KeptF.refl _ _).alloc _) (fun _ _ h => h)
  case cells => exact hcells
  case one => exact hone
  case b1 => unfold maxLen; omega
  case b2 => omega
  case hb => simp; omega
  case k =>
    intro v' w' hown' hgr hfr
    obtain ⟨g, cap', hv', hBg, hcm, hgk, hgo, hA, hkb', hK', hc', hf'⟩ := grownD hk hown' hgr (fun g h => by have := hfr g h; simpa using this) hne ho (KeptF.alloc (KeptF.refl (fun _ => False) w) _)
    subst hv'
    go_wp2
    have hb2 := hkb'.set o (.slice (some ⟨g, 0, none⟩) (d.length + 1) cap')
    have hA2 : DArr (w'.setCell ⟨kb, o, none⟩ (.slice (some ⟨g, 0, none⟩) (d.length + 1) cap')) g 152 cap' (d ++ [x]) := hA.keep ((KeptF.refl (fun k => k = kb) _).setCell (p := ⟨kb, o, none⟩) (.inl rfl) _) hgk
    have hc2 : (w'.setCell ⟨kb, o, none⟩ (.slice (some ⟨g, 0, none⟩) (d.length + 1) cap')).cell? ⟨kb, o, none⟩ = some (.slice (some ⟨g, 0, none⟩) (d.length + 1) cap') := World.cell?_setCell_same _ _ _ hc'
    have hK2 : KeptF (fun k => k = kb ∨ (Value.slice ao d.length cap).ownBlock = some k) w (w'.setCell ⟨kb, o, none⟩ (.slice (some ⟨g, 0, none⟩) (d.length + 1) cap')) := (hK'.weaken (fun _ _ h => .inr h)).setCell (p := ⟨kb, o, none⟩) (.inl (.inl rfl)) _
    have hD2 := hD.keepF hK2 (fun e he h => by rcases h with h | h; exact (hx e he).1 h; exact (hx e he).2 h)
    have hg2 : ∀ e ∈ d ++ [x], e.kb ≠ g := by
      intro e he h
      rcases hgo with h1 | h1
      · exact (hx e he).2 (by rw [h]; exact h1)
      · have := block_lt_of_cell (hD e he)
        simp at this
        omega
    generalize w'.setCell ⟨kb, o, none⟩ (.slice (some ⟨g, 0, none⟩) (d.length + 1) cap') = w2 at *
    clear hc' hf' hown' hgr hfr hA hkb' hK' hc hfz hcells hone hE hk hD
    refine still_tail' 8 (by kernel_rfl) (by kernel_rfl) ?_
    simp only [List.take_succ_cons, List.take_zero, List.drop_succ_cons, List.drop_zero]
    repeat still_step
    refine wpStill_nil ?_
    go_wp2_with fail
    refine (riseD_any g (d.length + 1) cap' 152 d.length (d ++ [x]) _ hA2.drew hD2 hg2 (by simp) (by omega) hn (RiseInv.push hH x)).mono ?_
    rintro e w3 ⟨rfl, d', hA3, hP, hH', hK3⟩
    go_wp2
    go_end0
    have hl : d'.length = d.length + 1 := by rw [hP.length_eq]; simp
    refine ⟨rfl, .slice (some ⟨g, 0, none⟩) (d.length + 1) cap', d', hb2.drew.keep hK3 (fun e => hgk e.symm), by rw [← hl]; exact DSl.mk hBg hcm hA3, hP, hH', hK2.drew.trans' hK3 (fun i hi e => ?_), g, rfl, hgo⟩
    subst e
    rcases hgo with h | h
    · exact .inr h
    · omega

end Go.Proofs.Ytkobkilfbbalaaa

namespace Go.Proofs.Ytkobkilfbbalaaa
open Go.RowKit Go.Sort

def noEnt : Ent := ⟨⟨0, 0, 0, 0⟩, 0⟩

theorem zero_ent (w : World) : (zeroValue 156).run Try.prog w = .ok (.agg #[.int .i64 0, .int .i64 0, .int .i64 0, .int .i64 0, .int .i64 0]) w := by kernel_rfl
theorem zero_dayp (w : World) : (zeroValue 152).run Try.prog w = .ok (.pointer none) w := by kernel_rfl

theorem run_clear_ent (w : World) (g m c ty : Nat) (hc : ∀ j, j < 5 → (w.cell? ⟨g, m * 5 + j, none⟩).isSome = true) (hf : ∀ j, j < 5 → w.frozen? ⟨g, m * 5 + j, none⟩ = false) :
    (Builtin.clear_ #[149] ty #[.slice (some ⟨g, m * 5, none⟩) 1 c]).run Try.prog w = .ok (.tuple #[]) (setEnt w g m noEnt) := by
  have hst := run_storeCells_cells (P := Try.prog) g (m * 5) [.int .i64 0, .int .i64 0, .int .i64 0, .int .i64 0, .int .i64 0] 0 w (by simpa using hc) (by simpa using hf) (by
    intro v hv
    simp only [List.mem_cons, List.not_mem_nil, or_false, or_self] at hv
    rw [hv]; rfl)
  simp only [Nat.add_zero] at hst
  have hzc : (Builtin.zeroCells (Value.agg #[.int .i64 0, .int .i64 0, .int .i64 0, .int .i64 0, .int .i64 0]).cells 1).toList = [.int .i64 0, .int .i64 0, .int .i64 0, .int .i64 0, .int .i64 0] := by kernel_rfl
  simp [Builtin.clear_, run_underlying Try.underlying149, hzc, hst]
  rfl

theorem EArr.cut {w : World} {b : Nat} {T : TypeId} {cap : Nat} {d : List Ent} (h : EArr w b T cap d) (n : Nat) : EArr w b T cap (d.take n) := by
  obtain ⟨c, h1, h2, h3⟩ := h.ex
  refine ⟨⟨c, h1, h2, fun j e he => h3 j e ?_⟩, by have := h.fits; simp; omega⟩
  have := get_lt he
  rw [List.length_take] at this
  rw [List.getElem?_take_of_lt (by omega)] at he
  exact he

theorem EArr.some {w : World} {b : Nat} {T : TypeId} {cap : Nat} {d : List Ent} (h : EArr w b T cap d) (o : Nat) (ho : o < cap * 5) : (w.cell? ⟨b, o, none⟩).isSome = true := by
  obtain ⟨c, h1, h2, h3⟩ := h.ex
  rw [h1.cell, Array.getElem?_eq_getElem (by omega)]
  rfl

theorem EArr.alloc {w : World} {b : Nat} {T : TypeId} {cap : Nat} {d : List Ent} (h : EArr w b T cap d) (o : Obj) : EArr (w.alloc o) b T cap d :=
  h.keep (F := fun _ => False) ((KeptF.refl _ _).alloc o) (fun h => h)

/-- clear(s[last:]) behind s[0] = s[last], with the two blocks that pop has laid -/
theorem popE_clear {w : World} {g cap m kb Tk : Nat} {c0 : Array Value} {d : List Ent} (z : Ent) (A X : Array Value) (hA : EArr w g 156 cap d) (hd : d.length = m + 1) (hk : Blk w kb c0 Tk) (hne : g ≠ kb) (c : Nat) :
    ∃ W2, (Builtin.clear_ #[149] 0 #[.slice (some ⟨g, m * 5, none⟩) 1 c]).run Try.prog
        (((((((w.setCell ⟨g, 0, none⟩ (.int .i64 z.it.t)).setCell ⟨g, 1, none⟩ (.int .i64 z.it.f)).setCell ⟨g, 2, none⟩ (.int .i64 z.it.s)).setCell ⟨g, 3, none⟩ (.int .i64 z.it.l)).setCell ⟨g, 4, none⟩ (.int .i64 z.r)).alloc (.cells A 156)).alloc (.cells X 156)) = .ok (.tuple #[]) W2 ∧
      EArr W2 g 156 cap (popL d z) ∧ Blk W2 kb c0 Tk ∧ KeptF (fun k => k = g) w W2 ∧ W2.heap.size = w.heap.size + 2 ∧ Blk W2 w.heap.size A 156 ∧ Blk W2 (w.heap.size + 1) X 156 := by
  have hfit := hA.fits
  have h1 : EArr (((setEnt w g 0 z).alloc (.cells A 156)).alloc (.cells X 156)) g 156 cap (d.set 0 z) := ((hA.set z (by omega)).alloc _).alloc _
  have hgl := hA.lt
  have hs1 : (setEnt w g 0 z).heap.size = w.heap.size := by simp [setEnt, World.setCell]
  refine ⟨_, run_clear_ent _ g m c 0 (fun j hj => h1.some _ (by omega)) (fun j _ => h1.frozen _), ?_, ?_, ?_, ?_, ?_, ?_⟩
  · have h2 := (h1.set noEnt (j := m) (by omega)).cut m
    have e : (List.set (List.set d 0 z) m noEnt).take m = popL d z := by
      unfold popL
      rw [hd, Nat.add_sub_cancel, List.take_set_of_le (Nat.le_refl _)]
    rw [e] at h2
    exact h2
  · have hK : KeptF (fun k => k = g) w (setEnt (((setEnt w g 0 z).alloc (.cells A 156)).alloc (.cells X 156)) g m noEnt) :=
      ((((KeptF.refl (fun k => k = g) w).setEnt (.inl rfl) 0 z).alloc _).alloc _).setEnt (.inl rfl) m noEnt
    exact hk.keep hK (fun e => hne e.symm)
  · exact ((((KeptF.refl (fun k => k = g) w).setEnt (.inl rfl) 0 z).alloc _).alloc _).setEnt (.inl rfl) m noEnt
  · simp [setEnt, World.setCell]
  · have hb : Blk ((setEnt w g 0 z).alloc (.cells A 156)) w.heap.size A 156 := by
      have := heap_alloc_new (setEnt w g 0 z) (.cells A 156)
      rw [hs1] at this
      exact this
    exact (hb.alloc _).keep ((KeptF.refl (fun k => k = g) _).setEnt (.inl rfl) m noEnt) (by omega)
  · have hb : Blk (((setEnt w g 0 z).alloc (.cells A 156)).alloc (.cells X 156)) (w.heap.size + 1) X 156 := by
      have := heap_alloc_new ((setEnt w g 0 z).alloc (.cells A 156)) (.cells X 156)
      rw [World.size_alloc, hs1] at this
      exact this
    exact hb.keep ((KeptF.refl (fun k => k = g) _).setEnt (.inl rfl) m noEnt) (by omega)

set_option maxRecDepth 100000 in
set_option maxHeartbeats 4000000 in
theorem popE_any (kb o Tk g cap m : Nat) (c0 : Array Value) (d : List Ent) (x z : Ent) (w : World)
    (hk : Blk w kb c0 Tk) (ho : c0[o]? = some (.slice (some ⟨g, 0, none⟩) (m + 1) cap)) (hA : EArr w g 156 cap d) (hd : d.length = m + 1) (hne : g ≠ kb) (hn : m + 1 ≤ 2932031007317) (hH : HeapL Ent.ltB d)
    (hx : d[0]? = some x) (hz : d[m]? = some z) :
    Calls Try.prog 62 #[.pointer (some ⟨kb, o, none⟩)] w fun e w' => e = .returned (.agg #[.int .i64 x.it.t, .int .i64 x.it.f, .int .i64 x.it.s, .int .i64 x.it.l, .int .i64 x.r]) ∧
      ∃ d', Blk w' kb (c0.setIfInBounds o (.slice (some ⟨g, 0, none⟩) m cap)) Tk ∧ EArr w' g 156 cap d' ∧ (x :: d').Perm d ∧ HeapL Ent.ltB d' ∧ KeptF (fun k => k = kb ∨ k = g) w w' := by
  have hc : w.cell? ⟨kb, o, none⟩ = some (.slice (some ⟨g, 0, none⟩) (m + 1) cap) := (hk.cell o).trans ho
  have hkl := hk.lt
  have hgl := hA.lt
  have hmc : m + 1 ≤ cap := by have := hA.fits; omega
  obtain ⟨c0', c1, c2, c3, c4⟩ := hA.cells hx
  obtain ⟨d0, d1, d2, d3, d4⟩ := hA.cells hz
  have hfg := hA.frozen
  simp only [Nat.zero_mul, Nat.zero_add] at c0' c1 c2 c3 c4
  obtain ⟨W2, hrun, hA2, hk2, hK2, hs2, hb0, hb1⟩ := popE_clear z #[.int .i64 0, .int .i64 0, .int .i64 0, .int .i64 0, .int .i64 0] #[.int .i64 x.it.t, .int .i64 x.it.f, .int .i64 x.it.s, .int .i64 x.it.l, .int .i64 x.r] hA hd hk hne (cap - m)
  have hc2 : W2.cell? ⟨kb, o, none⟩ = some (.slice (some ⟨g, 0, none⟩) (m + 1) cap) := (hk2.cell o).trans ho
  have hfz2 : W2.frozen? ⟨kb, o, none⟩ = false := hk2.frozen o
  have HP : Hid ((x :: popL d z).Perm d) := popL_perm hx (by rw [hd]; exact hz)
  have HS : Hid (SinkInv Ent.ltB (popL d z) 0) := SinkInv.pop hH z
  have HL : Hid ((popL d z).length = m) := (popL_length d z).trans (by rw [hd]; rfl)
  have Hs2 : Hid (W2.heap.size = w.heap.size + 2) := hs2
  clear hx hz hd hs2
  go_enter Try.func62, Try.ntmps62
  go_wp2_with fail
  clear hrun c0' c1 c2 c3 c4 d0 d1 d2 d3 d4 hfg hc
  have hb2 := hk2.set o (.slice (some ⟨g, 0, none⟩) m cap)
  have hne0 : w.heap.size ≠ kb := by omega
  have hne1 : w.heap.size + 1 ≠ kb := by omega
  have hKs := (KeptF.refl (fun k => k = kb) W2).setCell (p := ⟨kb, o, none⟩) (.inl rfl) (.slice (some ⟨g, 0, none⟩) m cap)
  have hA3 := hA2.keep hKs hne
  have hb03 := hb0.keep hKs hne0
  have hb13 := hb1.keep hKs hne1
  have hK3 : KeptF (fun k => k = kb ∨ k = g) w (W2.setCell ⟨kb, o, none⟩ (.slice (some ⟨g, 0, none⟩) m cap)) := (hK2.weaken (fun _ _ h => .inr h)).setCell (p := ⟨kb, o, none⟩) (.inl (.inl rfl)) _
  have Hs3 : Hid ((W2.setCell ⟨kb, o, none⟩ (.slice (some ⟨g, 0, none⟩) m cap)).heap.size = w.heap.size + 2) := by
    have := Hs2.out
    show _ = _
    simp only [World.setCell, Array.size_modify]
    exact this
  clear hKs hA2 hb0 hb1 hK2 hk2 hc2 hfz2 Hs2
  generalize W2.setCell ⟨kb, o, none⟩ (.slice (some ⟨g, 0, none⟩) m cap) = W3 at *
  refine (sinkE_any g m cap 156 (popL d z) _ hA3 HL.out (by omega) HS.out).mono ?_
  rintro e w4 ⟨rfl, d', hA4, hP4, hH4, hK4⟩
  have hg0 : w.heap.size ≠ g := by omega
  have hg1 : w.heap.size + 1 ≠ g := by omega
  have b0 := hb03.keep hK4 hg0
  have b1 := hb13.keep hK4 hg1
  have e0 := fun o => b1.cell o
  have c0' := e0 0
  have c1 := e0 1
  have c2 := e0 2
  have c3 := e0 3
  have c4 := e0 4
  simp only [List.getElem?_toArray, List.getElem?_cons_zero, List.getElem?_cons_succ] at c0' c1 c2 c3 c4
  have f0 := fun o => b0.cell o
  have r0 := f0 0
  have r1 := f0 1
  have r2 := f0 2
  have r3 := f0 3
  have r4 := f0 4
  simp only [List.getElem?_toArray, List.getElem?_cons_zero, List.getElem?_cons_succ] at r0 r1 r2 r3 r4
  have hz := b0.frozen
  have hfin : Blk w4 kb (c0.setIfInBounds o (.slice (some ⟨g, 0, none⟩) m cap)) Tk := hb2.keep hK4 (fun e => hne e.symm)
  have hKfin : KeptF (fun k => k = kb ∨ k = g) w w4 := hK3.trans' hK4 (fun i _ h => .inr h)
  clear e0 f0
  have hK5 := fun u0 u1 u2 u3 u4 => (((((KeptF.refl (fun k => k = w.heap.size) w4).setCell (p := ⟨w.heap.size, 0, none⟩) (.inl rfl) u0).setCell (p := ⟨w.heap.size, 1, none⟩) (.inl rfl) u1).setCell (p := ⟨w.heap.size, 2, none⟩) (.inl rfl) u2).setCell (p := ⟨w.heap.size, 3, none⟩) (.inl rfl) u3).setCell (p := ⟨w.heap.size, 4, none⟩) (.inl rfl) u4
  go_wp2
  refine bodyPost_ret (v := .agg #[.int .i64 x.it.t, .int .i64 x.it.f, .int .i64 x.it.s, .int .i64 x.it.l, .int .i64 x.r]) (by simp [results, Try.results62, go_sem, r0, r1, r2, r3, r4]) rfl ⟨rfl, d', ?_, ?_, (hP4.cons x).trans HP.out, hH4, ?_⟩
  · exact hfin.keep (hK5 _ _ _ _ _) (fun e => hne0 e.symm)
  · exact hA4.keep (hK5 _ _ _ _ _) (fun e => hg0 e.symm)
  · exact hKfin.trans' (hK5 _ _ _ _ _) (fun i hi h => by omega)

theorem run_clear_dayp (w : World) (g m c ty : Nat) (hc : (w.cell? ⟨g, m, none⟩).isSome = true) (hf : w.frozen? ⟨g, m, none⟩ = false) :
    (Builtin.clear_ #[98] ty #[.slice (some ⟨g, m, none⟩) 1 c]).run Try.prog w = .ok (.tuple #[]) (w.setCell ⟨g, m, none⟩ (.pointer none)) := by
  have hst := run_storeCells_cells (P := Try.prog) g m [.pointer none] 0 w (by intro j hj; have h0 : j = 0 := (by simpa using hj); subst h0; simpa using hc) (by intro j hj; have h0 : j = 0 := (by simpa using hj); subst h0; simpa using hf) (by
    intro v hv
    simp only [List.mem_cons, List.not_mem_nil, or_false] at hv
    rw [hv]; rfl)
  simp only [Nat.add_zero] at hst
  have hzc : (Builtin.zeroCells (Value.pointer none).cells 1).toList = [.pointer none] := by kernel_rfl
  simp [Builtin.clear_, run_underlying Try.underlying98, hzc, hst]
  rfl

theorem DArr.cut {w : World} {b : Nat} {T : TypeId} {cap : Nat} {d : List Dy} (h : DArr w b T cap d) (n : Nat) : DArr w b T cap (d.take n) := by
  obtain ⟨c, h1, h2, h3⟩ := h.ex
  refine ⟨⟨c, h1, h2, fun j e he => h3 j e ?_⟩, by have := h.fits; simp; omega⟩
  have := get_lt he
  rw [List.length_take] at this
  rw [List.getElem?_take_of_lt (by omega)] at he
  exact he
theorem DArr.some {w : World} {b : Nat} {T : TypeId} {cap : Nat} {d : List Dy} (h : DArr w b T cap d) (o : Nat) (ho : o < cap) : (w.cell? ⟨b, o, none⟩).isSome = true := by
  obtain ⟨c, h1, h2, h3⟩ := h.ex
  rw [h1.cell, Array.getElem?_eq_getElem (by omega)]
  rfl

theorem DArr.setBehind {w : World} {b : Nat} {T : TypeId} {cap : Nat} {d : List Dy} (h : DArr w b T cap d) (m : Nat) (hm : d.length ≤ m) (u : Value) : DArr (w.setCell ⟨b, m, none⟩ u) b T cap d := by
  obtain ⟨c, h1, h2, h3⟩ := h.ex
  refine ⟨⟨_, h1.set m u, by simpa using h2, fun j e he => ?_⟩, h.fits⟩
  have := get_lt he
  rw [Array.getElem?_setIfInBounds_ne (by omega)]
  exact h3 j e he

theorem popD_clear {w : World} {g cap m kb Tk : Nat} {c0 : Array Value} {d : List Dy} (z : Dy) (hA : DArr w g 152 cap d) (hd : d.length = m + 1) (hk : Blk w kb c0 Tk) (hne : g ≠ kb) (c : Nat) :
    ∃ W2, (Builtin.clear_ #[98] 0 #[.slice (some ⟨g, m, none⟩) 1 c]).run Try.prog
        (w.setCell ⟨g, 0, none⟩ (.pointer (some ⟨z.kb, 0, none⟩))) = .ok (.tuple #[]) W2 ∧
      DArr W2 g 152 cap (popL d z) ∧ Blk W2 kb c0 Tk ∧ KeptF (fun k => k = g) w W2 := by
  have hfit := hA.fits
  have h1 := hA.set z (j := 0) (by omega)
  have hK : KeptF (fun k => k = g) w ((w.setCell ⟨g, 0, none⟩ (.pointer (some ⟨z.kb, 0, none⟩))).setCell ⟨g, m, none⟩ (.pointer none)) := ((KeptF.refl (fun k => k = g) w).setCell (p := ⟨g, 0, none⟩) (.inl rfl) _).setCell (p := ⟨g, m, none⟩) (.inl rfl) _
  refine ⟨_, run_clear_dayp _ g m c 0 (h1.some _ (by omega)) (h1.frozen _), ?_, hk.keep hK (fun e => hne e.symm), hK⟩
  have h2 := (h1.cut m).setBehind m (by simp; omega) (.pointer none)
  have e : (List.set d 0 z).take m = popL d z := by
    unfold popL
    rw [hd, Nat.add_sub_cancel]
  rw [e] at h2
  exact h2

set_option maxRecDepth 100000 in
set_option maxHeartbeats 4000000 in
theorem popD_any (kb o Tk g cap m : Nat) (c0 : Array Value) (d : List Dy) (x z : Dy) (w : World)
    (hk : Blk w kb c0 Tk) (ho : c0[o]? = some (.slice (some ⟨g, 0, none⟩) (m + 1) cap)) (hA : DArr w g 152 cap d) (hd : d.length = m + 1) (hne : g ≠ kb) (hn : m + 1 ≤ 2932031007317) (hH : HeapL Dy.ltB d)
    (hx : d[0]? = some x) (hz : d[m]? = some z) (hD : Dated w d) (hB : ∀ e ∈ d, e.kb ≠ kb ∧ e.kb ≠ g) :
    Calls Try.prog 63 #[.pointer (some ⟨kb, o, none⟩)] w fun e w' => e = .returned (.pointer (some ⟨x.kb, 0, none⟩)) ∧
      ∃ d', Blk w' kb (c0.setIfInBounds o (.slice (some ⟨g, 0, none⟩) m cap)) Tk ∧ DArr w' g 152 cap d' ∧ (x :: d').Perm d ∧ HeapL Dy.ltB d' ∧ KeptF (fun k => k = kb ∨ k = g) w w' := by
  have hc : w.cell? ⟨kb, o, none⟩ = some (.slice (some ⟨g, 0, none⟩) (m + 1) cap) := (hk.cell o).trans ho
  have hkl := hk.lt
  have hgl := hA.lt
  have hmc : m + 1 ≤ cap := by have := hA.fits; omega
  have c0' := hA.cells hx
  have d0 := hA.cells hz
  have hfg := hA.frozen
  obtain ⟨W2, hrun, hA2, hk2, hK2⟩ := popD_clear z hA hd hk hne (cap - m)
  have hc2 : W2.cell? ⟨kb, o, none⟩ = some (.slice (some ⟨g, 0, none⟩) (m + 1) cap) := (hk2.cell o).trans ho
  have hfz2 : W2.frozen? ⟨kb, o, none⟩ = false := hk2.frozen o
  have HP : Hid ((x :: popL d z).Perm d) := popL_perm hx (by rw [hd]; exact hz)
  have HS : Hid (SinkInv Dy.ltB (popL d z) 0) := SinkInv.pop hH z
  have HL : Hid ((popL d z).length = m) := (popL_length d z).trans (by rw [hd]; rfl)
  have hsub : ∀ e ∈ popL d z, e ∈ d := fun e he => HP.out.mem_iff.1 (List.mem_cons_of_mem _ he)
  have hD2 : Dated W2 (popL d z) := by
    intro e he
    rw [hK2.cell (block_lt_of_cell (hD e (hsub e he))) (hB e (hsub e he)).2]
    exact hD e (hsub e he)
  clear hx hz hd
  go_enter Try.func63, Try.ntmps63
  go_wp2_with fail
  clear hrun c0' d0 hfg hc
  have hb2 := hk2.set o (.slice (some ⟨g, 0, none⟩) m cap)
  have hKs := (KeptF.refl (fun k => k = kb) W2).setCell (p := ⟨kb, o, none⟩) (.inl rfl) (.slice (some ⟨g, 0, none⟩) m cap)
  have hA3 := hA2.keep hKs hne
  have hD3 := hD2.keepF hKs (fun e he => (hB e (hsub e he)).1)
  have hK3 : KeptF (fun k => k = kb ∨ k = g) w (W2.setCell ⟨kb, o, none⟩ (.slice (some ⟨g, 0, none⟩) m cap)) := (hK2.weaken (fun _ _ h => .inr h)).setCell (p := ⟨kb, o, none⟩) (.inl (.inl rfl)) _
  clear hKs hA2 hK2 hk2 hc2 hfz2 hD2
  generalize W2.setCell ⟨kb, o, none⟩ (.slice (some ⟨g, 0, none⟩) m cap) = W3 at *
  refine (sinkD_any g m cap 152 (popL d z) _ hA3 hD3 (fun e he => (hB e (hsub e he)).2) HL.out (by omega) HS.out).mono ?_
  rintro e w4 ⟨rfl, d', hA4, hP4, hH4, hK4⟩
  have hfin : Blk w4 kb (c0.setIfInBounds o (.slice (some ⟨g, 0, none⟩) m cap)) Tk := hb2.keep hK4 (fun e => hne e.symm)
  have hKfin : KeptF (fun k => k = kb ∨ k = g) w w4 := hK3.trans' hK4 (fun i _ h => .inr h)
  go_wp2
  go_ret
  exact ⟨rfl, d', hfin, hA4, (hP4.cons x).trans HP.out, hH4, hKfin⟩

end Go.Proofs.Ytkobkilfbbalaaa

namespace Go.Proofs.Ytkobkilfbbalaaa
open Go.RowKit Go.Sort Go.Maps

structure Day where
  kb : Nat
  date : Int
  iv : Value
  es : List Ent

def Day.dy (x : Day) : Dy := ⟨x.kb, x.date⟩

/-- how a pointer to a day reads: by its block's number -/
def dayR : Value → Option (DataW Nat × List MemPlace)
  | .pointer none => some (.nil, [])
  | .pointer (some a) => if a.off = 0 ∧ a.spot = none then some (.held a.block, []) else none
  | _ => none

theorem dayR_mk (b : Nat) : dayR (.pointer (some ⟨b, 0, none⟩)) = some (.held b, []) := by simp [dayR]
theorem dayR_inv {v : Value} {b : Nat} {ps : List MemPlace} (h : dayR v = some (.held b, ps)) : v = .pointer (some ⟨b, 0, none⟩) := by
  unfold dayR at h
  split at h
  · simp at h
  · rename_i a
    split at h
    · rename_i hc
      obtain ⟨ab, ao, asp⟩ := a
      simp only at hc
      obtain ⟨rfl, rfl⟩ := hc
      simp at h
      rw [h.1]
    · cases h
  · cases h

theorem key_law : Keyed Try.prog 3 := int_keyed Try.underlying3

theorem five_get (a b c d e : Value) (r : Array Value) : (#[a, b, c, d, e] ++ r)[0]? = some a ∧ (#[a, b, c, d, e] ++ r)[1]? = some b ∧ (#[a, b, c, d, e] ++ r)[2]? = some c ∧ (#[a, b, c, d, e] ++ r)[3]? = some d ∧ (#[a, b, c, d, e] ++ r)[4]? = some e := by
  refine ⟨?_, ?_, ?_, ?_, ?_⟩ <;> (rw [Array.getElem?_append_left (by simp)]; rfl)

theorem five_set (a b c d e v : Value) (r : Array Value) : (#[a, b, c, d, e] ++ r).setIfInBounds 1 v = #[a, v, c, d, e] ++ r ∧ (#[a, b, c, d, e] ++ r).setIfInBounds 2 v = #[a, b, v, d, e] ++ r ∧ (#[a, b, c, d, e] ++ r).setIfInBounds 3 v = #[a, b, c, v, e] ++ r := by
  refine ⟨?_, ?_, ?_⟩ <;> (rw [Array.setIfInBounds_append_left (by simp)]; rfl)

/-- the map's datum and the days -/
structure MapIs (D : DataW Nat) (ds : List Day) : Prop where
  at_ : ∀ x ∈ ds, Maps.has D (.int .i64 x.date) = true ∧ ∀ z, D.atKey (.int .i64 x.date) z = .held x.kb
  not : ∀ t, (∀ x ∈ ds, x.date ≠ t) → Maps.has D (.int .i64 t) = false

structure Apart (qb mb : Nat) (dv : Value) (ds : List Day) : Prop where
  qm : qb ≠ mb
  dq : dv.ownBlock ≠ some qb
  dm : dv.ownBlock ≠ some mb
  kq : ∀ x ∈ ds, x.kb ≠ qb ∧ x.kb ≠ mb ∧ dv.ownBlock ≠ some x.kb
  iq : ∀ x ∈ ds, x.iv.ownBlock ≠ some qb ∧ x.iv.ownBlock ≠ some mb ∧ ∀ g, x.iv.ownBlock = some g → dv.ownBlock ≠ some g
  ik : ∀ x ∈ ds, ∀ y ∈ ds, x.iv.ownBlock ≠ some y.kb
  xy : ∀ x ∈ ds, ∀ y ∈ ds, x.date ≠ y.date → x.kb ≠ y.kb ∧ ∀ g, x.iv.ownBlock = some g → y.iv.ownBlock ≠ some g

def Foot (qb mb : Nat) (dv : Value) (ds : List Day) (k : Nat) : Prop := k = qb ∨ k = mb ∨ dv.ownBlock = some k ∨ ∃ x ∈ ds, k = x.kb ∨ x.iv.ownBlock = some k

structure QCore (w : World) (B qb mb : Nat) (dv : Value) (n : Nat) (ds : List Day) (rest : Array Value) (Tq : TypeId) (width count pushed : Int) : Prop where
  blk : Blk w qb (#[.int .i64 width, .int .i64 count, .int .i64 pushed, dv, .map (some mb)] ++ rest) Tq
  map : ∃ D : DataW Nat, w.ownsMap Try.prog 3 dayR mb n D ∧ MapIs D ds
  days : DSl w B dv (ds.map Day.dy)
  heap : HeapL Dy.ltB (ds.map Day.dy)
  each : ∀ x ∈ ds, Blk w x.kb #[.int .i64 x.date, x.iv] 151 ∧ ESl w B x.iv x.es ∧ HeapL Ent.ltB x.es
  nodup : (ds.map Day.date).Nodup
  lowq : B ≤ qb
  lowm : B ≤ mb
  lowk : ∀ x ∈ ds, B ≤ x.kb
  apart : Apart qb mb dv ds

theorem ownsMap_keep {F : Nat → Prop} {w w' : World} {b n : Nat} {D : DataW Nat} (h : w.ownsMap Try.prog 3 dayR b n D) (k : KeptF F w w') (hF : ¬ F b) : w'.ownsMap Try.prog 3 dayR b n D := by
  obtain ⟨es, clock, hb, r⟩ := h
  refine ⟨es, clock, ?_, r⟩
  have : b < w.heap.size := by
    rcases Nat.lt_or_ge b w.heap.size with h' | h'
    · exact h'
    · rw [Array.getElem?_eq_none h'] at hb; cases hb
  rw [k.block b this hF]; exact hb

theorem ESl.keep {F : Nat → Prop} {w w' : World} {B : Nat} {v : Value} {d : List Ent} (h : ESl w B v d) (k : KeptF F w w') (hF : ∀ g, v.ownBlock = some g → ¬ F g) : ESl w' B v d := ownsRow_keep h k hF
theorem DSl.keep {F : Nat → Prop} {w w' : World} {B : Nat} {v : Value} {d : List Dy} (h : DSl w B v d) (k : KeptF F w w') (hF : ∀ g, v.ownBlock = some g → ¬ F g) : DSl w' B v d := ownsRow_keep h k hF
theorem ESl.lt {w : World} {B : Nat} {v : Value} {d : List Ent} (h : ESl w B v d) {g : Nat} (hg : v.ownBlock = some g) : B ≤ g ∧ g < w.heap.size := World.ownsRow.lt h g hg
theorem DSl.lt {w : World} {B : Nat} {v : Value} {d : List Dy} (h : DSl w B v d) {g : Nat} (hg : v.ownBlock = some g) : B ≤ g ∧ g < w.heap.size := World.ownsRow.lt h g hg

section
variable {w w' : World} {B qb mb : Nat} {dv : Value} {n : Nat} {ds : List Day} {rest : Array Value} {Tq : TypeId} {width count pushed : Int}

theorem QCore.foot_lt (h : QCore w B qb mb dv n ds rest Tq width count pushed) {k : Nat} (hk : Foot qb mb dv ds k) : B ≤ k ∧ k < w.heap.size := by
  rcases hk with hk | hk | hk | ⟨x, hx, hk | hk⟩
  · subst hk; exact ⟨h.lowq, h.blk.lt⟩
  · subst hk
    obtain ⟨D, h1, _⟩ := h.map
    exact ⟨h.lowm, h1.lt⟩
  · exact h.days.lt hk
  · subst hk; exact ⟨h.lowk x hx, (h.each x hx).1.lt⟩
  · exact (h.each x hx).2.1.lt hk

theorem QCore.keep {G : Nat → Prop} (h : QCore w B qb mb dv n ds rest Tq width count pushed) (k : KeptF G w w') (hG : ∀ i, Foot qb mb dv ds i → ¬ G i) : QCore w' B qb mb dv n ds rest Tq width count pushed := by
  refine ⟨h.blk.keep k (hG _ (.inl rfl)), ?_, h.days.keep k (fun g hg => hG g (.inr (.inr (.inl hg)))), h.heap, fun x hx => ?_, h.nodup, h.lowq, h.lowm, h.lowk, h.apart⟩
  · obtain ⟨D, h1, h2⟩ := h.map
    exact ⟨D, ownsMap_keep h1 k (hG _ (.inr (.inl rfl))), h2⟩
  · obtain ⟨h1, h2, h3⟩ := h.each x hx
    exact ⟨h1.keep k (hG _ (.inr (.inr (.inr ⟨x, hx, .inl rfl⟩)))), h2.keep k (fun g hg => hG g (.inr (.inr (.inr ⟨x, hx, .inr hg⟩)))), h3⟩

/-- one of the queue's three numbers is stored -/
theorem QCore.setNum (h : QCore w B qb mb dv n ds rest Tq width count pushed) {c' p' : Int} {w' : World} (hb : Blk w' qb (#[.int .i64 width, .int .i64 c', .int .i64 p', dv, .map (some mb)] ++ rest) Tq) (k : KeptF (fun i => i = qb) w w') :
    QCore w' B qb mb dv n ds rest Tq width c' p' := by
  have A := h.apart
  refine ⟨hb, ?_, h.days.keep k (fun g hg e => A.dq (by rw [hg, e])), h.heap, fun x hx => ?_, h.nodup, h.lowq, h.lowm, h.lowk, A⟩
  · obtain ⟨D, h1, h2⟩ := h.map
    exact ⟨D, ownsMap_keep h1 k (fun e => A.qm e.symm), h2⟩
  · obtain ⟨h1, h2, h3⟩ := h.each x hx
    exact ⟨h1.keep k (A.kq x hx).1, h2.keep k (fun g hg e => (A.iq x hx).1 (by rw [hg, e])), h3⟩

theorem nodup_date {l1 l2 : List Day} {x : Day} (h : ((l1 ++ x :: l2).map Day.date).Nodup) : ∀ y, y ∈ l1 ++ l2 → y.date ≠ x.date := by
  intro y hy e
  rw [List.map_append, List.map_cons] at h
  have h2 := (List.nodup_append.1 h)
  rcases List.mem_append.1 hy with hy | hy
  · exact h2.2.2 y.date (List.mem_map_of_mem hy) x.date (by simp) e
  · have := (List.nodup_cons.1 h2.2.1).1
    exact this (by rw [← e]; exact List.mem_map_of_mem hy)

/-- a day's items turn: its own block and its row alone -/
theorem QCore.replace {l1 l2 : List Day} {x : Day} {iv' : Value} {es' : List Ent} (h : QCore w B qb mb dv n (l1 ++ x :: l2) rest Tq width count pushed)
    (k : KeptF (fun i => i = x.kb ∨ x.iv.ownBlock = some i) w w') (hb : Blk w' x.kb #[.int .i64 x.date, iv'] 151) (hE : ESl w' B iv' es') (hH : HeapL Ent.ltB es')
    (hg : ∀ g, iv'.ownBlock = some g → x.iv.ownBlock = some g ∨ w.heap.size ≤ g) :
    QCore w' B qb mb dv n (l1 ++ ⟨x.kb, x.date, iv', es'⟩ :: l2) rest Tq width count pushed := by
  have A := h.apart
  have hxm : x ∈ l1 ++ x :: l2 := by simp
  have hmem : ∀ {y}, y ∈ l1 ++ l2 → y ∈ l1 ++ x :: l2 := by
    intro y hy
    rcases List.mem_append.1 hy with hy | hy
    · exact List.mem_append_left _ hy
    · exact List.mem_append_right _ (List.mem_cons_of_mem _ hy)
  have hmem' : ∀ {y : Day}, y ∈ l1 ++ (⟨x.kb, x.date, iv', es'⟩ : Day) :: l2 → y = ⟨x.kb, x.date, iv', es'⟩ ∨ y ∈ l1 ++ l2 := by
    intro y hy
    rcases List.mem_append.1 hy with hy | hy
    · exact .inr (List.mem_append_left _ hy)
    · rcases List.mem_cons.1 hy with hy | hy
      · exact .inl hy
      · exact .inr (List.mem_append_right _ hy)
  have hnd := nodup_date h.nodup
  have hlt : ∀ {k}, Foot qb mb dv (l1 ++ x :: l2) k → k < w.heap.size := fun hk => (h.foot_lt hk).2
  -- where the new row may lie
  have hfr : ∀ g, iv'.ownBlock = some g → ∀ k, Foot qb mb dv (l1 ++ x :: l2) k → x.iv.ownBlock ≠ some k → g ≠ k := by
    intro g hg' k hk hx e
    subst e
    rcases hg g hg' with h1 | h1
    · exact hx h1
    · have := hlt hk; omega
  have hother : ∀ y, y ∈ l1 ++ l2 → (∀ i, (i = y.kb ∨ y.iv.ownBlock = some i) → ¬ (i = x.kb ∨ x.iv.ownBlock = some i)) := by
    intro y hy i hi hi'
    have hyx := hnd y hy
    have h1 := A.xy y (hmem hy) x hxm hyx
    have h2 := A.xy x hxm y (hmem hy) (fun e => hyx e.symm)
    rcases hi with hi | hi <;> rcases hi' with hi' | hi'
    · exact h1.1 (hi.symm.trans hi')
    · exact A.ik x hxm y (hmem hy) (by rw [hi', hi])
    · exact A.ik y (hmem hy) x hxm (by rw [hi, hi'])
    · exact h1.2 i hi hi'
  refine ⟨h.blk.keep k ?_, ?_, ?_, ?_, ?_, ?_, h.lowq, h.lowm, ?_, ?_⟩
  · rintro (e | e)
    · exact (A.kq x hxm).1 e.symm
    · exact (A.iq x hxm).1 e
  · obtain ⟨D, h1, h2⟩ := h.map
    refine ⟨D, ownsMap_keep h1 k ?_, ⟨fun y hy => ?_, fun t ht => h2.not t (fun y hy => ?_)⟩⟩
    · rintro (e | e)
      · exact (A.kq x hxm).2.1 e.symm
      · exact (A.iq x hxm).2.1 e
    · rcases hmem' hy with e | hy
      · subst e; exact h2.at_ x hxm
      · exact h2.at_ y (hmem hy)
    · rcases List.mem_append.1 hy with hy | hy
      · exact ht y (List.mem_append_left _ hy)
      · rcases List.mem_cons.1 hy with hy | hy
        · subst hy; exact ht ⟨y.kb, y.date, iv', es'⟩ (by simp)
        · exact ht y (List.mem_append_right _ (List.mem_cons_of_mem _ hy))
  · have e : (l1 ++ (⟨x.kb, x.date, iv', es'⟩ : Day) :: l2).map Day.dy = (l1 ++ x :: l2).map Day.dy := by simp [Day.dy]
    rw [e]
    refine h.days.keep k (fun g hg' => ?_)
    rintro (e | e)
    · exact (A.kq x hxm).2.2 (by rw [hg', e])
    · exact (A.iq x hxm).2.2 g e hg'
  · have e : (l1 ++ (⟨x.kb, x.date, iv', es'⟩ : Day) :: l2).map Day.dy = (l1 ++ x :: l2).map Day.dy := by simp [Day.dy]
    rw [e]
    exact h.heap
  · intro y hy
    rcases hmem' hy with e | hy
    · subst e; exact ⟨hb, hE, hH⟩
    · obtain ⟨h1, h2, h3⟩ := h.each y (hmem hy)
      exact ⟨h1.keep k (hother y hy _ (.inl rfl)), h2.keep k (fun g hg' => hother y hy g (.inr hg')), h3⟩
  · have e : (l1 ++ (⟨x.kb, x.date, iv', es'⟩ : Day) :: l2).map Day.date = (l1 ++ x :: l2).map Day.date := by simp
    rw [e]
    exact h.nodup
  · intro y hy
    rcases hmem' hy with e | hy
    · subst e; exact h.lowk x hxm
    · exact h.lowk y (hmem hy)
  · refine ⟨A.qm, A.dq, A.dm, fun y hy => ?_, fun y hy => ?_, fun y hy z hz => ?_, fun y hy z hz hne => ?_⟩
    · rcases hmem' hy with e | hy
      · subst e; exact A.kq x hxm
      · exact A.kq y (hmem hy)
    · rcases hmem' hy with e | hy
      · subst e
        refine ⟨fun e => ?_, fun e => ?_, fun g hg' e => ?_⟩
        · exact hfr qb e qb (.inl rfl) (A.iq x hxm).1 rfl
        · exact hfr mb e mb (.inr (.inl rfl)) (A.iq x hxm).2.1 rfl
        · exact hfr g hg' g (.inr (.inr (.inl e))) (fun h' => (A.iq x hxm).2.2 g h' e) rfl
      · exact A.iq y (hmem hy)
    · rcases hmem' hy with e | hy
      · subst e
        rcases hmem' hz with e | hz
        · subst e
          exact fun e => hfr x.kb e x.kb (.inr (.inr (.inr ⟨x, hxm, .inl rfl⟩))) (A.ik x hxm x hxm) rfl
        · exact fun e => hfr z.kb e z.kb (.inr (.inr (.inr ⟨z, hmem hz, .inl rfl⟩))) (A.ik x hxm z (hmem hz)) rfl
      · rcases hmem' hz with e | hz
        · subst e; exact A.ik y (hmem hy) x hxm
        · exact A.ik y (hmem hy) z (hmem hz)
    · rcases hmem' hy with e | hy
      · subst e
        rcases hmem' hz with e | hz
        · subst e; exact absurd rfl hne
        · refine ⟨(A.xy x hxm z (hmem hz) hne).1, fun g hg' e => ?_⟩
          exact hfr g hg' g (.inr (.inr (.inr ⟨z, hmem hz, .inr e⟩))) (fun h' => (A.xy x hxm z (hmem hz) hne).2 g h' e) rfl
      · rcases hmem' hz with e | hz
        · subst e
          refine ⟨(A.xy y (hmem hy) x hxm hne).1, fun g hg' e => ?_⟩
          exact hfr g e g (.inr (.inr (.inr ⟨y, hmem hy, .inr hg'⟩))) (fun h' => (A.xy y (hmem hy) x hxm hne).2 g hg' h') rfl
        · exact A.xy y (hmem hy) z (hmem hz) hne

/-- what a turned day may reach: what was the queue's, or new blocks -/
theorem Foot.replace {l1 l2 : List Day} {x : Day} {iv' : Value} {es' : List Ent} {s : Nat} (hg : ∀ g, iv'.ownBlock = some g → x.iv.ownBlock = some g ∨ s ≤ g) {k : Nat} (hk : Foot qb mb dv (l1 ++ ⟨x.kb, x.date, iv', es'⟩ :: l2) k) :
    Foot qb mb dv (l1 ++ x :: l2) k ∨ s ≤ k := by
  have hxm : x ∈ l1 ++ x :: l2 := by simp
  rcases hk with hk | hk | hk | ⟨y, hy, hk⟩
  · exact .inl (.inl hk)
  · exact .inl (.inr (.inl hk))
  · exact .inl (.inr (.inr (.inl hk)))
  · rcases List.mem_append.1 hy with hy | hy
    · exact .inl (.inr (.inr (.inr ⟨y, List.mem_append_left _ hy, hk⟩)))
    · rcases List.mem_cons.1 hy with hy | hy
      · subst hy
        rcases hk with hk | hk
        · exact .inl (.inr (.inr (.inr ⟨x, hxm, .inl hk⟩)))
        · rcases hg k hk with h | h
          · exact .inl (.inr (.inr (.inr ⟨x, hxm, .inr h⟩)))
          · exact .inr h
      · exact .inl (.inr (.inr (.inr ⟨y, List.mem_append_right _ (List.mem_cons_of_mem _ hy), hk⟩)))

end

theorem perm_map_inv {α β : Type} (f : α → β) {l l' : List β} (h : l.Perm l') : ∀ m : List α, m.map f = l' → ∃ m' : List α, m'.map f = l ∧ m'.Perm m := by
  induction h with
  | nil => intro m hm; exact ⟨[], rfl, by cases m with | nil => exact List.Perm.refl _ | cons a r => simp at hm⟩
  | cons a _ ih =>
    intro m hm
    cases m with
    | nil => simp at hm
    | cons b r =>
      simp only [List.map_cons, List.cons.injEq] at hm
      obtain ⟨m', h1, h2⟩ := ih r hm.2
      exact ⟨b :: m', by simp [h1, hm.1], h2.cons b⟩
  | swap a b l =>
    intro m hm
    cases m with
    | nil => simp at hm
    | cons c r =>
      cases r with
      | nil => simp at hm
      | cons d r =>
        simp only [List.map_cons, List.cons.injEq] at hm
        exact ⟨d :: c :: r, by simp [hm.1, hm.2.1, hm.2.2], List.Perm.swap _ _ _⟩
  | trans _ _ ih1 ih2 =>
    intro m hm
    obtain ⟨m1, h1, h2⟩ := ih2 m hm
    obtain ⟨m2, h3, h4⟩ := ih1 m1 h1
    exact ⟨m2, h3, h4.trans h2⟩

end Go.Proofs.Ytkobkilfbbalaaa

namespace Go.Proofs.Ytkobkilfbbalaaa
open Go.RowKit Go.Sort Go.Maps

def InInt (t : Int) : Prop := -9223372036854775808 ≤ t ∧ t ≤ 9223372036854775807

theorem tdiv_range {t w : Int} (ht : InInt t) (hw : 1 ≤ w) : InInt (t.tdiv w) := by
  unfold InInt at *
  have h1 : (t.tdiv w).natAbs ≤ t.natAbs := by
    rw [Int.natAbs_tdiv]
    exact Nat.div_le_self _ _
  rcases Int.le_total 0 t with h | h
  · have := Int.tdiv_nonneg h (by omega : 0 ≤ w)
    omega
  · have : t.tdiv w ≤ 0 := by
      have := Int.tdiv_nonneg (a := -t) (b := w) (by omega) (by omega)
      rw [Int.neg_tdiv] at this
      omega
    omega

theorem wf_i64 {t : Int} (h : InInt t) : (Lit.int .i64 t).wf = true := by
  unfold InInt at h
  exact WalkArith.wf_i64 h

set_option maxRecDepth 100000 in
set_option maxHeartbeats 4000000 in
theorem dayOf_found (w : World) (B qb mb : Nat) (dv : Value) (n : Nat) (ds : List Day) (rest : Array Value) (Tq : TypeId) (width count pushed t : Int) (x : Day)
    (h : QCore w B qb mb dv n ds rest Tq width count pushed) (hw1 : 1 ≤ width) (hw2 : width ≤ 100) (ht : InInt t) (hx : x ∈ ds) (hd : x.date = t.tdiv width) :
    Calls Try.prog 60 #[.pointer (some ⟨qb, 0, none⟩), .int .i64 t] w fun e w' => e = .returned (.pointer (some ⟨x.kb, 0, none⟩)) ∧ w' = w := by
  obtain ⟨D, hown, hM⟩ := h.map
  obtain ⟨hhas, hat⟩ := hM.at_ x hx
  have hdr := tdiv_range ht hw1
  rw [hd] at hhas hat
  obtain ⟨f0, _, _, _, f4⟩ := five_get (.int .i64 width) (.int .i64 count) (.int .i64 pushed) dv (.map (some mb)) rest
  have c0 : w.cell? ⟨qb, 0, none⟩ = some (.int .i64 width) := (h.blk.cell 0).trans f0
  have c4 : w.cell? ⟨qb, 4, none⟩ = some (.map (some mb)) := (h.blk.cell 4).trans f4
  have ht1 := ht.1
  have ht2 := ht.2
  have hw0 : (width == 0) = false := beq_eq_false_iff_ne.2 (by omega)
  have hkey := keyOf_int_mk (P := Try.prog) Try.underlying3 (wf_i64 hdr)
  obtain ⟨v, ps, hrun, hv⟩ := hown.look_ok key_law Try.underlying96 (zero_dayp w) (zd := .nil) (zp := []) rfl hkey
  rw [hat] at hv
  rw [hhas, dayR_inv hv] at hrun
  clear h hM ht hd hv hat hhas hown hdr hkey f0 f4
  go_enter Try.func60, Try.ntmps60
  go_wp2
  go_ret
  exact ⟨rfl, rfl⟩

theorem keyLit_ne {a b : Int} (h : a ≠ b) : (Lit.int .i64 a) ≠ (Lit.int .i64 b) := by intro e; cases e; exact h rfl

theorem isKey_int (a : Int) : WideAt.IsKeyLit (.int .i64 a) := by trivial

/-- the days of a queue to which a new, empty day has come -/
theorem QCore.addDay {w w2 w3 : World} {B qb mb : Nat} {dv dv' : Value} {n : Nat} {ds : List Day} {rest : Array Value} {Tq : TypeId} {width count pushed t : Int} {D : DataW Nat} {d' : List Dy}
    (h : QCore w B qb mb dv n ds rest Tq width count pushed) (hBw : B ≤ w.heap.size) (hnew : ∀ y ∈ ds, y.date ≠ t) (hM : MapIs D ds)
    (hm2 : w2.ownsMap Try.prog 3 dayR mb (n + 1) (D.put (.int .i64 t) (.held w.heap.size))) (hD : IsMap D)
    (k2 : KeptF (fun i => i = mb) w w2) (hs2 : w.heap.size < w2.heap.size) (hx2 : Blk w2 w.heap.size #[.int .i64 t, .slice none 0 0] 151)
    (hb3 : Blk w3 qb (#[.int .i64 width, .int .i64 count, .int .i64 pushed, dv', .map (some mb)] ++ rest) Tq) (hd3 : DSl w3 B dv' d') (hP : d'.Perm (ds.map Day.dy ++ [⟨w.heap.size, t⟩])) (hH : HeapL Dy.ltB d')
    (k3 : KeptF (fun i => i = qb ∨ dv.ownBlock = some i) w2 w3) (hg : ∃ g, dv'.ownBlock = some g ∧ (dv.ownBlock = some g ∨ w2.heap.size ≤ g)) :
    ∃ ds', QCore w3 B qb mb dv' (n + 1) ds' rest Tq width count pushed ∧ ds'.Perm (ds ++ [⟨w.heap.size, t, .slice none 0 0, []⟩]) := by
  have A := h.apart
  obtain ⟨g, hg1, hg2⟩ := hg
  have hP' : d'.Perm ((ds ++ [(⟨w.heap.size, t, .slice none 0 0, []⟩ : Day)]).map Day.dy) := by simpa [Day.dy] using hP
  obtain ⟨ds', e1, p1⟩ := perm_map_inv Day.dy hP' _ rfl
  have hmem : ∀ {y : Day}, y ∈ ds' → y ∈ ds ∨ y = ⟨w.heap.size, t, .slice none 0 0, []⟩ := by
    intro y hy
    have := p1.mem_iff.1 hy
    simpa using this
  have hlt : ∀ {k}, Foot qb mb dv ds k → k < w.heap.size := fun hk => (h.foot_lt hk).2
  have hqb : qb < w.heap.size := hlt (.inl rfl)
  have hmb : mb < w.heap.size := hlt (.inr (.inl rfl))
  have hgne : ∀ k, k < w2.heap.size → dv.ownBlock ≠ some k → g ≠ k := by
    intro k hk hne e
    subst e
    rcases hg2 with h1 | h1
    · exact hne h1
    · omega
  have hdvne : ∀ k, k < w2.heap.size → dv.ownBlock ≠ some k → dv'.ownBlock ≠ some k := by
    intro k hk hne e
    rw [hg1] at e
    exact hgne k hk hne (by simpa using e)
  have hdvx : dv.ownBlock ≠ some w.heap.size := fun e => by have := hlt (.inr (.inr (.inl e))); omega
  refine ⟨ds', ⟨hb3, ⟨_, ownsMap_keep hm2 k3 ?_, ⟨fun y hy => ?_, fun t' ht' => ?_⟩⟩, by rw [e1]; exact hd3, by rw [e1]; exact hH, fun y hy => ?_, ?_, h.lowq, h.lowm, fun y hy => ?_, ?_⟩, p1⟩
  · rintro (e | e)
    · exact A.qm e.symm
    · exact A.dm e
  · rcases hmem hy with hy | rfl
    · have hne := keyLit_ne (hnew y hy)
      rw [has_put_other hne]
      refine ⟨(hM.at_ y hy).1, fun z => ?_⟩
      rw [atKey_put_other hne]
      exact (hM.at_ y hy).2 z
    · exact ⟨has_put_same hD (isKey_int _) _, fun z => atKey_put_same hD (isKey_int _) _ z⟩
  · have hx := ht' ⟨w.heap.size, t, .slice none 0 0, []⟩ (p1.mem_iff.2 (by simp))
    rw [has_put_other (keyLit_ne (fun e => hx e.symm))]
    exact hM.not t' (fun y hy => ht' y (p1.mem_iff.2 (by simp [hy])))
  · rcases hmem hy with hy | rfl
    · obtain ⟨h1, h2, h3⟩ := h.each y hy
      refine ⟨(h1.keep k2 (A.kq y hy).2.1).keep k3 ?_, (h2.keep k2 (fun g' hg' e => (A.iq y hy).2.1 (by rw [hg', e]))).keep k3 (fun g' hg' => ?_), h3⟩
      · rintro (e | e)
        · exact (A.kq y hy).1 e
        · exact (A.kq y hy).2.2 e
      · rintro (e | e)
        · exact (A.iq y hy).1 (by rw [hg', e])
        · exact (A.iq y hy).2.2 g' hg' e
    · refine ⟨hx2.keep k3 ?_, ESl.nil _ _, fun k x y _ hx => by simp at hx⟩
      rintro (e | e)
      · have e' : w.heap.size = qb := e
        omega
      · exact hdvx e
  · have hp : (ds'.map Day.date).Perm ((ds ++ [(⟨w.heap.size, t, .slice none 0 0, []⟩ : Day)]).map Day.date) := p1.map _
    rw [hp.nodup_iff]
    simp only [List.map_append, List.map_cons, List.map_nil]
    rw [List.nodup_append]
    refine ⟨h.nodup, by simp, fun a ha b hb e => ?_⟩
    obtain ⟨y, hy, rfl⟩ := List.mem_map.1 ha
    simp only [List.mem_cons, List.not_mem_nil, or_false] at hb
    exact hnew y hy (e.trans hb)
  · rcases hmem hy with hy | rfl
    · exact h.lowk y hy
    · exact hBw
  · refine ⟨A.qm, hdvne qb (by omega) A.dq, hdvne mb (by omega) A.dm, fun y hy => ?_, fun y hy => ?_, fun y hy z hz => ?_, fun y hy z hz hne => ?_⟩
    · rcases hmem hy with hy | rfl
      · have := hlt (.inr (.inr (.inr ⟨y, hy, .inl rfl⟩)))
        exact ⟨(A.kq y hy).1, (A.kq y hy).2.1, hdvne y.kb (by omega) (A.kq y hy).2.2⟩
      · exact ⟨by simp only; omega, by simp only; omega, hdvne _ hs2 hdvx⟩
    · rcases hmem hy with hy | rfl
      · refine ⟨(A.iq y hy).1, (A.iq y hy).2.1, fun g' hg' => hdvne g' ?_ ((A.iq y hy).2.2 g' hg')⟩
        have := hlt (.inr (.inr (.inr ⟨y, hy, .inr hg'⟩)))
        omega
      · exact ⟨by simp [Value.ownBlock], by simp [Value.ownBlock], fun g' hg' => by simp [Value.ownBlock] at hg'⟩
    · rcases hmem hy with hy | rfl
      · rcases hmem hz with hz | rfl
        · exact A.ik y hy z hz
        · intro e
          have : w.heap.size < w.heap.size := hlt (.inr (.inr (.inr ⟨y, hy, .inr e⟩)))
          omega
      · simp [Value.ownBlock]
    · rcases hmem hy with hy | rfl
      · rcases hmem hz with hz | rfl
        · exact A.xy y hy z hz hne
        · have := hlt (.inr (.inr (.inr ⟨y, hy, .inl rfl⟩)))
          exact ⟨by simp only; omega, fun g' _ => by simp [Value.ownBlock]⟩
      · rcases hmem hz with hz | rfl
        · have := hlt (.inr (.inr (.inr ⟨z, hz, .inl rfl⟩)))
          exact ⟨by simp only; omega, fun g' hg' => by simp [Value.ownBlock] at hg'⟩
        · exact absurd rfl hne

set_option maxRecDepth 100000 in
set_option maxHeartbeats 4000000 in
theorem dayOf_new (w : World) (B qb mb : Nat) (dv : Value) (n : Nat) (ds : List Day) (rest : Array Value) (Tq : TypeId) (width count pushed t : Int)
    (h : QCore w B qb mb dv n ds rest Tq width count pushed) (hBw : B ≤ w.heap.size) (hw1 : 1 ≤ width) (hw2 : width ≤ 100) (ht : InInt t) (hnew : ∀ y ∈ ds, y.date ≠ t.tdiv width) (hn : n ≤ 2932031007317) (hl : ds.length + 1 ≤ 2932031007317) :
    Calls Try.prog 60 #[.pointer (some ⟨qb, 0, none⟩), .int .i64 t] w fun e w' => e = .returned (.pointer (some ⟨w.heap.size, 0, none⟩)) ∧
      ∃ dv' ds', QCore w' B qb mb dv' (n + 1) ds' rest Tq width count pushed ∧ ds'.Perm (ds ++ [⟨w.heap.size, t.tdiv width, .slice none 0 0, []⟩]) ∧ KeptF (fun i => i = qb ∨ i = mb ∨ dv.ownBlock = some i) w w' ∧ (∃ g, dv'.ownBlock = some g ∧ (dv.ownBlock = some g ∨ w.heap.size ≤ g)) := by
  obtain ⟨D, hown, hM⟩ := h.map
  have hhas := hM.not _ hnew
  have hdr := tdiv_range ht hw1
  have A := h.apart
  obtain ⟨f0, f1, f2, f3, f4⟩ := five_get (.int .i64 width) (.int .i64 count) (.int .i64 pushed) dv (.map (some mb)) rest
  have c0 : w.cell? ⟨qb, 0, none⟩ = some (.int .i64 width) := (h.blk.cell 0).trans f0
  have c4 : w.cell? ⟨qb, 4, none⟩ = some (.map (some mb)) := (h.blk.cell 4).trans f4
  have hqb := h.blk.lt
  have ht1 := ht.1
  have ht2 := ht.2
  have hw0 : (width == 0) = false := beq_eq_false_iff_ne.2 (by omega)
  have hkey := keyOf_int_mk (P := Try.prog) Try.underlying3 (wf_i64 hdr)
  obtain ⟨v, ps, hrun, hv⟩ := hown.look_ok key_law Try.underlying96 (zero_dayp w) (zd := .nil) (zp := []) rfl hkey
  rw [atKey_of_not_has hhas] at hv
  have hv0 : v = .pointer none := by
    unfold dayR at hv
    split at hv
    · rfl
    · split at hv <;> simp at hv
    · cases hv
  rw [hhas, hv0] at hrun
  obtain ⟨w2, hrun2, hown2, hturn⟩ := (hown.alloc (.cells #[.int .i64 (t.tdiv width), .slice none 0 0] 151)).store key_law Try.underlying96 (by unfold maxLen; omega) hkey (dayR_mk w.heap.size)
  have hgr := hturn.grown
  have k2 : KeptF (fun i => i = mb) w w2 := ((KeptF.refl _ w).alloc _).trans' (KeptF.of_grown (F := fun i => i = mb) hgr (fun k e _ => by cases e; rfl)) (fun _ _ e => e)
  have hs2 : w.heap.size < w2.heap.size := by have := hgr.size; simp at this; omega
  have hx2 : Blk w2 w.heap.size #[.int .i64 (t.tdiv width), .slice none 0 0] 151 := by
    have hb : Blk (w.alloc (.cells #[.int .i64 (t.tdiv width), .slice none 0 0] 151)) w.heap.size #[.int .i64 (t.tdiv width), .slice none 0 0] 151 := heap_alloc_new w _
    refine hb.keep (KeptF.of_grown (F := fun i => i = mb) hgr (fun k e _ => by cases e; rfl)) ?_
    have := (h.foot_lt (k := mb) (.inr (.inl rfl))).2
    omega
  have hq2 := h.blk.keep k2 A.qm
  have c34 : w2.cell? ⟨qb, 4, none⟩ = some (.map (some mb)) := (hq2.cell 4).trans f4
  have hpush := pushD_any qb 3 B Tq _ dv (ds.map Day.dy) ⟨w.heap.size, t.tdiv width⟩ w2 hq2 f3 (h.days.keep k2 (fun g hg e => A.dm (by rw [hg, e]))) (by omega) A.dq (by simpa using hl) h.heap
    (by
      intro e he
      rcases List.mem_append.1 he with he | he
      · obtain ⟨y, hy, rfl⟩ := List.mem_map.1 he
        show w2.cell? ⟨y.kb, 0, none⟩ = some (.int .i64 y.date)
        rw [((h.each y hy).1.keep k2 (A.kq y hy).2.1).cell]
        rfl
      · simp only [List.mem_cons, List.not_mem_nil, or_false] at he
        subst he
        rw [hx2.cell]
        rfl)
    (by
      intro e he
      rcases List.mem_append.1 he with he | he
      · obtain ⟨y, hy, rfl⟩ := List.mem_map.1 he
        exact ⟨(A.kq y hy).1, (A.kq y hy).2.2⟩
      · simp only [List.mem_cons, List.not_mem_nil, or_false] at he
        subst he
        refine ⟨by simp only; omega, fun e => ?_⟩
        have := (h.foot_lt (.inr (.inr (.inl e)))).2
        simp only at this
        omega)
  have Hd : Hid (IsMap D) := hown.isMap
  clear hv hkey f0 f1 f2 f3 f4 hown hturn
  go_enter Try.func60, Try.ntmps60
  go_wp2_with fail
  refine hpush.mono ?_
  rintro e w3 ⟨rfl, dv', d', hb3, hd3, hP, hH, k3, hg⟩
  rw [(five_set _ _ _ _ _ dv' rest).2.2] at hb3
  obtain ⟨ds', hQ, hPd⟩ := h.addDay hBw hnew hM hown2 Hd.out k2 hs2 hx2 hb3 hd3 hP hH k3 hg
  clear hpush hrun hrun2
  go_wp2
  go_ret
  refine ⟨rfl, dv', ds', hQ, hPd, ?_, ?_⟩
  · refine (k2.weaken (fun _ _ e => .inr (.inl e))).trans' k3 (fun i _ e => ?_)
    rcases e with e | e
    · exact .inl e
    · exact .inr (.inr e)
  · obtain ⟨g, h1, h2⟩ := hg
    refine ⟨g, h1, h2.imp id (fun h => ?_)⟩
    omega

end Go.Proofs.Ytkobkilfbbalaaa

namespace Go.Proofs.Ytkobkilfbbalaaa
open Go.RowKit Go.Sort Go.Maps

def allEs (ds : List Day) : List Ent := ds.flatMap Day.es

/-- what dayOf leaves: the day asked for, among the others -/
structure DayGot (w w' : World) (B qb mb : Nat) (dv dv' : Value) (n n' : Nat) (ds l1 l2 : List Day) (x : Day) (rest : Array Value) (Tq : TypeId) (width count pushed t : Int) : Prop where
  core : QCore w' B qb mb dv' n' (l1 ++ x :: l2) rest Tq width count pushed
  date : x.date = t.tdiv width
  nle : n' ≤ n + 1
  kept : KeptF (Foot qb mb dv ds) w w'
  foot : ∀ k, Foot qb mb dv' (l1 ++ x :: l2) k → Foot qb mb dv ds k ∨ w.heap.size ≤ k
  all : (allEs (l1 ++ x :: l2)).Perm (allEs ds)
  others : ∀ y ∈ l1 ++ l2, y ∈ ds
  own : x ∈ ds ∨ x.es = []
  len : (l1 ++ l2).length ≤ ds.length

theorem dayOf_any (w : World) (B qb mb : Nat) (dv : Value) (n : Nat) (ds : List Day) (rest : Array Value) (Tq : TypeId) (width count pushed t : Int)
    (h : QCore w B qb mb dv n ds rest Tq width count pushed) (hBw : B ≤ w.heap.size) (hw1 : 1 ≤ width) (hw2 : width ≤ 100) (ht : InInt t) (hn : n ≤ 2932031007317) (hl : ds.length + 1 ≤ 2932031007317) :
    Calls Try.prog 60 #[.pointer (some ⟨qb, 0, none⟩), .int .i64 t] w fun e w' => ∃ dv' n' l1 l2 x, e = .returned (.pointer (some ⟨x.kb, 0, none⟩)) ∧ DayGot w w' B qb mb dv dv' n n' ds l1 l2 x rest Tq width count pushed t := by
  by_cases hf : ∃ x ∈ ds, x.date = t.tdiv width
  · obtain ⟨x, hx, hd⟩ := hf
    obtain ⟨l1, l2, rfl⟩ := List.append_of_mem hx
    refine (dayOf_found w B qb mb dv n _ rest Tq width count pushed t x h hw1 hw2 ht hx hd).mono ?_
    rintro e w' ⟨rfl, rfl⟩
    refine ⟨dv, n, l1, l2, x, rfl, h, hd, by omega, KeptF.refl _ _, fun k hk => .inl hk, List.Perm.refl _, fun y hy => ?_, .inl hx, by simp⟩
    rcases List.mem_append.1 hy with hy | hy
    · exact List.mem_append_left _ hy
    · exact List.mem_append_right _ (List.mem_cons_of_mem _ hy)
  · have hnew : ∀ y ∈ ds, y.date ≠ t.tdiv width := fun y hy e => hf ⟨y, hy, e⟩
    refine (dayOf_new w B qb mb dv n ds rest Tq width count pushed t h hBw hw1 hw2 ht hnew hn hl).mono ?_
    rintro e w' ⟨rfl, dv', ds', hQ, hP, hK, g, hg1, hg2⟩
    have hx : (⟨w.heap.size, t.tdiv width, .slice none 0 0, []⟩ : Day) ∈ ds' := hP.mem_iff.2 (by simp)
    obtain ⟨l1, l2, rfl⟩ := List.append_of_mem hx
    have hP2 : (l1 ++ l2).Perm ds := by
      have h1 : ((⟨w.heap.size, t.tdiv width, .slice none 0 0, []⟩ : Day) :: (l1 ++ l2)).Perm (l1 ++ ⟨w.heap.size, t.tdiv width, .slice none 0 0, []⟩ :: l2) := List.perm_middle.symm
      have h2 : (ds ++ [(⟨w.heap.size, t.tdiv width, .slice none 0 0, []⟩ : Day)]).Perm (⟨w.heap.size, t.tdiv width, .slice none 0 0, []⟩ :: ds) := List.perm_append_singleton _ _
      exact ((h1.trans hP).trans h2).cons_inv
    refine ⟨dv', n + 1, l1, l2, _, rfl, hQ, rfl, Nat.le_refl _, ?_, ?_, ?_, fun y hy => hP2.mem_iff.1 hy, .inr rfl, by rw [hP2.length_eq]; exact Nat.le_refl _⟩
    · refine hK.weaken (fun i _ hi => ?_)
      rcases hi with hi | hi | hi
      · exact .inl hi
      · exact .inr (.inl hi)
      · exact .inr (.inr (.inl hi))
    · intro k hk
      rcases hk with hk | hk | hk | ⟨y, hy, hk⟩
      · exact .inl (.inl hk)
      · exact .inl (.inr (.inl hk))
      · rw [hg1] at hk
        cases hk
        rcases hg2 with h1 | h1
        · exact .inl (.inr (.inr (.inl h1)))
        · exact .inr h1
      · have := hP.mem_iff.1 hy
        rcases List.mem_append.1 this with hy | hy
        · exact .inl (.inr (.inr (.inr ⟨y, hy, hk⟩)))
        · simp only [List.mem_cons, List.not_mem_nil, or_false] at hy
          subst hy
          rcases hk with hk | hk
          · exact .inr (Nat.le_of_eq hk.symm)
          · simp [Value.ownBlock] at hk
    · have := hP.flatMap_right Day.es
      unfold allEs
      refine this.trans ?_
      simp

def Filled (width : Int) (ds : List Day) : Prop := ∀ y ∈ ds, y.es ≠ [] ∧ ∀ e ∈ y.es, e.it.t.tdiv width = y.date

/-- what stands in the world behind dayOf, for the rest of Push -/
theorem DayGot.facts {w w' : World} {B qb mb : Nat} {dv dv' : Value} {n n' : Nat} {ds l1 l2 : List Day} {x : Day} {rest : Array Value} {Tq : TypeId} {width count pushed t : Int} (G : DayGot w w' B qb mb dv dv' n n' ds l1 l2 x rest Tq width count pushed t)
    {ib T : Nat} {a b c d : Value} (hi : Blk w ib #[a, b, c, d] T) (hn : ¬ Foot qb mb dv ds ib) :
    w'.cell? ⟨qb, 2, none⟩ = some (.int .i64 pushed) ∧ w'.cell? ⟨ib, 0, none⟩ = some a ∧ w'.cell? ⟨ib, 1, none⟩ = some b ∧ w'.cell? ⟨ib, 2, none⟩ = some c ∧ w'.cell? ⟨ib, 3, none⟩ = some d := by
  have hi' := hi.keep G.kept hn
  refine ⟨(G.core.blk.cell 2).trans (five_get _ _ _ _ _ rest).2.2.1, ?_, ?_, ?_, ?_⟩ <;> (rw [hi'.cell]; rfl)

/-- the core behind the push into the day -/
theorem DayGot.pushed {w w' w2 : World} {B qb mb : Nat} {dv dv' : Value} {n n' : Nat} {ds l1 l2 : List Day} {x : Day} {rest : Array Value} {Tq : TypeId} {width count pushed : Int} {e : Ent} (G : DayGot w w' B qb mb dv dv' n n' ds l1 l2 x rest Tq width count pushed e.it.t)
    {iv' : Value} {es' : List Ent} (hF : Filled width ds) (hb2 : Blk w2 x.kb ((#[.int .i64 x.date, x.iv] : Array Value).setIfInBounds 1 iv') 151) (hE2 : ESl w2 B iv' es') (hP2 : es'.Perm (x.es ++ [e])) (hH2 : HeapL Ent.ltB es')
    (hK2 : KeptF (fun k => k = x.kb ∨ x.iv.ownBlock = some k) w' w2) (hg2 : ∃ g, iv'.ownBlock = some g ∧ (x.iv.ownBlock = some g ∨ w'.heap.size ≤ g)) :
    ∃ ds', QCore w2 B qb mb dv' n' ds' rest Tq width count pushed ∧ (allEs ds').Perm (e :: allEs ds) ∧ Filled width ds' ∧ KeptF (Foot qb mb dv ds) w w2 ∧ (∀ k, Foot qb mb dv' ds' k → Foot qb mb dv ds k ∨ w.heap.size ≤ k) ∧ ds'.length ≤ ds.length + 1 := by
  obtain ⟨g, hg1, hg3⟩ := hg2
  have hg' : ∀ k, iv'.ownBlock = some k → x.iv.ownBlock = some k ∨ w'.heap.size ≤ k := fun k hk => by rw [hg1] at hk; cases hk; exact hg3
  have hb3 : Blk w2 x.kb #[.int .i64 x.date, iv'] 151 := hb2
  have hQ := G.core.replace hK2 hb3 hE2 hH2 hg'
  have hxm : x ∈ l1 ++ x :: l2 := by simp
  refine ⟨_, hQ, ?_, ?_, ?_, ?_, ?_⟩
  · have h1 : (allEs (l1 ++ (⟨x.kb, x.date, iv', es'⟩ : Day) :: l2)).Perm (e :: allEs (l1 ++ x :: l2)) := by
      simp only [allEs, List.flatMap_append, List.flatMap_cons]
      have h2 : (es' ++ List.flatMap Day.es l2).Perm (e :: (x.es ++ List.flatMap Day.es l2)) := by
        have := (hP2.trans (List.perm_append_singleton e x.es)).append_right (List.flatMap Day.es l2)
        simpa using this
      exact (h2.append_left _).trans List.perm_middle
    exact h1.trans (G.all.cons e)
  · intro y hy
    rcases List.mem_append.1 hy with hy | hy
    · exact hF y (G.others y (List.mem_append_left _ hy))
    · rcases List.mem_cons.1 hy with hy | hy
      · subst hy
        refine ⟨fun h0 => ?_, fun e' he' => ?_⟩
        · have h0' : es' = [] := h0
          have := hP2.length_eq
          rw [h0'] at this
          simp at this
        · have := hP2.mem_iff.1 he'
          rcases List.mem_append.1 this with h1 | h1
          · rcases G.own with h2 | h2
            · exact (hF x h2).2 e' h1
            · rw [h2] at h1; simp at h1
          · simp only [List.mem_cons, List.not_mem_nil, or_false] at h1
            subst h1
            exact G.date.symm
      · exact hF y (G.others y (List.mem_append_right _ hy))
  · refine G.kept.trans' hK2 (fun i hi hi' => ?_)
    have : Foot qb mb dv' (l1 ++ x :: l2) i := .inr (.inr (.inr ⟨x, hxm, hi'⟩))
    rcases G.foot i this with h1 | h1
    · exact h1
    · omega
  · intro k hk
    rcases Foot.replace hg' hk with h1 | h1
    · exact G.foot k h1
    · exact .inr (Nat.le_trans G.kept.size h1)
  · have := G.len
    simp only [List.length_append, List.length_cons] at this ⊢
    omega

set_option maxRecDepth 100000 in
set_option maxHeartbeats 16000000 in
theorem qpush_any (w : World) (B qb mb : Nat) (dv : Value) (n : Nat) (ds : List Day) (rest : Array Value) (Tq : TypeId) (width : Int) (count pushed : Nat) (i : It)
    (h : QCore w B qb mb dv n ds rest Tq width count pushed) (hF : Filled width ds) (hBw : B ≤ w.heap.size) (hw1 : 1 ≤ width) (hw2 : width ≤ 100) (ht : InInt i.t) (hn : n ≤ 2932031007317) (hl : ds.length + 1 ≤ 2932031007317)
    (hc : count < 2932031007317) (hp : pushed < 2932031007317) (hlen : ∀ x ∈ ds, x.es.length + 1 ≤ 2932031007317) :
    Calls Try.prog 31 #[.pointer (some ⟨qb, 0, none⟩), .agg #[.int .i64 i.t, .int .i64 i.f, .int .i64 i.s, .int .i64 i.l]] w fun e w' => e = .returned (.tuple #[]) ∧
      ∃ dv' n' ds', QCore w' B qb mb dv' n' ds' rest Tq width ((count + 1 : Nat) : Int) ((pushed + 1 : Nat) : Int) ∧ n' ≤ n + 1 ∧ (allEs ds').Perm (⟨i, pushed⟩ :: allEs ds) ∧ Filled width ds' ∧ KeptF (Foot qb mb dv ds) w w' ∧ (∀ k, Foot qb mb dv' ds' k → Foot qb mb dv ds k ∨ w.heap.size ≤ k) ∧ ds'.length ≤ ds.length + 1 := by
  have hW0 := h.keep (w' := (w.alloc (.cells #[.int .i64 i.t, .int .i64 i.f, .int .i64 i.s, .int .i64 i.l] 102)).drew) ((KeptF.refl (fun _ => False) w).alloc _).drew (fun _ _ h => h)
  have hday := dayOf_any _ B qb mb dv n ds rest Tq width count pushed i.t hW0 (by simp; omega) hw1 hw2 ht hn hl
  have hib : Blk (w.alloc (.cells #[.int .i64 i.t, .int .i64 i.f, .int .i64 i.s, .int .i64 i.l] 102)).drew w.heap.size #[.int .i64 i.t, .int .i64 i.f, .int .i64 i.s, .int .i64 i.l] 102 := heap_alloc_new w _
  have hnf : ¬ Foot qb mb dv ds w.heap.size := fun hk => by have := (h.foot_lt hk).2; omega
  have hk0 : KeptF (Foot qb mb dv ds) w (w.alloc (.cells #[.int .i64 i.t, .int .i64 i.f, .int .i64 i.s, .int .i64 i.l] 102)).drew := ((KeptF.refl _ w).alloc _).drew
  have c2 : w.cell? ⟨qb, 2, none⟩ = some (.int .i64 pushed) := (h.blk.cell 2).trans (five_get _ _ _ _ _ rest).2.2.1
  have hqb := h.blk.lt
  clear hW0
  go_enter Try.func31, Try.ntmps31
  go_wp2
  go_region_with ((first
    | (go_at_call 60
       refine hday.mono ?_
       rintro e w1 ⟨dv', n', l1, l2, x, rfl, hG⟩
       obtain ⟨c2', i0, i1, i2, i3⟩ := hG.facts hib hnf)
    | (go_at_call 61
       refine (pushE_any x.kb 1 B 151 #[.int .i64 x.date, x.iv] x.iv x.es ⟨i, pushed⟩ w1 (hG.core.each x (by simp)).1 rfl (hG.core.each x (by simp)).2.1 ?_ (hG.core.apart.ik x (by simp) x (by simp)) ?_ (hG.core.each x (by simp)).2.2).mono ?_
       · exact Nat.le_trans hBw (Nat.le_trans hk0.size hG.kept.size)
       · rcases hG.own with h2 | h2
         · exact hlen x h2
         · rw [h2]; simp
       rintro e w2 ⟨rfl, iv', es', hb2, hE2, hP2, hH2, hK2, hg2⟩)))
  all_goals
    obtain ⟨ds', hQ, hA, hF', hK, hft, hlen'⟩ := DayGot.pushed (e := ⟨i, pushed⟩) hG hF hb2 hE2 hP2 hH2 hK2 hg2
    have q1 : w2.cell? ⟨qb, 1, none⟩ = some (.int .i64 count) := (hQ.blk.cell 1).trans (five_get _ _ _ _ _ rest).2.1
    have q2 : w2.cell? ⟨qb, 2, none⟩ = some (.int .i64 pushed) := (hQ.blk.cell 2).trans (five_get _ _ _ _ _ rest).2.2.1
    have qz := hQ.blk.frozen
    have Hn : Hid (n' ≤ n + 1) := hG.nle
    clear c2 c2' i0 i1 i2 i3 hday hb2 hE2 hP2 hH2 hK2 hg2 hG
    go_wp2
    go_end0
    have hb3 := (hQ.blk.set 2 (.int .i64 ((pushed : Int) + 1))).set 1 (.int .i64 ((count : Int) + 1))
    rw [(five_set _ _ _ _ _ (.int .i64 ((pushed : Int) + 1)) rest).2.1, (five_set _ _ _ _ _ (.int .i64 ((count : Int) + 1)) rest).1] at hb3
    have k3 : KeptF (fun k => k = qb) w2 ((w2.setCell ⟨qb, 2, none⟩ (.int .i64 ((pushed : Int) + 1))).setCell ⟨qb, 1, none⟩ (.int .i64 ((count : Int) + 1))) := ((KeptF.refl (fun k => k = qb) w2).setCell (p := ⟨qb, 2, none⟩) (.inl rfl) _).setCell (p := ⟨qb, 1, none⟩) (.inl rfl) _
    refine ⟨rfl, dv', n', ds', hQ.setNum hb3 k3, Hn.out, hA, hF', ?_, fun k hk => ?_, hlen'⟩
    · exact (hk0.trans hK).trans' k3 (fun k _ e => .inl e)
    · rcases hft k hk with h1 | h1
      · exact .inl h1
      · exact .inr (Nat.le_trans hk0.size h1)

end Go.Proofs.Ytkobkilfbbalaaa

namespace Go.Proofs.Ytkobkilfbbalaaa
open Go.RowKit Go.Sort Go.Maps

set_option maxRecDepth 100000 in
set_option maxHeartbeats 1000000 in
theorem len_any (w : World) (B qb mb : Nat) (dv : Value) (n : Nat) (ds : List Day) (rest : Array Value) (Tq : TypeId) (width : Int) (count pushed : Nat)
    (h : QCore w B qb mb dv n ds rest Tq width count pushed) :
    Calls Try.prog 16 #[.pointer (some ⟨qb, 0, none⟩)] w fun e w' => e = .returned (.int .i64 count) ∧ w' = w := by
  have c1 : w.cell? ⟨qb, 1, none⟩ = some (.int .i64 count) := (h.blk.cell 1).trans (five_get _ _ _ _ _ rest).2.1
  clear h
  go_enter Try.func16, Try.ntmps16
  go_wp2
  go_ret
  exact ⟨rfl, rfl⟩

/-- a queue that nothing was pushed into -/
theorem QCore.empty (w : World) (B qb mb : Nat) (width : Int) (Tq : TypeId) (rest : Array Value) (hB : B ≤ mb) (hBq : B ≤ qb) (hne : qb ≠ mb) (hm : w.heap[mb]? = some (.map #[] 0)) (hq : Blk w qb (#[.int .i64 width, .int .i64 0, .int .i64 0, .slice none 0 0, .map (some mb)] ++ rest) Tq) :
    QCore w B qb mb (.slice none 0 0) 0 [] rest Tq width ((0 : Nat) : Int) ((0 : Nat) : Int) := by
  refine ⟨hq, ⟨.map [], ?_, ⟨fun x hx => by simp at hx, fun t _ => rfl⟩⟩, DSl.nil _ _, fun k x y _ hx => by simp at hx, fun x hx => by simp at hx, by simp, hBq, hB, fun x hx => by simp at hx, ⟨hne, by simp [Value.ownBlock], by simp [Value.ownBlock], fun x hx => by simp at hx, fun x hx => by simp at hx, fun x hx => by simp at hx, fun x hx => by simp at hx⟩⟩
  obtain ⟨es, clock, hb, r⟩ := World.ownsMap_made (H := Nat) w Try.prog 3 dayR
  have : (w.alloc (.map #[] 0)).heap[w.heap.size]? = some (.map #[] 0) := heap_alloc_new w _
  rw [this] at hb
  cases hb
  exact ⟨_, _, hm, r⟩

set_option maxRecDepth 100000 in
set_option maxHeartbeats 1000000 in
theorem new_any (x : Int) (w : World) :
    Calls Try.prog 14 #[.int .i64 x] w fun e w' => e = .returned (.pointer (some ⟨w.heap.size + 1, 0, none⟩)) ∧ ∃ width : Int, 1 ≤ width ∧ width ≤ 100 ∧ w' = (w.alloc (.map #[] 0)).alloc (.cells #[.int .i64 width, .int .i64 0, .int .i64 0, .slice none 0 0, .map (some w.heap.size)] 100) := by
  have hmm := @run_makeMap Try.prog
  go_enter Try.func14, Try.ntmps14
  go_wp2
  all_goals (go_ret; exact ⟨rfl, _, by omega, by omega, rfl⟩)

set_option maxRecDepth 100000 in
set_option maxHeartbeats 1000000 in
theorem least_none (w : World) (B qb mb : Nat) (dv : Value) (n : Nat) (ds : List Day) (rest : Array Value) (Tq : TypeId) (width : Int) (pushed : Nat)
    (h : QCore w B qb mb dv n ds rest Tq width ((0 : Nat) : Int) pushed) :
    Calls Try.prog 35 #[.pointer (some ⟨qb, 0, none⟩)] w fun e w' => e = .returned (.tuple #[.agg #[.int .i64 0, .int .i64 0, .int .i64 0, .int .i64 0], .bool false]) ∧ Below w.heap.size w w' := by
  have c1 : w.cell? ⟨qb, 1, none⟩ = some (.int .i64 0) := (h.blk.cell 1).trans (five_get _ _ _ _ _ rest).2.1
  have hqb := h.blk.lt
  clear h
  go_enter Try.func35, Try.ntmps35
  go_wp2
  refine bodyPost_ret (v := .tuple #[.agg #[.int .i64 0, .int .i64 0, .int .i64 0, .int .i64 0], .bool false]) (by simp [results, Try.results35, go_sem]) rfl ⟨rfl, ?_⟩
  exact (Below.refl _ _).alloc (Nat.le_refl _) _

/-- where the least entry of a queue lies -/
theorem QCore.top {w : World} {B qb mb : Nat} {dv : Value} {n : Nat} {l : List Day} {x : Day} {rest : Array Value} {Tq : TypeId} {width count pushed : Int} {e : Ent} {r : List Ent}
    (h : QCore w B qb mb dv n (x :: l) rest Tq width count pushed) (he : x.es = e :: r) :
    ∃ g cap gi ci, dv = .slice (some ⟨g, 0, none⟩) (l.length + 1) cap ∧ x.iv = .slice (some ⟨gi, 0, none⟩) (r.length + 1) ci ∧ DArr w g 152 cap ((x :: l).map Day.dy) ∧ EArr w gi 156 ci x.es ∧ cap ≤ maxLen ∧ ci ≤ maxLen ∧ B ≤ g ∧ B ≤ gi := by
  rcases h.days.cases with ⟨_, h2⟩ | ⟨g, cap, h1, h2, h3, h4⟩
  · simp at h2
  · obtain ⟨_, hE, _⟩ := h.each x (by simp)
    rcases hE.cases with ⟨_, h6⟩ | ⟨gi, ci, h5, h6, h7, h8⟩
    · rw [he] at h6; simp at h6
    · exact ⟨g, cap, gi, ci, by simpa using h1, by rw [h5, he]; rfl, h4, h8, h3, h7, h2, h6⟩

set_option maxRecDepth 100000 in
set_option maxHeartbeats 1000000 in
theorem least_some (w : World) (B qb mb : Nat) (dv : Value) (n : Nat) (l : List Day) (x : Day) (rest : Array Value) (Tq : TypeId) (width : Int) (count pushed : Nat) (e : Ent) (r : List Ent)
    (h : QCore w B qb mb dv n (x :: l) rest Tq width count pushed) (hc : 0 < count) (he : x.es = e :: r) :
    Calls Try.prog 35 #[.pointer (some ⟨qb, 0, none⟩)] w fun e' w' => e' = .returned (.tuple #[.agg #[.int .i64 e.it.t, .int .i64 e.it.f, .int .i64 e.it.s, .int .i64 e.it.l], .bool true]) ∧ Below w.heap.size w w' := by
  obtain ⟨g, cap, gi, ci, rfl, hiv, hA, hE, _⟩ := h.top he
  have c1 : w.cell? ⟨qb, 1, none⟩ = some (.int .i64 count) := (h.blk.cell 1).trans (five_get _ _ _ _ _ rest).2.1
  have c3 : w.cell? ⟨qb, 3, none⟩ = some (.slice (some ⟨g, 0, none⟩) (l.length + 1) cap) := (h.blk.cell 3).trans (five_get _ _ _ _ _ rest).2.2.2.1
  have d0 : w.cell? ⟨g, 0, none⟩ = some (.pointer (some ⟨x.kb, 0, none⟩)) := hA.cells (j := 0) (e := x.dy) rfl
  have k1 : w.cell? ⟨x.kb, 1, none⟩ = some (.slice (some ⟨gi, 0, none⟩) (r.length + 1) ci) := by
    rw [(h.each x (by simp)).1.cell, ← hiv]; rfl
  obtain ⟨e0, e1, e2, e3, _⟩ := hE.cells (j := 0) (e := e) (by rw [he]; rfl)
  simp only [Nat.zero_mul, Nat.zero_add] at e0 e1 e2 e3
  have hqb := h.blk.lt
  have hgl := hA.lt
  have hgi := hE.lt
  have hkb := (h.each x (by simp)).1.lt
  have hc0 : ((count : Int) == 0) = false := beq_eq_false_iff_ne.2 (by omega)
  clear h hA hE hiv
  go_enter Try.func35, Try.ntmps35
  go_wp2
  refine bodyPost_ret (v := .tuple #[.agg #[.int .i64 e.it.t, .int .i64 e.it.f, .int .i64 e.it.s, .int .i64 e.it.l], .bool true]) (by simp [results, Try.results35, go_sem]) rfl ⟨rfl, ?_⟩
  exact (Below.refl _ _).alloc (Nat.le_refl _) _

end Go.Proofs.Ytkobkilfbbalaaa

