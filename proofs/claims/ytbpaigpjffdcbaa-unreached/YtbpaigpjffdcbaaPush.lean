/-
  The walks of heap.push: at entries, at days.
-/
import Derived.Test.YtbpaigpjffdcbaaSink
import Derived.Test.YtbpaigpjffdcbaaOwn
import Derived.Deep.RegionLaw
namespace Go.Proofs.Ytbpaigpjffdcbaa
open Go.RowKit Go.Sort

theorem info_ent : (Try.prog.info? 160).map (fun i => (i.zero, i.size, i.bytes)) = some (some (.agg #[.int .i64 0, .int .i64 0, .int .i64 0, .int .i64 0, .int .i64 0]), 5, 40) := by kernel_rfl
theorem info_dayp : (Try.prog.info? 156).map (fun i => (i.zero, i.size, i.bytes)) = some (some (.pointer none), 1, 8) := by kernel_rfl

theorem ESl.form {w : World} {B : Nat} {v : Value} {d : List Ent} (h : ESl w B v d) : ∃ ao cap, v = .slice ao d.length cap := by
  rcases h.cases with ⟨h1, h2⟩ | ⟨g, cap, h1, _⟩
  · subst h2; exact ⟨none, 0, h1⟩
  · exact ⟨_, _, h1⟩

theorem grownE {w W w' : World} {B kb o Tk : Nat} {c0 : Array Value} {v v' : Value} {d : List Ent} {x : Ent} (hk : Blk w kb c0 Tk) (hown' : w'.ownsRow B 160 5 v' (d.length + 1) (entsC d ++ entC x)) (hgr : W.grownBy w' v.ownBlock)
    (hfr : ∀ g, v'.ownBlock = some g → v.ownBlock = some g ∨ W.heap.size ≤ g) (hne : v.ownBlock ≠ some kb) (ho : c0[o]? = some v) (hW : KeptF (fun _ => False) w W) :
    ∃ g cap', v' = .slice (some ⟨g, 0, none⟩) (d.length + 1) cap' ∧ B ≤ g ∧ cap' ≤ maxLen ∧ g ≠ kb ∧ (v.ownBlock = some g ∨ w.heap.size ≤ g) ∧ EArr w' g 160 cap' (d ++ [x]) ∧ Blk w' kb c0 Tk ∧ KeptF (fun k => v.ownBlock = some k) w w' ∧ w'.cell? ⟨kb, o, none⟩ = some v ∧ w'.frozen? ⟨kb, o, none⟩ = false := by
  have e1 : entsC d ++ entC x = entsC (d ++ [x]) := by rw [entsC_append]; simp [entsC]
  have e2 : (d ++ [x]).length = d.length + 1 := by simp
  have hE : ESl w' B v' (d ++ [x]) := by unfold ESl; rw [e2, ← e1]; exact hown'
  have hK : KeptF (fun k => v.ownBlock = some k) w w' := (hW.weaken (fun _ _ h => h.elim)).trans (KeptF.of_grown hgr (fun k h _ => h))
  have hb := hk.keep hK hne
  rcases hE.cases with ⟨_, h2⟩ | ⟨g, cap, h1, h2, h3, h4⟩
  · simp at h2
  · have hg : v'.ownBlock = some g := by rw [h1]; rfl
    have hgo : v.ownBlock = some g ∨ w.heap.size ≤ g := by
      rcases hfr g hg with h | h
      · exact .inl h
      · exact .inr (Nat.le_trans hW.size h)
    refine ⟨g, cap, by rw [h1, e2], h2, h3, fun e => ?_, hgo, h4, hb, hK, (hb.cell o).trans ho, hb.frozen o⟩
    subst e
    rcases hgo with h | h
    · exact hne h
    · have := hk.lt; omega

set_option maxRecDepth 100000 in
set_option maxHeartbeats 4000000 in
theorem pushE_any (kb o B Tk : Nat) (c0 : Array Value) (v : Value) (d : List Ent) (x : Ent) (w : World)
    (hk : Blk w kb c0 Tk) (ho : c0[o]? = some v) (hE : ESl w B v d) (hB : B ≤ w.heap.size) (hne : v.ownBlock ≠ some kb) (hn : d.length + 1 ≤ 2932031007317) (hH : HeapL Ent.ltB d) :
    Calls Try.prog 69 #[.pointer (some ⟨kb, o, none⟩), .agg #[.int .i64 x.it.t, .int .i64 x.it.f, .int .i64 x.it.s, .int .i64 x.it.l, .int .i64 x.r]] w fun e w' => e = .returned (.tuple #[]) ∧
      ∃ v' d', Blk w' kb (c0.setIfInBounds o v') Tk ∧ ESl w' B v' d' ∧ d'.Perm (d ++ [x]) ∧ HeapL Ent.ltB d' ∧ KeptF (fun k => k = kb ∨ v.ownBlock = some k) w w' ∧ (∃ g, v'.ownBlock = some g ∧ (v.ownBlock = some g ∨ w.heap.size ≤ g)) := by
  obtain ⟨i0, hi, hz0, hz1, hz2⟩ := info_parts info_ent
  obtain ⟨ao, cap, rfl⟩ := hE.form
  have hc : w.cell? ⟨kb, o, none⟩ = some (.slice ao d.length cap) := (hk.cell o).trans ho
  have hfz : w.frozen? ⟨kb, o, none⟩ = false := hk.frozen o
  have hkl := hk.lt
  have hcells : ∀ o1 : Obj, ∀ j u, (entC x)[j]? = some u → (((w.alloc o1).alloc (.cells #[.int .i64 x.it.t, .int .i64 x.it.f, .int .i64 x.it.s, .int .i64 x.it.l, .int .i64 x.r] 160)).drew).cell? ((⟨w.heap.size + 1, 0, none⟩ : Addr).add j) = some u := by
    intro o1 j u hu
    have hb : Blk ((w.alloc o1).alloc (.cells #[.int .i64 x.it.t, .int .i64 x.it.f, .int .i64 x.it.s, .int .i64 x.it.l, .int .i64 x.r] 160)).drew (w.heap.size + 1) #[.int .i64 x.it.t, .int .i64 x.it.f, .int .i64 x.it.s, .int .i64 x.it.l, .int .i64 x.r] 160 := by
      have := heap_alloc_new (w.alloc o1) (.cells #[.int .i64 x.it.t, .int .i64 x.it.f, .int .i64 x.it.s, .int .i64 x.it.l, .int .i64 x.r] 160)
      rw [World.size_alloc] at this
      exact this
    have ha : ((⟨w.heap.size + 1, 0, none⟩ : Addr).add j) = ⟨w.heap.size + 1, j, none⟩ := by simp [Addr.add]; omega
    rw [ha, hb.cell, ← hu]
    simp [entC]
  have hone : ∀ k : Nat, ∀ u ∈ entC x, u.oneCell' = true := by
    intro _ u hu
    simp only [entC, List.mem_cons, List.not_mem_nil, or_false] at hu
    rcases hu with rfl | rfl | rfl | rfl | rfl <;> rfl
  go_enter Try.func69, Try.ntmps69
  go_wp2
  go_region_law ((
    refine step_append_own rfl (.tmp 7) (.tmp 9) 153 rfl B 160 i0 _ 5 40 Try.underlying153 hi hz0 hz1 hz2 rfl (by decide) (.slice ao d.length cap) d.length (entsC d) (by simp [Act.eval]) ?_ ⟨w.heap.size + 1, 0, none⟩ 1 1 (entC x) (by simp [Act.eval]) rfl ?_ ?_ ?_ ?_ ?_ ?_
    · exact ownsRow_keep hE (F := fun _ => False) (((KeptF.refl _ _).alloc _).alloc _).drew (fun _ _ h => h)
    · exact hcells _
    · exact hone 0
    · unfold maxLen; omega
    · omega
    · exact Nat.le_trans hB (KeptF.size (F := fun _ => False) (((KeptF.refl _ _).alloc _).alloc _).drew)
    intro v' w' hown' hgr hfr
    obtain ⟨g, cap', hv', hBg, hcm, hgk, hgo, hA, hkb', hK', hc', hf'⟩ := grownE hk hown' hgr hfr hne ho (KeptF.drew (KeptF.alloc (KeptF.alloc (KeptF.refl (fun _ => False) w) _) _))
    subst hv'))
  all_goals
    have hb2 := hkb'.set o (.slice (some ⟨g, 0, none⟩) (d.length + 1) cap')
    have hA2 : EArr (w'.setCell ⟨kb, o, none⟩ (.slice (some ⟨g, 0, none⟩) (d.length + 1) cap')) g 160 cap' (d ++ [x]) := hA.keep ((KeptF.refl (fun k => k = kb) _).setCell (p := ⟨kb, o, none⟩) (.inl rfl) _) hgk
    have hc2 : (w'.setCell ⟨kb, o, none⟩ (.slice (some ⟨g, 0, none⟩) (d.length + 1) cap')).cell? ⟨kb, o, none⟩ = some (.slice (some ⟨g, 0, none⟩) (d.length + 1) cap') := World.cell?_setCell_same _ _ _ hc'
    have hK2 : KeptF (fun k => k = kb ∨ (Value.slice ao d.length cap).ownBlock = some k) w (w'.setCell ⟨kb, o, none⟩ (.slice (some ⟨g, 0, none⟩) (d.length + 1) cap')) := (hK'.weaken (fun _ _ h => .inr h)).setCell (p := ⟨kb, o, none⟩) (.inl (.inl rfl)) _
    generalize w'.setCell ⟨kb, o, none⟩ (.slice (some ⟨g, 0, none⟩) (d.length + 1) cap') = w2 at *
    clear hc' hf' hown' hgr hfr hA hkb' hK' hc hfz hcells hone hE hk
    go_wp2
    refine still_tail' 8 (by kernel_rfl) (by kernel_rfl) ?_
    simp only [List.take_succ_cons, List.take_zero, List.drop_succ_cons, List.drop_zero]
    repeat still_step
    refine wpStill_nil ?_
    go_wp2_with fail
    refine (riseE_any g (d.length + 1) cap' 160 d.length (d ++ [x]) _ hA2.drew (by simp) (by omega) hn (RiseInv.push hH x)).mono ?_
    rintro e w3 ⟨rfl, d', hA3, hP, hH', hK3⟩
    go_wp2
    go_end0
    have hl : d'.length = d.length + 1 := by rw [hP.length_eq]; simp
    refine ⟨rfl, .slice (some ⟨g, 0, none⟩) (d.length + 1) cap', d', hb2.drew.keep hK3 (fun e => hgk e.symm), by rw [← hl]; exact ESl.mk hBg hcm hA3, hP, hH', hK2.drew.trans' hK3 (fun i hi e => ?_), g, rfl, hgo⟩
    subst e
    rcases hgo with h | h
    · exact .inr h
    · omega

theorem DSl.form {w : World} {B : Nat} {v : Value} {d : List Dy} (h : DSl w B v d) : ∃ ao cap, v = .slice ao d.length cap := by
  rcases h.cases with ⟨h1, h2⟩ | ⟨g, cap, h1, _⟩
  · subst h2; exact ⟨none, 0, h1⟩
  · exact ⟨_, _, h1⟩

theorem grownD {w W w' : World} {B kb o Tk : Nat} {c0 : Array Value} {v v' : Value} {d : List Dy} {x : Dy} (hk : Blk w kb c0 Tk) (hown' : w'.ownsRow B 156 1 v' (d.length + 1) (dayC d ++ dayC [x])) (hgr : W.grownBy w' v.ownBlock)
    (hfr : ∀ g, v'.ownBlock = some g → v.ownBlock = some g ∨ W.heap.size ≤ g) (hne : v.ownBlock ≠ some kb) (ho : c0[o]? = some v) (hW : KeptF (fun _ => False) w W) :
    ∃ g cap', v' = .slice (some ⟨g, 0, none⟩) (d.length + 1) cap' ∧ B ≤ g ∧ cap' ≤ maxLen ∧ g ≠ kb ∧ (v.ownBlock = some g ∨ w.heap.size ≤ g) ∧ DArr w' g 156 cap' (d ++ [x]) ∧ Blk w' kb c0 Tk ∧ KeptF (fun k => v.ownBlock = some k) w w' ∧ w'.cell? ⟨kb, o, none⟩ = some v ∧ w'.frozen? ⟨kb, o, none⟩ = false := by
  have e1 : dayC d ++ dayC [x] = dayC (d ++ [x]) := by simp [dayC]
  have e2 : (d ++ [x]).length = d.length + 1 := by simp
  have hE : DSl w' B v' (d ++ [x]) := by unfold DSl; rw [e2, ← e1]; exact hown'
  have hK : KeptF (fun k => v.ownBlock = some k) w w' := (hW.weaken (fun _ _ h => h.elim)).trans (KeptF.of_grown hgr (fun k h _ => h))
  have hb := hk.keep hK hne
  rcases hE.cases with ⟨_, h2⟩ | ⟨g, cap, h1, h2, h3, h4⟩
  · simp at h2
  · have hg : v'.ownBlock = some g := by rw [h1]; rfl
    have hgo : v.ownBlock = some g ∨ w.heap.size ≤ g := by
      rcases hfr g hg with h | h
      · exact .inl h
      · exact .inr (Nat.le_trans hW.size h)
    refine ⟨g, cap, by rw [h1, e2], h2, h3, fun e => ?_, hgo, h4, hb, hK, (hb.cell o).trans ho, hb.frozen o⟩
    subst e
    rcases hgo with h | h
    · exact hne h
    · have := hk.lt; omega

theorem Dated.keepF {F : Nat → Prop} {w w' : World} {d : List Dy} (h : Dated w d) (hK : KeptF F w w') (hF : ∀ e ∈ d, ¬ F e.kb) : Dated w' d := by
  intro e he
  rw [hK.cell (block_lt_of_cell (h e he)) (hF e he)]
  exact h e he

set_option maxRecDepth 100000 in
set_option maxHeartbeats 4000000 in
theorem pushD_any (kb o B Tk : Nat) (c0 : Array Value) (v : Value) (d : List Dy) (x : Dy) (w : World)
    (hk : Blk w kb c0 Tk) (ho : c0[o]? = some v) (hE : DSl w B v d) (hB : B ≤ w.heap.size) (hne : v.ownBlock ≠ some kb) (hn : d.length + 1 ≤ 2932031007317) (hH : HeapL Dy.ltB d)
    (hD : Dated w (d ++ [x])) (hx : ∀ e ∈ d ++ [x], e.kb ≠ kb ∧ v.ownBlock ≠ some e.kb) :
    Calls Try.prog 82 #[.pointer (some ⟨kb, o, none⟩), .pointer (some ⟨x.kb, 0, none⟩)] w fun e w' => e = .returned (.tuple #[]) ∧
      ∃ v' d', Blk w' kb (c0.setIfInBounds o v') Tk ∧ DSl w' B v' d' ∧ d'.Perm (d ++ [x]) ∧ HeapL Dy.ltB d' ∧ KeptF (fun k => k = kb ∨ v.ownBlock = some k) w w' ∧ (∃ g, v'.ownBlock = some g ∧ (v.ownBlock = some g ∨ w.heap.size ≤ g)) := by
  obtain ⟨i0, hi, hz0, hz1, hz2⟩ := info_parts info_dayp
  obtain ⟨ao, cap, rfl⟩ := hE.form
  have hc : w.cell? ⟨kb, o, none⟩ = some (.slice ao d.length cap) := (hk.cell o).trans ho
  have hfz : w.frozen? ⟨kb, o, none⟩ = false := hk.frozen o
  have hkl := hk.lt
  have hcells : ∀ j u, (dayC [x])[j]? = some u → (w.alloc (.cells #[.pointer (some ⟨x.kb, 0, none⟩)] 156)).cell? ((⟨w.heap.size, 0, none⟩ : Addr).add j) = some u := by
    intro j u hu
    have hb : Blk (w.alloc (.cells #[.pointer (some ⟨x.kb, 0, none⟩)] 156)) w.heap.size #[.pointer (some ⟨x.kb, 0, none⟩)] 156 := heap_alloc_new w _
    have ha : ((⟨w.heap.size, 0, none⟩ : Addr).add j) = ⟨w.heap.size, j, none⟩ := by simp [Addr.add]; omega
    rw [ha, hb.cell, ← hu]
    simp [dayC]
  have hone : ∀ u ∈ dayC [x], u.oneCell' = true := by
    intro u hu
    simp only [dayC, List.map_cons, List.map_nil, List.mem_cons, List.not_mem_nil, or_false] at hu
    rw [hu]; rfl
  go_enter Try.func82, Try.ntmps82
  go_wp2_with (at_builtin; refine wpList_append_ownX rfl (.tmp 7) (.tmp 9) 113 rfl B 156 i0 _ 1 8 Try.underlying113 hi hz0 hz1 hz2 rfl (by decide) (.slice ao d.length cap) d.length (dayC d) rfl ?own ⟨w.heap.size, 0, none⟩ 1 1 (dayC [x]) rfl rfl ?cells ?one ?b1 ?b2 ?hb ?k)
  case own => exact ownsRow_keep hE (F := fun _ => False) ((KeptF.refl _ _).alloc _) (fun _ _ h => h)
  case cells => exact hcells
  case one => exact hone
  case b1 => unfold maxLen; omega
  case b2 => omega
  case hb => simp; omega
  case k =>
    intro v' w' hown' hgr hfr
    obtain ⟨g, cap', hv', hBg, hcm, hgk, hgo, hA, hkb', hK', hc', hf'⟩ := grownD hk hown' hgr (fun g h => by have := hfr g h; simpa using this) hne ho (KeptF.alloc (KeptF.refl (fun _ => False) w) _)
    subst hv'
    go_wp2
    have hb2 := hkb'.set o (.slice (some ⟨g, 0, none⟩) (d.length + 1) cap')
    have hA2 : DArr (w'.setCell ⟨kb, o, none⟩ (.slice (some ⟨g, 0, none⟩) (d.length + 1) cap')) g 156 cap' (d ++ [x]) := hA.keep ((KeptF.refl (fun k => k = kb) _).setCell (p := ⟨kb, o, none⟩) (.inl rfl) _) hgk
    have hc2 : (w'.setCell ⟨kb, o, none⟩ (.slice (some ⟨g, 0, none⟩) (d.length + 1) cap')).cell? ⟨kb, o, none⟩ = some (.slice (some ⟨g, 0, none⟩) (d.length + 1) cap') := World.cell?_setCell_same _ _ _ hc'
    have hK2 : KeptF (fun k => k = kb ∨ (Value.slice ao d.length cap).ownBlock = some k) w (w'.setCell ⟨kb, o, none⟩ (.slice (some ⟨g, 0, none⟩) (d.length + 1) cap')) := (hK'.weaken (fun _ _ h => .inr h)).setCell (p := ⟨kb, o, none⟩) (.inl (.inl rfl)) _
    have hD2 := hD.keepF hK2 (fun e he h => by rcases h with h | h; exact (hx e he).1 h; exact (hx e he).2 h)
    have hg2 : ∀ e ∈ d ++ [x], e.kb ≠ g := by
      intro e he h
      rcases hgo with h1 | h1
      · exact (hx e he).2 (by rw [h]; exact h1)
      · have := block_lt_of_cell (hD e he)
        simp at this
        omega
    generalize w'.setCell ⟨kb, o, none⟩ (.slice (some ⟨g, 0, none⟩) (d.length + 1) cap') = w2 at *
    clear hc' hf' hown' hgr hfr hA hkb' hK' hc hfz hcells hone hE hk hD
    refine still_tail' 8 (by kernel_rfl) (by kernel_rfl) ?_
    simp only [List.take_succ_cons, List.take_zero, List.drop_succ_cons, List.drop_zero]
    repeat still_step
    refine wpStill_nil ?_
    go_wp2_with fail
    refine (riseD_any g (d.length + 1) cap' 156 d.length (d ++ [x]) _ hA2.drew hD2 hg2 (by simp) (by omega) hn (RiseInv.push hH x)).mono ?_
    rintro e w3 ⟨rfl, d', hA3, hP, hH', hK3⟩
    go_wp2
    go_end0
    have hl : d'.length = d.length + 1 := by rw [hP.length_eq]; simp
    refine ⟨rfl, .slice (some ⟨g, 0, none⟩) (d.length + 1) cap', d', hb2.drew.keep hK3 (fun e => hgk e.symm), by rw [← hl]; exact DSl.mk hBg hcm hA3, hP, hH', hK2.drew.trans' hK3 (fun i hi e => ?_), g, rfl, hgo⟩
    subst e
    rcases hgo with h | h
    · exact .inr h
    · omega

end Go.Proofs.Ytbpaigpjffdcbaa
