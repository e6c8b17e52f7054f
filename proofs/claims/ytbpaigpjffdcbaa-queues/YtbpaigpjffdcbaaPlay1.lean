/-
  One step of a queue beside its list: Push.
-/
import Derived.Test.YtbpaigpjffdcbaaPair
namespace Go.Proofs.Ytbpaigpjffdcbaa
open Go.RowKit Go.Sort Go.Maps

/-- what one step leaves -/
structure Step (w w' : World) (B qb mb : Nat) (dv dv' : Value) (ds ds' : List Day) (n' : Nat) (rest : Array Value) (Tq : TypeId) (width : Int) (pushed' : Nat) (lv lv' : Value) (l' : List It) (L' : List Ent) : Prop where
  pair : Pair w' B qb mb dv' n' ds' rest Tq width pushed' lv' l' L'
  kept : KeptF (PFoot qb mb dv ds lv) w w'
  foot : ∀ k, PFoot qb mb dv' ds' lv' k → PFoot qb mb dv ds lv k ∨ w.heap.size ≤ k

def StepPost (w : World) (B qb mb : Nat) (dv : Value) (ds : List Day) (rest : Array Value) (Tq : TypeId) (width : Int) (lv : Value) (P : Nat → List It → Prop) (e : Ending) (w' : World) : Prop :=
  ∃ dv' ds' n' pushed' lv' l' L', e = .returned (.tuple #[lv', .bool true]) ∧ Step w w' B qb mb dv dv' ds ds' n' rest Tq width pushed' lv lv' l' L' ∧ P pushed' l'

theorem kept_of_below {w w' : World} (h : Below w.heap.size w w') : KeptF (fun _ => False) w w' := KeptF.of_below h

/-- the pair behind a push into the queue and an append to the list -/
theorem Pair.pushed {w w3 w4 : World} {B qb mb : Nat} {dv dv' : Value} {n n' : Nat} {ds ds' : List Day} {rest : Array Value} {Tq : TypeId} {width : Int} {pushed : Nat} {lv lv' : Value} {l : List It} {L : List Ent} {x : It}
    (h : Pair w B qb mb dv n ds rest Tq width pushed lv l L) (ht : InInt x.t)
    (hQ : QCore w3 B qb mb dv' n' ds' rest Tq width ((L.length + 1 : Nat) : Int) ((pushed + 1 : Nat) : Int)) (hn : n' ≤ n + 1) (hA : (allEs ds').Perm (⟨x, pushed⟩ :: allEs ds)) (hF : Filled width ds')
    (hK : KeptF (Foot qb mb dv ds) w w3) (hft : ∀ k, Foot qb mb dv' ds' k → Foot qb mb dv ds k ∨ w.heap.size ≤ k) (hlt : ∀ k, Foot qb mb dv' ds' k → k < w3.heap.size)
    (hI : ISl w4 B lv' (l ++ [x])) (hg : KeptF (fun k => lv.ownBlock = some k) w3 w4) (hfr : ∀ g, lv'.ownBlock = some g → lv.ownBlock = some g ∨ w3.heap.size ≤ g) :
    Step w w4 B qb mb dv dv' ds ds' n' rest Tq width (pushed + 1) lv lv' (l ++ [x]) (L ++ [⟨x, pushed⟩]) := by
  have hlv : ∀ g, lv.ownBlock = some g → ¬ Foot qb mb dv' ds' g := by
    intro g hg' hf
    rcases hft g hf with h1 | h1
    · exact h.apartL g hg' h1
    · have := (h.list.lt hg').2; omega
  refine ⟨⟨?_, hF, ?_, ?_, ?_, ?_, ?_, hI, ?_, h.wid1, h.wid2, ?_, ?_⟩, ?_, ?_⟩
  · have := hQ.keep hg (fun i hi e => hlv i e hi)
    simpa using this
  · refine List.Perm.trans ?_ hA.symm
    exact (List.perm_append_singleton _ _).trans (h.perm.cons _)
  · rw [List.pairwise_append]
    refine ⟨h.sorted, by simp, fun a ha b hb => ?_⟩
    simp only [List.mem_cons, List.not_mem_nil, or_false] at hb
    subst hb
    exact (h.rank a ha).2
  · intro e he
    rcases List.mem_append.1 he with he | he
    · have := h.rank e he; omega
    · simp only [List.mem_cons, List.not_mem_nil, or_false] at he
      subst he
      simp only
      omega
  · simp [h.items]
  · intro e he
    rcases List.mem_append.1 he with he | he
    · exact h.inint e he
    · simp only [List.mem_cons, List.not_mem_nil, or_false] at he
      subst he
      exact ht
  · intro g hg' hf
    rcases hfr g hg' with h1 | h1
    · exact hlv g h1 hf
    · have := hlt g hf; omega
  · have := h.nle; omega
  · have := h.lenle; simp; omega
  · refine (hK.weaken (fun _ _ e => .inl e)).trans' hg (fun _ _ e => .inr e)
  · intro k hk
    rcases hk with hk | hk
    · rcases hft k hk with h1 | h1
      · exact .inl (.inl h1)
      · exact .inr h1
    · rcases hfr k hk with h1 | h1
      · exact .inl (.inr h1)
      · exact .inr (Nat.le_trans hK.size h1)

/-- what the first lines of a step have found -/
theorem least_cases {l : List It} {kk : Int} (h : LeastUpto l l.length kk) : (kk = -1 ∧ l = []) ∨ ∃ (j : Nat) (x : It), kk = j ∧ l[j]? = some x ∧ (∀ (m : Nat) (y : It), m < l.length → l[m]? = some y → ¬ y.lt x) ∧ (∀ (m : Nat) (y : It), m < j → l[m]? = some y → x.lt y) := by
  rcases h with ⟨h1, h2⟩ | ⟨j, x, h1, h2, h3, h4, h5⟩
  · exact .inl ⟨h2, List.eq_nil_of_length_eq_zero h1⟩
  · exact .inr ⟨j, x, h1, h3, h4, h5⟩

set_option maxRecDepth 100000 in
set_option maxHeartbeats 4000000 in
theorem played_push (w : World) (B qb mb : Nat) (dv : Value) (n : Nat) (ds : List Day) (rest : Array Value) (Tq : TypeId) (width : Int) (pushed : Nat) (lv : Value) (l : List It) (L : List Ent) (W : Int) (x : It)
    (h : Pair w B qb mb dv n ds rest Tq width pushed lv l L) (hBw : B ≤ w.heap.size) (hp : pushed < 2932031007317) (ht : InInt x.t) :
    Calls Try.prog 18 #[.pointer (some ⟨qb, 0, none⟩), lv, .agg #[.int .i64 1, .int .i64 W, .int .i64 x.t, .int .i64 x.f, .int .i64 x.s, .int .i64 x.l]] w
      (StepPost w B qb mb dv ds rest Tq width lv (fun p' l' => p' = pushed + 1 ∧ l'.length = l.length + 1)) := by
  obtain ⟨i0, hi0, hz0, hz1, hz2⟩ := info_parts info_ritem
  obtain ⟨hl1, hl2, hl3⟩ := h.lens
  have hll := h.lenle
  have hlv0 : ∃ ao cap, lv = .slice ao l.length cap := by
    rcases h.list.form with ⟨h1, h2⟩ | ⟨g, cap, h1, _⟩
    · rw [h2]; exact ⟨none, 0, h1⟩
    · exact ⟨_, _, h1⟩
  have hk0 : KeptF (fun _ => False) w (w.alloc (.cells #[.int .i64 1, .int .i64 W, .int .i64 x.t, .int .i64 x.f, .int .i64 x.s, .int .i64 x.l] 49)) := (KeptF.refl _ w).alloc _
  have hle := refLeast_any _ B lv l (h.list.keep hk0 (fun _ _ e => e)) (by omega)
  go_enter Try.func18, Try.ntmps18
  go_wp2_with fail
  refine hle.mono ?_
  rintro e w1 ⟨kk, rfl, hL, hb1⟩
  obtain ⟨hc1, hf1⟩ := bcell hb1
  have hs1 : w.heap.size < w1.heap.size := by have := hb1.size; simp at this; omega
  have hk1 : KeptF (fun _ => False) w w1 := hk0.trans (kept_of_below hb1)
  clear hle
  have hI1 := h.list.keep hk1 (fun _ _ e => e)
  have hop1 : Blk w1 w.heap.size #[.int .i64 1, .int .i64 W, .int .i64 x.t, .int .i64 x.f, .int .i64 x.s, .int .i64 x.l] 49 := by
    have hb : Blk (w.alloc (.cells #[.int .i64 1, .int .i64 W, .int .i64 x.t, .int .i64 x.f, .int .i64 x.s, .int .i64 x.l] 49)) w.heap.size #[.int .i64 1, .int .i64 W, .int .i64 x.t, .int .i64 x.f, .int .i64 x.s, .int .i64 x.l] 49 := heap_alloc_new w _
    exact hb.keep (kept_of_below hb1) (fun e => e)
  have o0 := hop1.cell 0
  have o2 := hop1.cell 2
  have o3 := hop1.cell 3
  have o4 := hop1.cell 4
  have o5 := hop1.cell 5
  simp only [List.getElem?_toArray, List.getElem?_cons_zero, List.getElem?_cons_succ] at o0 o2 o3 o4 o5
  clear hc1 hf1
  have hcase : ∃ u0 u1 u2 u3 : Int, ((kk = -1 ∧ u0 = 0 ∧ u1 = 0 ∧ u2 = 0 ∧ u3 = 0) ∨ ∃ (j : Nat) (g cap : Nat), kk = j ∧ lv = .slice (some ⟨g, 0, none⟩) l.length cap ∧ j < l.length ∧ w1.cell? ⟨g, j * 4, none⟩ = some (.int .i64 u0) ∧ w1.cell? ⟨g, j * 4 + 1, none⟩ = some (.int .i64 u1) ∧ w1.cell? ⟨g, j * 4 + 2, none⟩ = some (.int .i64 u2) ∧ w1.cell? ⟨g, j * 4 + 3, none⟩ = some (.int .i64 u3)) := by
    rcases least_cases hL with ⟨rfl, hnil⟩ | ⟨j, y, rfl, hy, _, _⟩
    · exact ⟨0, 0, 0, 0, .inl ⟨rfl, rfl, rfl, rfl, rfl⟩⟩
    · rcases hI1.form with ⟨_, h2⟩ | ⟨g, cap, h1, _⟩
      · rw [h2] at hy; simp at hy
      · rw [h1] at hI1
        obtain ⟨e0, e1, e2, e3⟩ := hI1.cells hy
        exact ⟨y.t, y.f, y.s, y.l, .inr ⟨j, g, cap, rfl, h1, get_lt hy, e0, e1, e2, e3⟩⟩
  have hcell : ∀ (W : World) (o : Obj) (p : Nat) (j : Nat) (u : Value), (itsC [x])[j]? = some u → (W.alloc (.cells #[.int .i64 x.t, .int .i64 x.f, .int .i64 x.s, .int .i64 x.l] 47)).cell? ((⟨W.heap.size, 0, none⟩ : Addr).add j) = some u := by
    intro W _ _ j u hu
    have hb : Blk (W.alloc (.cells #[.int .i64 x.t, .int .i64 x.f, .int .i64 x.s, .int .i64 x.l] 47)) W.heap.size #[.int .i64 x.t, .int .i64 x.f, .int .i64 x.s, .int .i64 x.l] 47 := heap_alloc_new W _
    have ha : ((⟨W.heap.size, 0, none⟩ : Addr).add j) = ⟨W.heap.size, j, none⟩ := by simp [Addr.add]; omega
    rw [ha, hb.cell, ← hu]
    simp [itsC, itC]
  obtain ⟨u0, u1, u2, u3, hcase⟩ := hcase
  have hpair := h
  have hq := fun W hk => qpush_any W B qb mb dv n ds rest Tq width L.length pushed x (h.core.keep (w' := W) (G := fun _ => False) hk (fun _ _ e => e)) h.filled
  have hnf : ¬ Foot qb mb dv ds w.heap.size := fun hk => by have := (h.core.foot_lt hk).2; omega
  have hIl := h.list
  have hnle := h.nle
  have hw1 := h.wid1
  have hw2 := h.wid2
  have hapl := h.apartL
  clear h hL hI1
  have Hrest : Hid (l.length = L.length) := hl3
  clear hl3
  rcases hcase with ⟨rfl, rfl, rfl, rfl, rfl⟩ | ⟨j, g, cap, rfl, hlv, hj, d0, d1, d2, d3⟩
  case' inr =>
    subst hlv
    have hgl : g < w1.heap.size := block_lt_of_cell d0
  all_goals
    go_wp2_with fail
    refine (item_any x _).mono ?_
    rintro e w2 ⟨rfl, hb2⟩
    have hk2 : KeptF (fun _ => False) w w2 := (hk1.alloc _).trans (kept_of_below hb2)
    have hop2 := hop1.keep (((KeptF.refl (fun _ => False) w1).alloc _).trans (kept_of_below hb2)) (fun e => e)
    have hs2 : w.heap.size < w2.heap.size := by have := hb2.size; simp at this; omega
    clear o0 o2 o3 o4 o5 hb2
    go_wp2_with fail
    refine (hq _ (hk2.alloc _) (by simp; have := hk2.size; omega) hw1 hw2 ht (by omega) (by omega) (by omega) hp (fun y hy => by have := hl2 y hy; omega)).mono ?_
    rintro e w3 ⟨rfl, dv', n', ds', hQ3, hn3, hA3, hF3, hK3, hft3, hlen3⟩
    have hop3 := (hop2.alloc _).keep hK3 hnf
    have o2 := hop3.cell 2
    have o3 := hop3.cell 3
    have o4 := hop3.cell 4
    have o5 := hop3.cell 5
    simp only [List.getElem?_toArray, List.getElem?_cons_zero, List.getElem?_cons_succ] at o2 o3 o4 o5
    have hKw : KeptF (Foot qb mb dv ds) w w3 := ((hk2.alloc _).weaken (fun _ _ e => e.elim)).trans hK3
    have hI3 := hIl.keep hKw hapl
    have hlt3 := fun k hk => (hQ3.foot_lt (k := k) hk).2
    clear hq hop2 hop1
    go_wp2_with (at_builtin; refine wpList_append_ownX rfl (.tmp 37) (.tmp 40) 50 rfl B 47 i0 _ 4 32 Try.underlying50 hi0 hz0 hz1 hz2 rfl (by decide) _ l.length (itsC l) rfl ?own ⟨w3.heap.size, 0, none⟩ 1 1 (itsC [x]) rfl rfl ?cells ?one ?b1 ?b2 ?hb ?k)
    case own => exact ownsRow_keep hI3 (F := fun _ => False) ((KeptF.refl _ _).alloc _) (fun _ _ e => e)
    case cells => exact hcell w3 default 0
    case one => exact itsC_one [x]
    case b1 => unfold maxLen; have := Hrest.out; omega
    case b2 => have := Hrest.out; omega
    case hb => simp; have := hKw.size; omega
    case k =>
      intro lv' w4 hown4 hgr4 hfr4
      go_wp2
      go_ret2
      have hI4 : ISl w4 B lv' (l ++ [x]) := by
        unfold ISl
        rw [itsC_append, List.length_append]
        first | exact hown4 | (rw [Hrest.out]; exact hown4)
      refine ⟨dv', ds', n', pushed + 1, lv', l ++ [x], L ++ [⟨x, pushed⟩], rfl, Pair.pushed hpair ht hQ3 hn3 hA3 hF3 hKw (fun k hk => (hft3 k hk).imp id (fun h' => ?_)) hlt3 hI4 ?_ ?_, rfl, by simp⟩
      · have := (hk2.alloc (.cells #[.int .i64 x.t, .int .i64 x.f, .int .i64 x.s, .int .i64 x.l] 117)).size
        omega
      · exact ((KeptF.refl _ w3).alloc _).trans (KeptF.of_grown hgr4 (fun k hk _ => hk))
      · intro g' hg'
        refine (hfr4 g' hg').imp id (fun h' => ?_)
        have : w3.heap.size + 1 ≤ g' := by simpa using h'
        omega

end Go.Proofs.Ytbpaigpjffdcbaa
